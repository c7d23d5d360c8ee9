/- What does does: both disks make the same step. -/
import Derived.Test.YtffniclijiekkaaHeavy
namespace Go.Proofs.Ytffniclijiekkaa
open Go Go.RowKit

/-- The text of a step. -/
def Stp.data (x : Stp) : ByteArray := fullT x.byte ++ zt (x.odd % 3)
/-- A step of a disk. -/
def St.step (st : St) (x : Stp) : St :=
  if x.act % 5 = 0 then (st.write x.b x.data).2 else if x.act % 5 = 1 then st.sync.2 else if x.act % 5 = 2 then st.crash x.picks else if x.act % 5 = 3 then st else st.fuse x.b
/-- Both disks, in one state, apart from each other, and all behind B. -/
structure Both (DAt : World → Nat → St → (Nat → Prop) → Prop) (B : Nat) (w u : World) (p q : Nat) (F : Nat → Prop) (vS vL : Value) (st : St) : Prop where
  d : DAt u p st F
  r : RAt u q vS vL st
  apart : ∀ k, F k → ¬ RF q vS vL k
  fromD : ∀ k, F k → B ≤ k
  fromR : ∀ k, RF q vS vL k → B ≤ k
  below : Below B w u
  size : B ≤ w.heap.size
theorem Both.sizeU {DAt : World → Nat → St → (Nat → Prop) → Prop} {B : Nat} {w u : World} {p q : Nat} {F : Nat → Prop} {vS vL : Value} {st : St} (h : Both DAt B w u p q F vS vL st) : B ≤ u.heap.size := Nat.le_trans h.size h.below.size
theorem Both.old {DAt : World → Nat → St → (Nat → Prop) → Prop} (C : Con DAt) {B : Nat} {w u v : World} {p q : Nat} {F : Nat → Prop} {vS vL : Value} {st : St} (h : Both DAt B w u p q F vS vL st) (hb : Below u.heap.size u v) : Both DAt B w v p q F vS vL st :=
  ⟨C.below h.d hb, h.r.below hb, h.apart, h.fromD, h.fromR, h.below.trans (hb.mono h.sizeU), h.size⟩
/-- The program's disk alone has gone on. -/
structure Ahead (DAt : World → Nat → St → (Nat → Prop) → Prop) (B : Nat) (w u : World) (p q : Nat) (F : Nat → Prop) (vS vL : Value) (st st' : St) : Prop where
  d : DAt u p st' F
  r : RAt u q vS vL st
  apart : ∀ k, F k → ¬ RF q vS vL k
  fromD : ∀ k, F k → B ≤ k
  fromR : ∀ k, RF q vS vL k → B ≤ k
  below : Below B w u
  size : B ≤ w.heap.size
theorem Both.first {DAt : World → Nat → St → (Nat → Prop) → Prop} {B : Nat} {w u v : World} {p q : Nat} {F F' : Nat → Prop} {vS vL : Value} {st st' : St} (h : Both DAt B w u p q F vS vL st) (hd : DAt v p st' F') (hl : Loc F F' u v) : Ahead DAt B w v p q F' vS vL st st' :=
  ⟨hd, h.r.same (hl.other h.apart h.r.lt), hl.apart h.apart h.r.lt, hl.beyond h.fromD h.sizeU, h.fromR, h.below.trans (hl.below h.fromD h.sizeU), h.size⟩
theorem Ahead.old {DAt : World → Nat → St → (Nat → Prop) → Prop} (C : Con DAt) {B : Nat} {w u v : World} {p q : Nat} {F : Nat → Prop} {vS vL : Value} {st st' : St} (h : Ahead DAt B w u p q F vS vL st st') (hb : Below u.heap.size u v) : Ahead DAt B w v p q F vS vL st st' :=
  ⟨C.below h.d hb, h.r.below hb, h.apart, h.fromD, h.fromR, h.below.trans (hb.mono (Nat.le_trans h.size h.below.size)), h.size⟩
theorem Ahead.then {DAt : World → Nat → St → (Nat → Prop) → Prop} (C : Con DAt) {B : Nat} {w u v : World} {p q : Nat} {F : Nat → Prop} {vS vL vL' : Value} {st st' : St} (h : Ahead DAt B w u p q F vS vL st st') (hr : RAt v q vS vL' st') (hl : Loc (RF q vS vL) (RF q vS vL') u v) : Both DAt B w v p q F vS vL' st' := by
  have ha : ∀ k, RF q vS vL k → ¬ F k := fun k h1 h2 => h.apart k h2 h1
  have hs : B ≤ u.heap.size := Nat.le_trans h.size h.below.size
  exact ⟨C.same h.d (hl.other ha (C.lt h.d)), hr, fun k h1 h2 => hl.apart ha (C.lt h.d) k h2 h1, h.fromD, hl.beyond h.fromR hs, h.below.trans (hl.below h.fromR hs), h.size⟩
/-- What does tells. -/
def DoesSays (DAt : World → Nat → St → (Nat → Prop) → Prop) (B : Nat) (w : World) (p q : Nat) (vS : Value) (st' : St) (e : Ending) (v : World) : Prop :=
  e = .returned (.bool true) ∧ ∃ F' vL', Both DAt B w v p q F' vS vL' st'
theorem DoesSays.mk {DAt : World → Nat → St → (Nat → Prop) → Prop} {B : Nat} {w v : World} {p q : Nat} {vS : Value} {st' : St} {F' : Nat → Prop} {vL' : Value} (h : Both DAt B w v p q F' vS vL' st') : DoesSays DAt B w p q vS st' (.returned (.bool true)) v := ⟨rfl, F', vL', h⟩
theorem mod5 (a k : Nat) (h : a % 5 = k) : Int.tmod (a : Int) 5 = (k : Int) := by rw [Int.tmod_eq_emod_of_nonneg (by omega)]; omega
theorem step1 {st : St} {x : Stp} (h : x.act % 5 = 1) : st.step x = st.sync.2 := by unfold St.step; rw [if_neg (by omega), if_pos h]
theorem step2 {st : St} {x : Stp} (h : x.act % 5 = 2) : st.step x = st.crash x.picks := by unfold St.step; rw [if_neg (by omega), if_neg (by omega), if_pos h]
theorem step3 {st : St} {x : Stp} (h : x.act % 5 = 3) : st.step x = st := by unfold St.step; rw [if_neg (by omega), if_neg (by omega), if_neg (by omega), if_pos h]
theorem step4 {st : St} {x : Stp} (h : x.act % 5 = 4) : st.step x = st.fuse x.b := by unfold St.step; rw [if_neg (by omega), if_neg (by omega), if_neg (by omega), if_neg (by omega)]
theorem step0 {st : St} {x : Stp} (h : x.act % 5 = 0) : st.step x = (st.write x.b x.data).2 := by unfold St.step; rw [if_pos h]
set_option maxRecDepth 10000 in
set_option maxHeartbeats 2000000 in
theorem does1 {DAt : World → Nat → St → (Nat → Prop) → Prop} (C : Con DAt) (B : Nat) (w u : World) (p q : Nat) (F : Nat → Prop) (vS vL : Value) (st : St) (x : Stp) (h : Both DAt B w u p q F vS vL st) (hok : st.Ok) (hl : st.loose.length ≤ 10000) (hx : x.Ok) (ha : x.act % 5 = 1) :
    Calls Try.prog 11 #[.pointer (some ⟨p, 0, none⟩), .pointer (some ⟨q, 0, none⟩), x.val] u (DoesSays DAt B w p q vS (st.step x)) := by
  rw [step1 ha]
  have HC := hide C
  have HOk := hide hok
  have hm := mod5 x.act 1 ha
  have hact := hx.act
  have H := hide (h.old C ((Below.refl _ _).alloc (Nat.le_refl _) (.cells #[.int .u8 (x.act : Int), .int .i64 x.b, .int .u8 (x.byte : Int), .int .u8 (x.odd : Int), .slice x.pa x.picks.length x.pc] 35)))
  clear C hok h hx ha
  unfold Stp.val
  go_enter Try.func11, Try.ntmps11
  go_wp2_with fail
  generalize u.alloc (.cells #[.int .u8 (x.act : Int), .int .i64 x.b, .int .u8 (x.byte : Int), .int .u8 (x.odd : Int), .slice x.pa x.picks.length x.pc] 35) = U at *
  refine (HC.out.sync p st F U H.out.d HOk.out hl).mono ?_
  rintro e w1 ⟨rfl, F1, h1, l1⟩
  have H1 := hide (H.out.first h1 l1)
  clear h1 l1
  go_wp2_with fail
  refine (rSync q vS vL st w1 H1.out.r HOk.out (by omega)).mono ?_
  rintro e w2 ⟨rfl, vL', h2, l2⟩
  have H2 := hide (H1.out.then HC.out h2 l2)
  clear h2 l2
  go_wp2
  go_ret
  exact DoesSays.mk H2.out
set_option maxRecDepth 10000 in
set_option maxHeartbeats 2000000 in
theorem does3 {DAt : World → Nat → St → (Nat → Prop) → Prop} (C : Con DAt) (B : Nat) (w u : World) (p q : Nat) (F : Nat → Prop) (vS vL : Value) (st : St) (x : Stp) (h : Both DAt B w u p q F vS vL st) (hok : st.Ok) (hl : st.loose.length ≤ 10000) (hx : x.Ok) (ha : x.act % 5 = 3) :
    Calls Try.prog 11 #[.pointer (some ⟨p, 0, none⟩), .pointer (some ⟨q, 0, none⟩), x.val] u (DoesSays DAt B w p q vS (st.step x)) := by
  rw [step3 ha]
  have HC := hide C
  have HOk := hide hok
  have HX := hide hx
  have hm := mod5 x.act 3 ha
  have hact := hx.act
  have hb0 := (Below.refl u.heap.size u).alloc (Nat.le_refl _) (.cells #[.int .u8 (x.act : Int), .int .i64 x.b, .int .u8 (x.byte : Int), .int .u8 (x.odd : Int), .slice x.pa x.picks.length x.pc] 35)
  have H := hide (h.old C hb0)
  have HBox : Hid (Box5 u.heap.size (.int .u8 (x.act : Int)) (.int .i64 x.b) (.int .u8 (x.byte : Int)) (.int .u8 (x.odd : Int)) (.slice x.pa x.picks.length x.pc) (u.alloc (.cells #[.int .u8 (x.act : Int), .int .i64 x.b, .int .u8 (x.byte : Int), .int .u8 (x.odd : Int), .slice x.pa x.picks.length x.pc] 35))) := heap_alloc_last u _
  have HNF : Hid (¬ F u.heap.size) := fun hf => Nat.lt_irrefl _ (C.lt h.d _ hf)
  clear C hok h hx ha hb0
  unfold Stp.val
  go_enter Try.func11, Try.ntmps11
  go_wp2_with fail
  generalize u.alloc (.cells #[.int .u8 (x.act : Int), .int .i64 x.b, .int .u8 (x.byte : Int), .int .u8 (x.odd : Int), .slice x.pa x.picks.length x.pc] 35) = U at *
  refine (HC.out.read p st F x.b U H.out.d HOk.out hl HX.out.b).mono ?_
  rintro e w1 ⟨rfl, hb⟩
  have H1 := hide (H.out.old HC.out hb)
  have hc1 := (HBox.out.below hb).cell.2.1
  clear hb
  go_wp2_with fail
  refine (rRead q vS vL st x.b w1 H1.out.r HOk.out (by omega)).mono ?_
  rintro e w2 ⟨rfl, hw2⟩
  obtain rfl := hw2.symm
  generalize (st.read x.b).1 = t1 at *
  generalize (st.read x.b).2 = t2 at *
  go_wp2
  go_ret
  exact DoesSays.mk H1.out
set_option maxRecDepth 10000 in
set_option maxHeartbeats 2000000 in
theorem does4 {DAt : World → Nat → St → (Nat → Prop) → Prop} (C : Con DAt) (B : Nat) (w u : World) (p q : Nat) (F : Nat → Prop) (vS vL : Value) (st : St) (x : Stp) (h : Both DAt B w u p q F vS vL st) (hok : st.Ok) (_hl : st.loose.length ≤ 10000) (hx : x.Ok) (ha : x.act % 5 = 4) :
    Calls Try.prog 11 #[.pointer (some ⟨p, 0, none⟩), .pointer (some ⟨q, 0, none⟩), x.val] u (DoesSays DAt B w p q vS (st.step x)) := by
  rw [step4 ha]
  have HC := hide C
  have HOk := hide hok
  have HX := hide hx
  have hm := mod5 x.act 4 ha
  have hact := hx.act
  have hb0 := (Below.refl u.heap.size u).alloc (Nat.le_refl _) (.cells #[.int .u8 (x.act : Int), .int .i64 x.b, .int .u8 (x.byte : Int), .int .u8 (x.odd : Int), .slice x.pa x.picks.length x.pc] 35)
  have H := hide (h.old C hb0)
  have HBox : Hid (Box5 u.heap.size (.int .u8 (x.act : Int)) (.int .i64 x.b) (.int .u8 (x.byte : Int)) (.int .u8 (x.odd : Int)) (.slice x.pa x.picks.length x.pc) (u.alloc (.cells #[.int .u8 (x.act : Int), .int .i64 x.b, .int .u8 (x.byte : Int), .int .u8 (x.odd : Int), .slice x.pa x.picks.length x.pc] 35))) := heap_alloc_last u _
  have HNF : Hid (¬ F u.heap.size) := fun hf => Nat.lt_irrefl _ (C.lt h.d _ hf)
  clear C hok h hx ha hb0
  unfold Stp.val
  go_enter Try.func11, Try.ntmps11
  go_wp2_with fail
  generalize u.alloc (.cells #[.int .u8 (x.act : Int), .int .i64 x.b, .int .u8 (x.byte : Int), .int .u8 (x.odd : Int), .slice x.pa x.picks.length x.pc] 35) = U at *
  refine (HC.out.fuse p st F x.b U H.out.d HOk.out HX.out.b).mono ?_
  rintro e w1 ⟨rfl, F1, h1, l1⟩
  have H1 := hide (H.out.first h1 l1)
  have hc1 : w1.cell? ⟨u.heap.size, 1, none⟩ = some (.int .i64 x.b) := (World.cell?_of_block (w := U) (l1.block u.heap.size HBox.out.lt (fun hf => HNF.out hf))).trans HBox.out.cell.2.1
  clear h1 l1
  go_wp2_with fail
  refine (rFuse q vS vL st x.b w1 H1.out.r HX.out.b.2).mono ?_
  rintro e w2 ⟨⟨v2, rfl⟩, h2, l2⟩
  have H2 := hide (H1.out.then HC.out h2 l2)
  clear h2 l2
  go_wp2
  go_ret
  exact DoesSays.mk H2.out
end Go.Proofs.Ytffniclijiekkaa
