/- does: Write, whose two sides are evaluated in any order. -/
import Derived.Test.YtffniclijiekkaaDoes2
import Derived.Deep.RegionHeld3
namespace Go.Proofs.Ytffniclijiekkaa
open Go Go.RowKit

/-- Both disks, each in its own state, and the box of the step beside them. -/
structure Two (DAt : World → Nat → St → (Nat → Prop) → Prop) (B : Nat) (w u : World) (p q n : Nat) (F : Nat → Prop) (vS vL : Value) (s1 s2 : St) (v0 v1 v2 v3 v4 : Value) : Prop where
  d : DAt u p s1 F
  r : RAt u q vS vL s2
  apart : ∀ k, F k → ¬ RF q vS vL k
  fromD : ∀ k, F k → B ≤ k
  fromR : ∀ k, RF q vS vL k → B ≤ k
  below : Below B w u
  size : B ≤ w.heap.size
  box : Box5 n v0 v1 v2 v3 v4 u
  nF : ¬ F n
  nR : ¬ RF q vS vL n
theorem Two.sizeU {DAt : World → Nat → St → (Nat → Prop) → Prop} {B : Nat} {w u : World} {p q n : Nat} {F : Nat → Prop} {vS vL : Value} {s1 s2 : St} {v0 v1 v2 v3 v4 : Value} (h : Two DAt B w u p q n F vS vL s1 s2 v0 v1 v2 v3 v4) : B ≤ u.heap.size := Nat.le_trans h.size h.below.size
theorem Two.old {DAt : World → Nat → St → (Nat → Prop) → Prop} (C : Con DAt) {B : Nat} {w u v : World} {p q n : Nat} {F : Nat → Prop} {vS vL : Value} {s1 s2 : St} {v0 v1 v2 v3 v4 : Value} (h : Two DAt B w u p q n F vS vL s1 s2 v0 v1 v2 v3 v4) (hb : Below u.heap.size u v) : Two DAt B w v p q n F vS vL s1 s2 v0 v1 v2 v3 v4 :=
  ⟨C.below h.d hb, h.r.below hb, h.apart, h.fromD, h.fromR, h.below.trans (hb.mono h.sizeU), h.size, h.box.below hb, h.nF, h.nR⟩
theorem Two.stepD {DAt : World → Nat → St → (Nat → Prop) → Prop} {B : Nat} {w u v : World} {p q n : Nat} {F F' : Nat → Prop} {vS vL : Value} {s1 s1' s2 : St} {v0 v1 v2 v3 v4 : Value} (h : Two DAt B w u p q n F vS vL s1 s2 v0 v1 v2 v3 v4) (hd : DAt v p s1' F') (hl : Loc F F' u v) : Two DAt B w v p q n F' vS vL s1' s2 v0 v1 v2 v3 v4 :=
  ⟨hd, h.r.same (hl.other h.apart h.r.lt), hl.apart h.apart h.r.lt, hl.beyond h.fromD h.sizeU, h.fromR, h.below.trans (hl.below h.fromD h.sizeU), h.size, (hl.block n h.box.lt h.nF).trans h.box, fun hf => by
    rcases hl.own n hf with h1 | h1
    · exact h.nF h1
    · have := h.box.lt; omega, h.nR⟩
theorem Two.stepR {DAt : World → Nat → St → (Nat → Prop) → Prop} (C : Con DAt) {B : Nat} {w u v : World} {p q n : Nat} {F : Nat → Prop} {vS vL vL' : Value} {s1 s2 s2' : St} {v0 v1 v2 v3 v4 : Value} (h : Two DAt B w u p q n F vS vL s1 s2 v0 v1 v2 v3 v4) (hr : RAt v q vS vL' s2') (hl : Loc (RF q vS vL) (RF q vS vL') u v) : Two DAt B w v p q n F vS vL' s1 s2' v0 v1 v2 v3 v4 := by
  have ha : ∀ k, RF q vS vL k → ¬ F k := fun k h1 h2 => h.apart k h2 h1
  exact ⟨C.same h.d (hl.other ha (C.lt h.d)), hr, fun k h1 h2 => hl.apart ha (C.lt h.d) k h2 h1, h.fromD, hl.beyond h.fromR h.sizeU, h.below.trans (hl.below h.fromR h.sizeU), h.size, (hl.block n h.box.lt h.nR).trans h.box, h.nF, fun hf => by
    rcases hl.own n hf with h1 | h1
    · exact h.nR h1
    · have := h.box.lt; omega⟩
theorem Two.drew {DAt : World → Nat → St → (Nat → Prop) → Prop} (C : Con DAt) {B : Nat} {w u : World} {p q n : Nat} {F : Nat → Prop} {vS vL : Value} {s1 s2 : St} {v0 v1 v2 v3 v4 : Value} (h : Two DAt B w u p q n F vS vL s1 s2 v0 v1 v2 v3 v4) : Two DAt B w u.drew p q n F vS vL s1 s2 v0 v1 v2 v3 v4 := h.old C ((Below.refl _ _).drew)
theorem Two.both {DAt : World → Nat → St → (Nat → Prop) → Prop} {B : Nat} {w u : World} {p q n : Nat} {F : Nat → Prop} {vS vL : Value} {s : St} {v0 v1 v2 v3 v4 : Value} (h : Two DAt B w u p q n F vS vL s s v0 v1 v2 v3 v4) : Both DAt B w u p q F vS vL s := ⟨h.d, h.r, h.apart, h.fromD, h.fromR, h.below, h.size⟩
theorem Both.two {DAt : World → Nat → St → (Nat → Prop) → Prop} (C : Con DAt) {B : Nat} {w u : World} {p q : Nat} {F : Nat → Prop} {vS vL : Value} {s : St} (h : Both DAt B w u p q F vS vL s) (v0 v1 v2 v3 v4 : Value) : Two DAt B w (u.alloc (.cells #[v0, v1, v2, v3, v4] 35)) p q u.heap.size F vS vL s s v0 v1 v2 v3 v4 := by
  have h2 := h.old C ((Below.refl _ _).alloc (Nat.le_refl _) (.cells #[v0, v1, v2, v3, v4] 35))
  exact ⟨h2.d, h2.r, h2.apart, h2.fromD, h2.fromR, h2.below, h2.size, heap_alloc_last u _, fun hf => Nat.lt_irrefl _ (C.lt h.d _ hf), fun hf => Nat.lt_irrefl _ (h.r.lt _ hf)⟩
set_option maxRecDepth 10000 in
set_option maxHeartbeats 8000000 in
theorem does0 {DAt : World → Nat → St → (Nat → Prop) → Prop} (C : Con DAt) (B : Nat) (w u : World) (p q : Nat) (F : Nat → Prop) (vS vL : Value) (st : St) (x : Stp) (h : Both DAt B w u p q F vS vL st) (hok : st.Ok) (hl : st.loose.length ≤ 10000) (hx : x.Ok) (ha : x.act % 5 = 0) :
    Calls Try.prog 11 #[.pointer (some ⟨p, 0, none⟩), .pointer (some ⟨q, 0, none⟩), x.val] u (DoesSays DAt B w p q vS (st.step x)) := by
  rw [step0 ha]
  have HC := hide C
  have HOk := hide hok
  have HX := hide hx
  have HL := hide hl
  have hm := mod5 x.act 0 ha
  have hact := hx.act
  have HK := hide (h.two C (.int .u8 (x.act : Int)) (.int .i64 x.b) (.int .u8 (x.byte : Int)) (.int .u8 (x.odd : Int)) (.slice x.pa x.picks.length x.pc))
  have KD : Hid (∀ (v0 v1 v4 : Value) (z : World), Calls Try.prog 22 #[.agg #[v0, v1, .int .u8 (x.byte : Int), .int .u8 (x.odd : Int), v4]] z fun e v => e = .returned (.string x.data) ∧ Below z.heap.size z v) := fun v0 v1 v4 z => data_any v0 v1 v4 x.byte x.odd z hx.byte hx.odd
  have HDs : Hid (x.data.size ≤ 140737488351232) := by
    unfold Hid Stp.data
    rw [ByteArray.size_append, fullT_size, zt_size]
    omega
  clear C hok h hx ha hl
  unfold Stp.val
  go_enter Try.func11, Try.ntmps11
  go_wp2_with fail
  generalize x.data = D at *
  generalize u.alloc (.cells #[.int .u8 (x.act : Int), .int .i64 x.b, .int .u8 (x.byte : Int), .int .u8 (x.odd : Int), .slice x.pa x.picks.length x.pc] 35) = U at *
  generalize u.heap.size = n at *
  have K := Two.drew HC.out HK.out
  go_region_held3 (fun z => z.cell? ⟨n, 0, none⟩ = some (.int .u8 (x.act : Int)) ∧ z.cell? ⟨n, 1, none⟩ = some (.int .i64 x.b) ∧ z.cell? ⟨n, 2, none⟩ = some (.int .u8 (x.byte : Int)) ∧ z.cell? ⟨n, 3, none⟩ = some (.int .u8 (x.odd : Int)) ∧ z.cell? ⟨n, 4, none⟩ = some (.slice x.pa x.picks.length x.pc))
    ((with_reducible exact Box5.cell K.box))
    (first
    | (go_at_call 22; refine (KD.out _ _ _ _).mono ?_; rintro e z1 ⟨rfl, hb1⟩; have K := Two.old HC.out K hb1)
    | (go_at_call 16; refine (HC.out.write p st _ x.b D _ K.d HOk.out HL.out HX.out.b HDs.out).mono ?_; rintro e z2 ⟨rfl, F1, h2, l2⟩; have K := Two.stepD K h2 l2)
    | (go_at_call 23; refine (rWrite q _ _ st x.b D _ K.r HOk.out (Nat.le_trans HL.out (by decide))).mono ?_; rintro e z3 ⟨rfl, vL1, h3, l3⟩; have K := Two.stepR HC.out K h3 l3))
  all_goals
    have HB := hide K.both
    clear K
    go_wp2
    go_ret
    exact DoesSays.mk HB.out
/-- What a step leaves of a disk. -/
theorem St.Ok.step {st : St} (h : st.Ok) (x : Stp) (hx : x.Ok) : (st.step x).Ok := by
  unfold St.step
  split
  · exact h.write _ _
  · split
    · exact h.sync
    · split
      · exact h.crash _
      · split
        · exact h
        · exact h.fuse _ hx.b.2
theorem write_loose (st : St) (b : Int) (d : ByteArray) : (st.write b d).2.loose.length ≤ st.loose.length + 1 := by
  unfold St.write
  split
  · exact Nat.le_succ _
  · split
    · exact Nat.le_succ _
    · split
      · exact Nat.le_succ _
      · show (st.loose ++ [_]).length ≤ _
        rw [List.length_append]
        exact Nat.le_refl _
theorem sync_loose (st : St) : st.sync.2.loose.length ≤ st.loose.length := by
  unfold St.sync
  split
  · exact Nat.le_refl _
  · exact Nat.zero_le _
theorem step_loose (st : St) (x : Stp) : (st.step x).loose.length ≤ st.loose.length + 1 := by
  unfold St.step
  split
  · exact write_loose _ _ _
  · split
    · exact Nat.le_trans (sync_loose st) (Nat.le_succ _)
    · split
      · exact Nat.zero_le _
      · split <;> exact Nat.le_succ _
theorem does_any {DAt : World → Nat → St → (Nat → Prop) → Prop} (C : Con DAt) (B : Nat) (w u : World) (p q : Nat) (F : Nat → Prop) (vS vL : Value) (st : St) (x : Stp) (h : Both DAt B w u p q F vS vL st) (hok : st.Ok) (hl : st.loose.length ≤ 10000) (hx : x.Ok)
    (hP : IntsAt u x.pa x.picks) (hPB : x.picks ≠ [] → ∀ b off, x.pa = some ⟨b, off, none⟩ → b < B) (hpl : x.picks.length ≤ 400) :
    Calls Try.prog 11 #[.pointer (some ⟨p, 0, none⟩), .pointer (some ⟨q, 0, none⟩), x.val] u (DoesSays DAt B w p q vS (st.step x)) := by
  rcases (by omega : x.act % 5 = 0 ∨ x.act % 5 = 1 ∨ x.act % 5 = 2 ∨ x.act % 5 = 3 ∨ x.act % 5 = 4) with ha | ha | ha | ha | ha
  · exact does0 C B w u p q F vS vL st x h hok hl hx ha
  · exact does1 C B w u p q F vS vL st x h hok hl hx ha
  · exact does2 C B w u p q F vS vL st x h hok hl hx ha hP hPB hpl
  · exact does3 C B w u p q F vS vL st x h hok hl hx ha
  · exact does4 C B w u p q F vS vL st x h hok hl hx ha
end Go.Proofs.Ytffniclijiekkaa
