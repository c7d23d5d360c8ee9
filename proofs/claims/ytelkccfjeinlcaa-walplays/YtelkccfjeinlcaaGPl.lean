/- The law WalPlays: both logs, side by side. The law WalPlays: open of both, and its data. The law WalPlays: one step of both. The law WalPlays: steps of both: Fuse, Write, open, Clear. -/
import Derived.Test.YtelkccfjeinlcaaGROpen
import Derived.Test.YtelkccfjeinlcaaGAlive
import Derived.Test.YtelkccfjeinlcaaGSt
namespace Go.Proofs.Ytelkccfjeinlcaa
open Go Go.RowKit Frm Go.Shelf
/-- Two objects of the caller's own, and a box, all apart: the blocks A, the blocks C, the block B. -/
structure Core (w : World) (B : Nat) (A C : Nat → Prop) (u : World) : Prop where
  below : Below w.heap.size w u
  aC : ∀ k, A k → ¬ C k
  aB : ¬ A B
  cB : ¬ C B
  aNew : ∀ k, A k → w.heap.size ≤ k
  cNew : ∀ k, C k → w.heap.size ≤ k
  aLt : ∀ k, A k → k < u.heap.size
  cLt : ∀ k, C k → k < u.heap.size
  bNew : w.heap.size ≤ B
  bLt : B < u.heap.size
theorem Core.keep {w : World} {B : Nat} {A C : Nat → Prop} {u v : World} (h : Core w B A C u) (hb : Below u.heap.size u v) : Core w B A C v :=
  ⟨bnext h.below hb, h.aC, h.aB, h.cB, h.aNew, h.cNew, fun k hk => Nat.lt_of_lt_of_le (h.aLt k hk) hb.size, fun k hk => Nat.lt_of_lt_of_le (h.cLt k hk) hb.size, h.bNew, Nat.lt_of_lt_of_le h.bLt hb.size⟩
theorem Core.less {w : World} {B : Nat} {A C A' C' : Nat → Prop} {u : World} (h : Core w B A C u) (ha : ∀ k, A' k → A k) (hc : ∀ k, C' k → C k) : Core w B A' C' u :=
  ⟨h.below, fun k h1 h2 => h.aC k (ha k h1) (hc k h2), fun h1 => h.aB (ha _ h1), fun h1 => h.cB (hc _ h1), fun k hk => h.aNew k (ha k hk), fun k hk => h.cNew k (hc k hk), fun k hk => h.aLt k (ha k hk), fun k hk => h.cLt k (hc k hk), h.bNew, h.bLt⟩
theorem Core.stepA {w : World} {B : Nat} {A A' C : Nat → Prop} {u v : World} (h : Core w B A C u) (hl : Loc A A' u v) (hlt : ∀ k, A' k → k < v.heap.size) : Core w B A' C v := by
  have hs := h.below.size
  refine ⟨h.below.trans (hl.below h.aNew hs), hl.apart h.aC h.cLt, fun hf => ?_, h.cB, hl.beyond h.aNew hs, h.cNew, hlt, fun k hk => Nat.lt_of_lt_of_le (h.cLt k hk) hl.size, h.bNew, Nat.lt_of_lt_of_le h.bLt hl.size⟩
  rcases hl.own B hf with h1 | h1
  · exact h.aB h1
  · have := h.bLt; omega
theorem Core.flip {w : World} {B : Nat} {A C : Nat → Prop} {u : World} (h : Core w B A C u) : Core w B C A u := ⟨h.below, fun k h1 h2 => h.aC k h2 h1, h.cB, h.aB, h.cNew, h.aNew, h.cLt, h.aLt, h.bNew, h.bLt⟩
theorem Core.stepC {w : World} {B : Nat} {A C C' : Nat → Prop} {u v : World} (h : Core w B A C u) (hl : Loc C C' u v) (hlt : ∀ k, C' k → k < v.heap.size) : Core w B A C' v := (h.flip.stepA hl hlt).flip
theorem Core.set {w : World} {B : Nat} {A C : Nat → Prop} {u : World} (h : Core w B A C u) (i : Nat) (x : Value) : Core w B A C (u.setCell ⟨B, i, none⟩ x) := by
  have hsz : (u.setCell ⟨B, i, none⟩ x).heap.size = u.heap.size := by simp [World.setCell]
  exact ⟨h.below.setCell (p := ⟨B, i, none⟩) h.bNew x, h.aC, h.aB, h.cB, h.aNew, h.cNew, fun k hk => by rw [hsz]; exact h.aLt k hk, fun k hk => by rw [hsz]; exact h.cLt k hk, h.bNew, by rw [hsz]; exact h.bLt⟩
/-- The box of both. -/
def BAt (u : World) (B pd pr : Nat) (lv xv : Value) (o n : Int) : Prop := u.heap[B]? = some (.cells #[.pointer (some ⟨pd, 0, none⟩), .pointer (some ⟨pr, 0, none⟩), lv, xv, .int .i64 o, .int .i64 n] 36 (0, 0))
theorem BAt.same {u v : World} {B pd pr : Nat} {lv xv : Value} {o n : Int} (h : BAt u B pd pr lv xv o n) (hv : v.heap[B]? = u.heap[B]?) : BAt v B pd pr lv xv o n := hv.trans h
theorem BAt.lt {u : World} {B pd pr : Nat} {lv xv : Value} {o n : Int} (h : BAt u B pd pr lv xv o n) : B < u.heap.size := (Array.getElem?_eq_some_iff.1 h).1
theorem BAt.cells {u : World} {B pd pr : Nat} {lv xv : Value} {o n : Int} (h : BAt u B pd pr lv xv o n) : u.cell? ⟨B, 0, none⟩ = some (.pointer (some ⟨pd, 0, none⟩)) ∧ u.cell? ⟨B, 1, none⟩ = some (.pointer (some ⟨pr, 0, none⟩)) ∧ u.cell? ⟨B, 2, none⟩ = some lv ∧ u.cell? ⟨B, 3, none⟩ = some xv ∧ u.cell? ⟨B, 4, none⟩ = some (.int .i64 o) ∧ u.cell? ⟨B, 5, none⟩ = some (.int .i64 n) := by
  have e : u.heap[B]? = _ := h
  refine ⟨?_, ?_, ?_, ?_, ?_, ?_⟩ <;> simp [World.cell?, e]
theorem BAt.free {u : World} {B pd pr : Nat} {lv xv : Value} {o n : Int} (h : BAt u B pd pr lv xv o n) (i : Nat) : u.frozen? ⟨B, i, none⟩ = false := by simp [World.frozen?, show u.heap[B]? = _ from h]
theorem BAt.setL {u : World} {B pd pr : Nat} {lv xv : Value} {o n : Int} (h : BAt u B pd pr lv xv o n) (v : Value) : BAt (u.setCell ⟨B, 2, none⟩ v) B pd pr v xv o n := heap_set3 (i := 2) h v
theorem BAt.setX {u : World} {B pd pr : Nat} {lv xv : Value} {o n : Int} (h : BAt u B pd pr lv xv o n) (v : Value) : BAt (u.setCell ⟨B, 3, none⟩ v) B pd pr lv v o n := heap_set3 (i := 3) h v
/-- Both disks, and the box. -/
structure Disks (w : World) (B pd pr : Nat) (o n : Int) (st : St) (c : Nat) (F G : Nat → Prop) (lv xv : Value) (u : World) : Prop where
  form : Form 8 c st
  d : DAt u pd st F
  r : RD u pr st G
  core : Core w B F G u
  box : BAt u B pd pr lv xv o n
/-- Both logs: there is none, or there are two alike. -/
def Logs (u : World) (pd pr : Nat) (o n : Int) (F G : Nat → Prop) (lv xv : Value) (A C : Nat → Prop) : Prop :=
  (lv = .pointer none ∧ xv = .pointer none ∧ A = F ∧ C = G) ∨
  ∃ (p x o' N : Nat) (s : ByteArray) (b : Bool), lv = .pointer (some ⟨p, 0, none⟩) ∧ xv = .pointer (some ⟨x, 0, none⟩) ∧ o = (o' : Int) ∧ n = (N : Int) ∧ 1 ≤ N ∧ o' + N ≤ 8 ∧ s.size ≤ N * 255 ∧ LAt u p pd o' N s b ∧ RLAt u x pr o' N s b ∧ ¬ F p ∧ ¬ G x ∧ A = (fun k => F k ∨ k = p) ∧ C = (fun k => G k ∨ k = x)
/-- All of it. -/
structure Full (w : World) (B pd pr : Nat) (o n : Int) (st : St) (c : Nat) (F G A C : Nat → Prop) (lv xv : Value) (u : World) : Prop where
  form : Form 8 c st
  d : DAt u pd st F
  r : RD u pr st G
  core : Core w B A C u
  box : BAt u B pd pr lv xv o n
  logs : Logs u pd pr o n F G lv xv A C
theorem Full.disks {w : World} {B pd pr : Nat} {o n : Int} {st : St} {c : Nat} {F G A C : Nat → Prop} {lv xv : Value} {u : World} (h : Full w B pd pr o n st c F G A C lv xv u) : Disks w B pd pr o n st c F G lv xv u := by
  refine ⟨h.form, h.d, h.r, h.core.less (fun k hk => ?_) (fun k hk => ?_), h.box⟩
  · rcases h.logs with ⟨_, _, e, _⟩ | ⟨p, x, o', N, s, b, _, _, _, _, _, _, _, _, _, _, _, e, _⟩
    · rw [e]; exact hk
    · rw [e]; exact Or.inl hk
  · rcases h.logs with ⟨_, _, _, e⟩ | ⟨p, x, o', N, s, b, _, _, _, _, _, _, _, _, _, _, _, _, e⟩
    · rw [e]; exact hk
    · rw [e]; exact Or.inl hk
theorem Disks.keep {w : World} {B pd pr : Nat} {o n : Int} {st : St} {c : Nat} {F G : Nat → Prop} {lv xv : Value} {u v : World} (h : Disks w B pd pr o n st c F G lv xv u) (hb : Below u.heap.size u v) : Disks w B pd pr o n st c F G lv xv v :=
  ⟨h.form, con.below h.d hb, h.r.below hb, h.core.keep hb, h.box.same (hb.block B h.box.lt)⟩
theorem Full.keep {w : World} {B pd pr : Nat} {o n : Int} {st : St} {c : Nat} {F G A C : Nat → Prop} {lv xv : Value} {u v : World} (h : Full w B pd pr o n st c F G A C lv xv u) (hb : Below u.heap.size u v) : Full w B pd pr o n st c F G A C lv xv v := by
  refine ⟨h.form, con.below h.d hb, h.r.below hb, h.core.keep hb, h.box.same (hb.block B h.box.lt), ?_⟩
  rcases h.logs with h1 | ⟨p, x, o', N, s, b, e1, e2, e3, e4, e5, e6, e7, hL, hR, e8, e9, e10, e11⟩
  · exact Or.inl h1
  · exact Or.inr ⟨p, x, o', N, s, b, e1, e2, e3, e4, e5, e6, e7, hL.same (hb.block p hL.lt), hR.same (hb.block x hR.lt), e8, e9, e10, e11⟩
theorem Full.more {w : World} {B pd pr : Nat} {o n : Int} {st : St} {c c' : Nat} {F G A C : Nat → Prop} {lv xv : Value} {u : World} (h : Full w B pd pr o n st c F G A C lv xv u) (hc : c ≤ c') : Full w B pd pr o n st c' F G A C lv xv u := ⟨h.form.more hc, h.d, h.r, h.core, h.box, h.logs⟩
theorem Disks.setL {w : World} {B pd pr : Nat} {o n : Int} {st : St} {c : Nat} {F G : Nat → Prop} {lv xv : Value} {u : World} (h : Disks w B pd pr o n st c F G lv xv u) (v : Value) : Disks w B pd pr o n st c F G v xv (u.setCell ⟨B, 2, none⟩ v) :=
  ⟨h.form, con.same h.d (fun k hk => Below.heap_setCell u _ _ k (fun e => h.core.aB (by rw [show k = B from e] at hk; exact hk))), h.r.same (fun k hk => Below.heap_setCell u _ _ k (fun e => h.core.cB (by rw [show k = B from e] at hk; exact hk))), h.core.set 2 v, h.box.setL v⟩
theorem Disks.setX {w : World} {B pd pr : Nat} {o n : Int} {st : St} {c : Nat} {F G : Nat → Prop} {lv xv : Value} {u : World} (h : Disks w B pd pr o n st c F G lv xv u) (v : Value) : Disks w B pd pr o n st c F G lv v (u.setCell ⟨B, 3, none⟩ v) :=
  ⟨h.form, con.same h.d (fun k hk => Below.heap_setCell u _ _ k (fun e => h.core.aB (by rw [show k = B from e] at hk; exact hk))), h.r.same (fun k hk => Below.heap_setCell u _ _ k (fun e => h.core.cB (by rw [show k = B from e] at hk; exact hk))), h.core.set 3 v, h.box.setX v⟩
/-- The program's disk has gone on; then the document's. -/
structure Gone (w : World) (B pd pr : Nat) (o n : Int) (st st' : St) (F G : Nat → Prop) (lv xv : Value) (u : World) : Prop where
  d : DAt u pd st' F
  r : RD u pr st G
  core : Core w B F G u
  box : BAt u B pd pr lv xv o n
theorem Disks.first {w : World} {B pd pr : Nat} {o n : Int} {st st' : St} {c : Nat} {F F' G : Nat → Prop} {lv xv : Value} {u v : World} (h : Disks w B pd pr o n st c F G lv xv u) (hd : DAt v pd st' F') (hl : Loc F F' u v) : Gone w B pd pr o n st st' F' G lv xv v :=
  ⟨hd, h.r.same (hl.other h.core.aC h.core.cLt), h.core.stepA hl (con.lt hd), h.box.same (hl.block B h.core.bLt h.core.aB)⟩
theorem Gone.keep {w : World} {B pd pr : Nat} {o n : Int} {st st' : St} {F G : Nat → Prop} {lv xv : Value} {u v : World} (h : Gone w B pd pr o n st st' F G lv xv u) (hb : Below u.heap.size u v) : Gone w B pd pr o n st st' F G lv xv v :=
  ⟨con.below h.d hb, h.r.below hb, h.core.keep hb, h.box.same (hb.block B h.box.lt)⟩
theorem Gone.then {w : World} {B pd pr : Nat} {o n : Int} {st st' : St} {c : Nat} {F G G' : Nat → Prop} {lv xv : Value} {u v : World} (h : Gone w B pd pr o n st st' F G lv xv u) (hf : Form 8 c st') (hr : RD v pr st' G') (hl : Loc G G' u v) : Disks w B pd pr o n st' c F G' lv xv v :=
  ⟨hf, con.same h.d (hl.other h.core.flip.aC h.core.aLt), hr, h.core.stepC hl hr.lt, h.box.same (hl.block B h.core.bLt h.core.cB)⟩
theorem Disks.c045 {w : World} {B pd pr : Nat} {o n : Int} {st : St} {c : Nat} {F G : Nat → Prop} {lv xv : Value} {u : World} (h : Disks w B pd pr o n st c F G lv xv u) : u.cell? ⟨B, 0, none⟩ = some (.pointer (some ⟨pd, 0, none⟩)) ∧ u.cell? ⟨B, 4, none⟩ = some (.int .i64 o) ∧ u.cell? ⟨B, 5, none⟩ = some (.int .i64 n) := ⟨h.box.cells.1, h.box.cells.2.2.2.2.1, h.box.cells.2.2.2.2.2⟩
theorem Disks.c145 {w : World} {B pd pr : Nat} {o n : Int} {st : St} {c : Nat} {F G : Nat → Prop} {lv xv : Value} {u : World} (h : Disks w B pd pr o n st c F G lv xv u) : u.cell? ⟨B, 1, none⟩ = some (.pointer (some ⟨pr, 0, none⟩)) ∧ u.cell? ⟨B, 4, none⟩ = some (.int .i64 o) ∧ u.cell? ⟨B, 5, none⟩ = some (.int .i64 n) := ⟨h.box.cells.2.1, h.box.cells.2.2.2.2.1, h.box.cells.2.2.2.2.2⟩
theorem Gone.c045 {w : World} {B pd pr : Nat} {o n : Int} {st st' : St} {F G : Nat → Prop} {lv xv : Value} {u : World} (h : Gone w B pd pr o n st st' F G lv xv u) : u.cell? ⟨B, 0, none⟩ = some (.pointer (some ⟨pd, 0, none⟩)) ∧ u.cell? ⟨B, 4, none⟩ = some (.int .i64 o) ∧ u.cell? ⟨B, 5, none⟩ = some (.int .i64 n) := ⟨h.box.cells.1, h.box.cells.2.2.2.2.1, h.box.cells.2.2.2.2.2⟩
theorem Gone.c145 {w : World} {B pd pr : Nat} {o n : Int} {st st' : St} {F G : Nat → Prop} {lv xv : Value} {u : World} (h : Gone w B pd pr o n st st' F G lv xv u) : u.cell? ⟨B, 1, none⟩ = some (.pointer (some ⟨pr, 0, none⟩)) ∧ u.cell? ⟨B, 4, none⟩ = some (.int .i64 o) ∧ u.cell? ⟨B, 5, none⟩ = some (.int .i64 n) := ⟨h.box.cells.2.1, h.box.cells.2.2.2.2.1, h.box.cells.2.2.2.2.2⟩
/-- What open tells. -/
def OpenSays (w : World) (B pd pr : Nat) (o n : Int) (c : Nat) (e : Ending) (v : World) : Prop :=
  e = .returned (.bool true) ∧ ∃ st F G A C lv xv, Full w B pd pr o n st c F G A C lv xv v
set_option maxRecDepth 10000 in
set_option maxHeartbeats 2000000 in
theorem bothOpen_no (w u : World) (B pd pr : Nat) (o n : Int) (st st' : St) (c c' : Nat) (F G : Nat → Prop) (lv xv : Value) (y : Int) (h : Disks w B pd pr o n st c F G lv xv u) (hf : Form 8 c' st')
    (KP : ∀ v, DAt v pd st F → Calls Try.prog 19 #[.pointer (some ⟨pd, 0, none⟩), .int .i64 o, .int .i64 n] v (NoLog pd st' F v y)) (KR : ∀ v, RD v pr st G → Calls Try.prog 26 #[.pointer (some ⟨pr, 0, none⟩), .int .i64 o, .int .i64 n] v (RNo pr st' G v y)) :
    Calls Try.prog 11 #[.pointer (some ⟨B, 0, none⟩)] u (OpenSays w B pd pr o n c') := by
  have K1 := hide KP
  have K2 := hide KR
  have H := hide h
  have HF := hide hf
  obtain ⟨b0, b1, b2, b3, b4, b5⟩ := h.box.cells
  clear KP KR h hf
  go_enter Try.func11, Try.ntmps11
  go_wp2_with fail
  have K := H.out.keep ((Below.refl _ _).drew)
  clear b0 b1 b2 b3 b4 b5
  go_region_held3 (fun z => z.cell? ⟨B, 0, none⟩ = some (.pointer (some ⟨pd, 0, none⟩)) ∧ z.cell? ⟨B, 4, none⟩ = some (.int .i64 o) ∧ z.cell? ⟨B, 5, none⟩ = some (.int .i64 n))
    ((first | (with_reducible exact Disks.c045 K) | (with_reducible exact Gone.c045 K)))
    (first
      | (go_at_call 19; refine (K1.out _ K.d).mono ?_; rintro e z1 ⟨rfl, F1, hd1, hl1⟩; have K := Disks.first K hd1 hl1))
  all_goals
    have HG := hide K
    clear K
    go_wp2_with fail
    have K := HG.out.keep ((Below.refl _ _).drew)
    clear HG
    go_region_held3 (fun z => z.cell? ⟨B, 1, none⟩ = some (.pointer (some ⟨pr, 0, none⟩)) ∧ z.cell? ⟨B, 4, none⟩ = some (.int .i64 o) ∧ z.cell? ⟨B, 5, none⟩ = some (.int .i64 n))
      ((first | (with_reducible exact Gone.c145 K) | (with_reducible exact Disks.c145 K)))
      (first
        | (go_at_call 26; refine (K2.out _ K.r).mono ?_; rintro e z2 ⟨rfl, G1, hr1, hl2⟩; have K := Gone.then K HF.out hr1 hl2))
    all_goals
      have HD := hide K
      obtain ⟨b0, b1, b2, b3, b4, b5⟩ := K.box.cells
      have f2 := K.box.free 2
      have f3 := K.box.free 3
      clear K
      go_wp2_with fail
      refine (same_any none none 0 0 [] _ (Or.inl rfl) (Or.inl rfl) (by decide)).mono ?_
      rintro e z3 ⟨rfl, n3, rfl⟩
      have HE : Hid (OpenSays w B pd pr o n c' (.returned (.bool true)) (((z2.setCell ⟨B, 2, none⟩ (.pointer none)).setCell ⟨B, 3, none⟩ (.pointer none)).drewN n3)) := by
        have h5 := (((HD.out.setL (.pointer none)).setX (.pointer none)).keep (below_drewN (Below.refl _ _) n3))
        exact ⟨rfl, st', _, _, _, _, _, _, h5.form, h5.d, h5.r, h5.core, h5.box, Or.inl ⟨rfl, rfl, rfl, rfl⟩⟩
      generalize ((z2.setCell ⟨B, 2, none⟩ (.pointer none)).setCell ⟨B, 3, none⟩ (.pointer none)).drewN n3 = z4 at *
      go_wp2
      go_ret
      exact HE.out
/-- The program's log is there. -/
structure GoneY (w : World) (B pd pr : Nat) (o n : Int) (st st' : St) (F G : Nat → Prop) (lv xv : Value) (p o' N : Nat) (s : ByteArray) (a : Option Addr) (recs : List ByteArray) (u : World) : Prop where
  d : DAt u pd st' F
  r : RD u pr st G
  core : Core w B (fun k => F k ∨ k = p) G u
  box : BAt u B pd pr lv xv o n
  log : LAt u p pd o' N s false
  notp : ¬ F p
  list : StrsAt u a recs
  clear : Clear G a
  notB : ∀ b off, a = some ⟨b, off, none⟩ → b ≠ B
theorem Loc.with {F F' : Nat → Prop} {u v : World} {p : Nat} (h : Loc F F' u v) (hp : u.heap.size ≤ p) : Loc F (fun k => F' k ∨ k = p) u v := ⟨h.os, h.tape, h.output, h.size, h.block, fun k hk => by
  rcases hk with h1 | rfl
  · exact h.own k h1
  · exact Or.inr hp⟩
theorem Disks.firstY {w : World} {B pd pr : Nat} {o n : Int} {st st' : St} {c : Nat} {F F' G : Nat → Prop} {lv xv : Value} {u v : World} {p o' N cp : Nat} {s : ByteArray} {a : Option Addr} {recs : List ByteArray} (h : Disks w B pd pr o n st c F G lv xv u) (hL : LAt v p pd o' N s false) (hp : u.heap.size ≤ p) (hR : OwnL v u.heap.size (.slice a recs.length cp) recs) (hs : StrsAt v a recs) (hd : DAt v pd st' F') (hl : Loc F F' u v) (hnp : ¬ F' p) : GoneY w B pd pr o n st st' F' G lv xv p o' N s a recs v := by
  have hge : ∀ b off, a = some ⟨b, off, none⟩ → u.heap.size ≤ b := fun b off e => own_ge hR (show OB _ b by rw [e]; rfl)
  refine ⟨hd, h.r.same (hl.other h.core.aC h.core.cLt), h.core.stepA (hl.with hp) (fun k hk => ?_), h.box.same (hl.block B h.core.bLt h.core.aB), hL, hnp, hs, fun b off e hg => ?_, fun b off e hb => ?_⟩
  · rcases hk with h1 | rfl
    · exact con.lt hd k h1
    · exact hL.lt
  · have h1 := hge b off e; have h2 := h.core.cLt b hg; omega
  · have h1 := hge b off e; have h2 := h.core.bLt; omega
theorem GoneY.keep {w : World} {B pd pr : Nat} {o n : Int} {st st' : St} {F G : Nat → Prop} {lv xv : Value} {p o' N : Nat} {s : ByteArray} {a : Option Addr} {recs : List ByteArray} {u v : World} (h : GoneY w B pd pr o n st st' F G lv xv p o' N s a recs u) (hb : Below u.heap.size u v) : GoneY w B pd pr o n st st' F G lv xv p o' N s a recs v :=
  ⟨con.below h.d hb, h.r.below hb, h.core.keep hb, h.box.same (hb.block B h.box.lt), h.log.same (hb.block p h.log.lt), h.notp, h.list.below hb, h.clear, h.notB⟩
theorem GoneY.c045 {w : World} {B pd pr : Nat} {o n : Int} {st st' : St} {F G : Nat → Prop} {lv xv : Value} {p o' N : Nat} {s : ByteArray} {a : Option Addr} {recs : List ByteArray} {u : World} (h : GoneY w B pd pr o n st st' F G lv xv p o' N s a recs u) : u.cell? ⟨B, 0, none⟩ = some (.pointer (some ⟨pd, 0, none⟩)) ∧ u.cell? ⟨B, 4, none⟩ = some (.int .i64 o) ∧ u.cell? ⟨B, 5, none⟩ = some (.int .i64 n) := ⟨h.box.cells.1, h.box.cells.2.2.2.2.1, h.box.cells.2.2.2.2.2⟩
theorem GoneY.c145 {w : World} {B pd pr : Nat} {o n : Int} {st st' : St} {F G : Nat → Prop} {lv xv : Value} {p o' N : Nat} {s : ByteArray} {a : Option Addr} {recs : List ByteArray} {u : World} (h : GoneY w B pd pr o n st st' F G lv xv p o' N s a recs u) : u.cell? ⟨B, 1, none⟩ = some (.pointer (some ⟨pr, 0, none⟩)) ∧ u.cell? ⟨B, 4, none⟩ = some (.int .i64 o) ∧ u.cell? ⟨B, 5, none⟩ = some (.int .i64 n) := ⟨h.box.cells.2.1, h.box.cells.2.2.2.2.1, h.box.cells.2.2.2.2.2⟩
/-- Both logs are there, and what they found. -/
structure DoneY (w : World) (B pd pr : Nat) (o n : Int) (st' : St) (F G : Nat → Prop) (lv xv : Value) (p x o' N : Nat) (s : ByteArray) (a a2 : Option Addr) (recs : List ByteArray) (u : World) : Prop where
  d : DAt u pd st' F
  r : RD u pr st' G
  core : Core w B (fun k => F k ∨ k = p) (fun k => G k ∨ k = x) u
  box : BAt u B pd pr lv xv o n
  log : LAt u p pd o' N s false
  rlog : RLAt u x pr o' N s false
  notp : ¬ F p
  notx : ¬ G x
  list : StrsAt u a recs
  list2 : StrsAt u a2 recs
  notB : ∀ b off, a = some ⟨b, off, none⟩ → b ≠ B
  notB2 : ∀ b off, a2 = some ⟨b, off, none⟩ → b ≠ B
theorem GoneY.then {w : World} {B pd pr : Nat} {o n : Int} {st st' : St} {F G G' : Nat → Prop} {lv xv : Value} {p x o' N : Nat} {s : ByteArray} {a a2 : Option Addr} {recs : List ByteArray} {u v : World} (h : GoneY w B pd pr o n st st' F G lv xv p o' N s a recs u) (hL : RLAt v x pr o' N s false) (hp : u.heap.size ≤ x) (hs : StrsAt v a2 recs) (hr : RD v pr st' G') (hl : Loc G G' u v) (hnx : ¬ G' x) (hge : ∀ b off, a2 = some ⟨b, off, none⟩ → u.heap.size ≤ b) : DoneY w B pd pr o n st' F G' lv xv p x o' N s a a2 recs v := by
  refine ⟨con.same h.d (hl.other (fun k h1 h2 => h.core.aC k (Or.inl h2) h1) (con.lt h.d)), hr, h.core.stepC (hl.with hp) (fun k hk => ?_), h.box.same (hl.block B h.core.bLt h.core.cB), h.log.same (hl.block p h.log.lt (fun hg => h.core.aC p (Or.inr rfl) hg)), hL, h.notp, hnx, strs_loc h.list hl h.clear, hs, h.notB, fun b off e hb => ?_⟩
  · rcases hk with h1 | rfl
    · exact hr.lt k h1
    · exact hL.lt
  · have h1 := hge b off e; have h2 := h.core.bLt; omega
theorem DoneY.c145 {w : World} {B pd pr : Nat} {o n : Int} {st' : St} {F G : Nat → Prop} {lv xv : Value} {p x o' N : Nat} {s : ByteArray} {a a2 : Option Addr} {recs : List ByteArray} {u : World} (h : DoneY w B pd pr o n st' F G lv xv p x o' N s a a2 recs u) : u.cell? ⟨B, 1, none⟩ = some (.pointer (some ⟨pr, 0, none⟩)) ∧ u.cell? ⟨B, 4, none⟩ = some (.int .i64 o) ∧ u.cell? ⟨B, 5, none⟩ = some (.int .i64 n) := ⟨h.box.cells.2.1, h.box.cells.2.2.2.2.1, h.box.cells.2.2.2.2.2⟩
theorem strs_set {u : World} {B i : Nat} {v : Value} {a : Option Addr} {l : List ByteArray} (h : StrsAt u a l) (hn : ∀ b off, a = some ⟨b, off, none⟩ → b ≠ B) : StrsAt (u.setCell ⟨B, i, none⟩ v) a l := by
  rcases h with rfl | ⟨b, off, rfl, hx⟩
  · exact Or.inl rfl
  · exact Or.inr ⟨b, off, rfl, fun j hj => (World.cell?_setCell_other u ⟨B, i, none⟩ ⟨b, off + j, none⟩ v (fun e => hn b off rfl (congrArg Addr.block e).symm)).trans (hx j hj)⟩
theorem DoneY.set {w : World} {B pd pr : Nat} {o n : Int} {st' : St} {F G : Nat → Prop} {lv xv : Value} {p x o' N : Nat} {s : ByteArray} {a a2 : Option Addr} {recs : List ByteArray} {u : World} (h : DoneY w B pd pr o n st' F G lv xv p x o' N s a a2 recs u) : DoneY w B pd pr o n st' F G (.pointer (some ⟨p, 0, none⟩)) (.pointer (some ⟨x, 0, none⟩)) p x o' N s a a2 recs ((u.setCell ⟨B, 2, none⟩ (.pointer (some ⟨p, 0, none⟩))).setCell ⟨B, 3, none⟩ (.pointer (some ⟨x, 0, none⟩))) := by
  have hb : ∀ k, k ≠ B → ((u.setCell ⟨B, 2, none⟩ (.pointer (some ⟨p, 0, none⟩))).setCell ⟨B, 3, none⟩ (.pointer (some ⟨x, 0, none⟩))).heap[k]? = u.heap[k]? := fun k hk => (Below.heap_setCell _ ⟨B, 3, none⟩ _ k hk).trans (Below.heap_setCell u ⟨B, 2, none⟩ _ k hk)
  have hpB : p ≠ B := fun e => h.core.aB (Or.inr e.symm)
  have hxB : x ≠ B := fun e => h.core.cB (Or.inr e.symm)
  exact ⟨con.same h.d (fun k hk => hb k (fun e => h.core.aB (by rw [e] at hk; exact Or.inl hk))), h.r.same (fun k hk => hb k (fun e => h.core.cB (by rw [e] at hk; exact Or.inl hk))), (h.core.set 2 _).set 3 _, (h.box.setL _).setX _, h.log.same (hb p hpB), h.rlog.same (hb x hxB), h.notp, h.notx, strs_set (strs_set h.list h.notB) h.notB, strs_set (strs_set h.list2 h.notB2) h.notB2, h.notB, h.notB2⟩
theorem DoneY.full {w : World} {B pd pr o' N : Nat} {st' : St} {c : Nat} {F G : Nat → Prop} {p x : Nat} {s : ByteArray} {a a2 : Option Addr} {recs : List ByteArray} {u v : World} (h : DoneY w B pd pr (o' : Int) (N : Int) st' F G (.pointer (some ⟨p, 0, none⟩)) (.pointer (some ⟨x, 0, none⟩)) p x o' N s a a2 recs u) (hf : Form 8 c st') (h1 : 1 ≤ N) (h8 : o' + N ≤ 8) (hs : s.size ≤ N * 255) (hb : Below u.heap.size u v) : Full w B pd pr (o' : Int) (N : Int) st' c F G (fun k => F k ∨ k = p) (fun k => G k ∨ k = x) (.pointer (some ⟨p, 0, none⟩)) (.pointer (some ⟨x, 0, none⟩)) v :=
  Full.keep ⟨hf, h.d, h.r, h.core, h.box, Or.inr ⟨p, x, o', N, s, false, rfl, rfl, rfl, rfl, h1, h8, hs, h.log, h.rlog, h.notp, h.notx, rfl, rfl⟩⟩ hb
set_option maxRecDepth 10000 in
set_option maxHeartbeats 2000000 in
theorem bothOpen_yes (w u : World) (B pd pr o' N : Nat) (st st' : St) (c c' : Nat) (F G : Nat → Prop) (lv xv : Value) (s : ByteArray) (recs : List ByteArray) (h : Disks w B pd pr (o' : Int) (N : Int) st c F G lv xv u) (hf : Form 8 c' st') (h1 : 1 ≤ N) (h8 : o' + N ≤ 8) (hs : s.size ≤ N * 255) (hrl : recs.length ≤ 100000)
    (KP : ∀ v, DAt v pd st F → Calls Try.prog 19 #[.pointer (some ⟨pd, 0, none⟩), .int .i64 (o' : Int), .int .i64 (N : Int)] v (HasLog pd o' N s recs st' F v)) (KR : ∀ v, RD v pr st G → Calls Try.prog 26 #[.pointer (some ⟨pr, 0, none⟩), .int .i64 (o' : Int), .int .i64 (N : Int)] v (RHas pr o' N s recs st' G v)) :
    Calls Try.prog 11 #[.pointer (some ⟨B, 0, none⟩)] u (OpenSays w B pd pr (o' : Int) (N : Int) c') := by
  have K1 := hide KP
  have K2 := hide KR
  have H := hide h
  have HF := hide hf
  have HHs : Hid (1 ≤ N ∧ o' + N ≤ 8 ∧ s.size ≤ N * 255) := ⟨h1, h8, hs⟩
  have HRl : Hid (recs.length ≤ 140737488351232) := by show _ ≤ _; omega
  clear KP KR h hf h1 h8 hs hrl
  have HFl : Hid (∀ F' G' p x a a2 u n3, DoneY w B pd pr (o' : Int) (N : Int) st' F' G' (.pointer (some ⟨p, 0, none⟩)) (.pointer (some ⟨x, 0, none⟩)) p x o' N s a a2 recs u → OpenSays w B pd pr (o' : Int) (N : Int) c' (.returned (.bool true)) (u.drewN n3)) := fun F' G' p x a a2 u n3 hd => ⟨rfl, st', _, _, _, _, _, _, hd.full HF.out HHs.out.1 HHs.out.2.1 HHs.out.2.2 (below_drewN (Below.refl _ _) n3)⟩
  generalize (o' : Int) = o at *
  generalize (N : Int) = n at *
  go_enter Try.func11, Try.ntmps11
  go_wp2_with fail
  have K := H.out.keep ((Below.refl _ _).drew)
  go_region_held3 (fun z => z.cell? ⟨B, 0, none⟩ = some (.pointer (some ⟨pd, 0, none⟩)) ∧ z.cell? ⟨B, 4, none⟩ = some (.int .i64 o) ∧ z.cell? ⟨B, 5, none⟩ = some (.int .i64 n))
    ((first | (with_reducible exact Disks.c045 K) | (with_reducible exact GoneY.c045 K)))
    (first
      | (go_at_call 19; refine (K1.out _ K.d).mono ?_; rintro e z1 ⟨p, vR, F1, rfl, hL1, hp1, hR1, hd1, hl1, hnp1, hdj1, hop1⟩; obtain ⟨a1, c1, rfl, hs1⟩ := hR1.strs; have K := Disks.firstY K hL1 hp1 hR1 hs1 hd1 hl1 hnp1; clear hL1 hp1 hR1 hs1 hd1 hl1 hnp1 hdj1 hop1))
  all_goals
    have HG := hide K
    clear K
    go_wp2_with fail
    have K := HG.out.keep ((Below.refl _ _).drew)
    clear HG
    go_region_held3 (fun z => z.cell? ⟨B, 1, none⟩ = some (.pointer (some ⟨pr, 0, none⟩)) ∧ z.cell? ⟨B, 4, none⟩ = some (.int .i64 o) ∧ z.cell? ⟨B, 5, none⟩ = some (.int .i64 n))
      ((first | (with_reducible exact GoneY.c145 K) | (with_reducible exact DoneY.c145 K)))
      (first
        | (go_at_call 26; refine (K2.out _ K.r).mono ?_; rintro e z2 ⟨x, a2, c2, G1, rfl, hL2, hp2, hs2, hr2, hl2, hnx2, hge2⟩; have K := GoneY.then K hL2 hp2 hs2 hr2 hl2 hnx2 hge2; clear hL2 hp2 hs2 hr2 hl2 hnx2 hge2))
    all_goals
      have HD := hide K.set
      obtain ⟨b0, b1, b2, b3, b4, b5⟩ := K.box.cells
      have f2 := K.box.free 2
      have f3 := K.box.free 3
      clear K
      go_wp2_with fail
      refine (same_any a1 a2 c1 c2 recs _ HD.out.list HD.out.list2 HRl.out).mono ?_
      rintro e z3 ⟨rfl, n3, rfl⟩
      have HE := hide (HFl.out _ _ _ _ _ _ _ n3 HD.out)
      generalize ((z2.setCell ⟨B, 2, none⟩ (.pointer (some ⟨p, 0, none⟩))).setCell ⟨B, 3, none⟩ (.pointer (some ⟨x, 0, none⟩))).drewN n3 = z4 at *
      clear HD b0 b1 b2 b3 b4 b5 f2 f3
      go_wp2
      go_ret
      exact HE.out
end Go.Proofs.Ytelkccfjeinlcaa
namespace Go.Proofs.Ytelkccfjeinlcaa
open Go Go.RowKit Frm Go.Shelf
theorem open_recs {st : St} (hok : st.Ok) (o N : Nat) (hN : o + N ≤ st.sure.length) : (walOpen st o N).1.2.2.length ≤ N * 255 := by
  have h1 := streamOf_size (reads st o N) (fun b hb => by
    obtain ⟨i, hi, rfl⟩ := List.getElem_of_mem hb
    rw [reads_at]
    exact at_size hok _ (by rw [reads_length] at hi; omega))
  rw [reads_length] at h1
  have h2 := (scn_bound _ (streamOf (reads st o N)) (Nat.le_refl _)).2
  unfold walOpen
  split
  · exact Nat.zero_le _
  · split
    · exact Nat.zero_le _
    · split
      · exact Nat.zero_le _
      · split
        · exact Nat.zero_le _
        · exact Nat.le_trans h2 h1
theorem both_open (w u : World) (B pd pr : Nat) (o n : Int) (st : St) (c : Nat) (F G : Nat → Prop) (lv xv : Value) (h : Disks w B pd pr o n st c F G lv xv u) (hc : c + 16 ≤ 10000) (hn : -9223372036854775808 ≤ n ∧ n ≤ 9223372036854775807) :
    Calls Try.prog 11 #[.pointer (some ⟨B, 0, none⟩)] u (OpenSays w B pd pr o n (c + 16)) := by
  have hok := h.form.ok
  have hlen := h.form.len
  have hfew := h.form.few
  by_cases hm : st.may o n
  · obtain ⟨o', N, rfl, rfl, h1, h8⟩ : ∃ o' N : Nat, o = (o' : Int) ∧ n = (N : Int) ∧ 1 ≤ N ∧ o' + N ≤ 8 := by
      unfold St.may at hm
      rw [hlen] at hm
      exact ⟨o.toNat, n.toNat, by omega, by omega, by omega, by omega⟩
    have hf : Form 8 (c + 16) (walOpen st o' N).2 := (h.form.open o' N).more (by omega)
    have kp := fun v (hd : DAt v pd st F) => pOpen pd o' N st F v hd hok (by omega) (by omega) h1 (by omega)
    have kr := fun v (hd : RD v pr st G) => pROpen pr o' N st G v hd hok (by omega) (by omega) h1 (by omega)
    by_cases h0 : (walOpen st o' N).1.1 = 0
    · refine bothOpen_yes w u B pd pr o' N st (walOpen st o' N).2 c (c + 16) F G lv xv (walOpen st o' N).1.2.1 (walOpen st o' N).1.2.2 h hf h1 h8 (open_size hok o' N (by omega)) ?_ (fun v hd => (kp v hd).mono ?_) (fun v hd => (kr v hd).mono ?_)
      · have := open_recs hok o' N (by omega); omega
      · rintro e v' (⟨_, hh⟩ | ⟨hh, _⟩)
        · exact hh
        · exact absurd h0 hh
      · rintro e v' (⟨_, hh⟩ | ⟨hh, _⟩)
        · exact hh
        · exact absurd h0 hh
    · refine bothOpen_no w u B pd pr o' N st (walOpen st o' N).2 c (c + 16) F G lv xv (((walOpen st o' N).1.1 : Nat) : Int) h hf (fun v hd => (kp v hd).mono ?_) (fun v hd => (kr v hd).mono ?_)
      · rintro e v' (⟨hh, _⟩ | ⟨_, hh⟩)
        · exact absurd hh h0
        · exact hh
      · rintro e v' (⟨hh, _⟩ | ⟨_, hh⟩)
        · exact absurd hh h0
        · exact hh
  · exact bothOpen_no w u B pd pr o n st st c (c + 16) F G lv xv 2 h (h.form.more (by omega)) (fun v hd => open_not pd o n st F v hd hok hn hm) (fun v hd => rOpen_not pr o n st G v hd hok hm)
/-- The first k bytes of a block of a text, bytes 0 behind them. -/
def drow (s : ByteArray) (k : Nat) : List UInt8 := (List.range 256).map fun j => if h : j < k ∧ 0 < s.size then s[j % s.size]'(Nat.mod_lt _ h.2) else 0
theorem drow_length (s : ByteArray) (k : Nat) : (drow s k).length = 256 := by unfold drow; simp
theorem drow_zero (s : ByteArray) (j : Nat) (hj : j < (drow s 0).length) : (drow s 0)[j] = 0 := by unfold drow; simp
theorem drow_at (s : ByteArray) (k j : Nat) (hj : j < (drow s k).length) : (drow s k)[j] = if h : j < k ∧ 0 < s.size then s[j % s.size]'(Nat.mod_lt _ h.2) else 0 := by simp only [drow, List.getElem_map, List.getElem_range]
theorem drow_next (s : ByteArray) (k : Nat) (hs : 0 < s.size) : drow s (k + 1) = (drow s k).set k (s[k % s.size]'(Nat.mod_lt _ hs)) := by
  apply List.ext_getElem (by rw [List.length_set, drow_length, drow_length])
  intro j h1 h2
  rw [List.getElem_set, drow_at, drow_at]
  by_cases e : k = j
  · subst e
    rw [if_pos rfl, dif_pos ⟨by omega, hs⟩]
  · rw [if_neg e]
    by_cases h3 : j < k
    · rw [dif_pos ⟨by omega, hs⟩, dif_pos ⟨h3, hs⟩]
    · rw [dif_neg (by omega), dif_neg (by omega)]
theorem drow_all (s : ByteArray) (k : Nat) (hk : 256 ≤ k ∨ s.size = 0) : drow s k = drow s 256 := by
  unfold drow
  apply List.map_congr_left
  intro j hj
  have hj2 := List.mem_range.1 hj
  by_cases h : 0 < s.size
  · rw [dif_pos ⟨by omega, h⟩, dif_pos ⟨by omega, h⟩]
  · rw [dif_neg (fun hh => h hh.2), dif_neg (fun hh => h hh.2)]
/-- A block of a text's bytes. -/
def dataOf (s : ByteArray) : ByteArray := ⟨(drow s 256).toArray⟩
theorem dataOf_size (s : ByteArray) : (dataOf s).size = 256 := by
  show (drow s 256).toArray.size = 256
  rw [List.size_toArray, drow_length]
theorem zbytes (u : World) : BytesAt (u.alloc (.cells zcells 5)) u.heap.size (List.replicate 256 0) := fun j hj => by
  have hj' : j < 256 := by rw [List.length_replicate] at hj; exact hj
  have hb : (u.alloc (.cells zcells 5)).heap[u.heap.size]? = some (.cells zcells 5) := heap_alloc_last u _
  refine ⟨?_, free_of hb j⟩
  rw [cell_of_row _ _ _ _ _ _ hb, zcells_at j hj', List.getElem_replicate]
  rfl
theorem drow0 (s : ByteArray) : drow s 0 = List.replicate 256 0 := by
  apply List.ext_getElem (by rw [drow_length, List.length_replicate])
  intro j h1 h2
  rw [drow_zero, List.getElem_replicate]
theorem bytes_text {u : World} {g : Nat} {l : List UInt8} (h : BytesAt u g l) (hl : l.length = 256) : (convert 65 9 (.slice (some ⟨g, 0, none⟩) 256 256)).run Try.prog u = .ok (.string ⟨l.toArray⟩) u := by
  have key := run_convert_bytes_back (P := Try.prog) u 65 9 5 ⟨g, 0, none⟩ 256 l Try.underlying65 Try.underlying5 Try.underlying9 (fun j hj => by
    rw [add_at]
    exact (h j hj).1)
  rw [hl] at key
  exact key
theorem data_mod (s : ByteArray) (k : Nat) (hpos : 0 < s.size) : ∃ m : Nat, ∃ hm : m < s.size, Int.tmod (k : Int) (s.size : Int) = (m : Int) ∧ (k : Int) % (s.size : Int) = (m : Int) ∧ Hid (drow s (k + 1) = (drow s k).set k s[m]) :=
  ⟨k % s.size, Nat.mod_lt _ hpos, by rw [Int.tmod_eq_emod_of_nonneg (by omega)]; omega, by omega, drow_next s k hpos⟩
set_option maxRecDepth 10000 in
set_option maxHeartbeats 2000000 in
theorem data_any (s : ByteArray) (w : World) (hs : s.size ≤ 100000) : Calls Try.prog 32 #[.string s] w fun e w' => e = .returned (.string (dataOf s)) ∧ Below w.heap.size w w' := by
  have hzm := zmake
  have HZ := hide (zbytes w)
  have hbz : Below w.heap.size w (w.alloc (.cells zcells 5)) := (Below.refl _ _).alloc (Nat.le_refl _) _
  have HBZ := hide hbz
  clear hbz
  generalize zcells = Z at *
  by_cases he : s.size = 0
  · have hse : s = ⟨#[]⟩ := by
      apply ByteArray.ext
      exact Array.eq_empty_of_size_eq_zero he
    have HT : Hid ((convert 65 9 (.slice (some ⟨w.heap.size, 0, none⟩) 256 256)).run Try.prog (w.alloc (.cells Z 5)) = .ok (.string (dataOf s)) (w.alloc (.cells Z 5))) := by
      have := bytes_text HZ.out (List.length_replicate ..)
      rw [← drow0 s, drow_all s 0 (Or.inr he)] at this
      exact this
    generalize dataOf s = D at *
    subst hse
    clear he
    have ht := HT.out
    have HT2 := hide ht
    clear ht HT
    go_enter Try.func32, Try.ntmps32
    go_wp2_with fail
    go_loopw [4] (fun i wr => i = .int .i64 0 ∧ wr = w.alloc (.cells Z 5)) (fun _ _ => 0)
    case atStart => exact ⟨rfl, rfl⟩
    case round =>
      obtain ⟨rfl, hwr⟩ := hrel
      subst hwr
      have ht := HT2.out
      go_wp2
      go_ret
      exact ⟨rfl, HBZ.out⟩
  · have hpos : 0 < s.size := by omega
    have hne : (s.toList == (⟨#[]⟩ : ByteArray).toList) = false := toList_ne (fun e => he (by rw [e]; rfl))
    have hne2 : s.toList.isEmpty = false := by
      cases h : s.toList with
      | nil => rw [h, show (⟨#[]⟩ : ByteArray).toList = [] from by simp] at hne; cases hne
      | cons x l => rfl
    have hZ := HZ.out
    rw [← drow0 s] at hZ
    have HZ2 := hide hZ
    have HT : Hid (∀ u, BytesAt u w.heap.size (drow s 256) → (convert 65 9 (.slice (some ⟨w.heap.size, 0, none⟩) 256 256)).run Try.prog u = .ok (.string (dataOf s)) u) := fun u h => bytes_text h (drow_length _ _)
    have HLn := hide (drow_length s)
    have hsz : ¬ ((s.size : Int) = 0) := by omega
    clear hZ HZ he
    generalize dataOf s = D at *
    go_enter Try.func32, Try.ntmps32
    go_wp2_with fail
    go_loopw [4] (fun i wr => ∃ k : Nat, k ≤ 256 ∧ i = .int .i64 (k : Int) ∧ BytesAt wr w.heap.size (drow s k) ∧ Below w.heap.size w wr) (fun i _ => 256 - (intOf i).toNat)
    case atStart => exact ⟨0, Nat.zero_le _, rfl, HZ2.out, HBZ.out⟩
    case round =>
      obtain ⟨k, hk, rfl, hB, hb⟩ := hrel
      have HBy := hide hB
      have HB := hide hb
      by_cases hlt : k < 256
      · have hz : (k : Int) < 256 := by omega
        have hw1 : IntKind.i64.wrap ((k : Int) + 1) = (k : Int) + 1 := by rw [IntKind.wrap_i64]; omega
        obtain ⟨m, hml, hm1, hm2, HNk⟩ := data_mod s k hpos
        have c1 := (hB k (by rw [HLn.out]; exact hlt)).1
        have f1 := (hB k (by rw [HLn.out]; exact hlt)).2
        clear hB hb
        have hmz : (m : Int) < (s.size : Int) := by omega
        go_wp2
        go_roundw
        case rel =>
          refine ⟨k + 1, hlt, by go_num, ?_, HB.out.setCell (p := ⟨w.heap.size, k, none⟩) (Nat.le_refl _) _⟩
          have h5 := HBy.out.set k s[m].toNat (by rw [HLn.out]; exact hlt) (UInt8.toNat_lt _)
          rw [HNk.out]
          have e5 : UInt8.ofNat s[m].toNat = s[m] := UInt8.ofNat_toNat
          rw [e5] at h5
          exact h5
        case measure => simp [intOf]; omega
      · have hke : k = 256 := by omega
        subst hke
        have ht := HT.out wr hB
        clear hB hb
        go_wp2
        go_ret
        exact ⟨rfl, HB.out⟩
end Go.Proofs.Ytelkccfjeinlcaa
namespace Go.Proofs.Ytelkccfjeinlcaa
open Go Go.RowKit Frm Go.Shelf
theorem Logs.first {w u v : World} {B pd pr : Nat} {o n : Int} {F F' G A C : Nat → Prop} {lv xv : Value} (h : Logs u pd pr o n F G lv xv A C) (hc : Core w B A C u) (hl : Loc F F' u v) (hlt : ∀ k, F' k → k < v.heap.size) : ∃ A', Logs v pd pr o n F' G lv xv A' C ∧ Core w B A' C v := by
  rcases h with ⟨e1, e2, e3, e4⟩ | ⟨p, x, o', N, s, b, e1, e2, e3, e4, e5, e6, e7, hL, hR, e8, e9, e10, e11⟩
  · subst e3
    exact ⟨F', Or.inl ⟨e1, e2, rfl, e4⟩, hc.stepA hl hlt⟩
  · subst e10
    obtain ⟨hL', hp'⟩ := hL.loc hl e8
    have hx : ¬ F x := fun hf => hc.aC x (Or.inl hf) (by rw [e11]; exact Or.inr rfl)
    refine ⟨fun k => F' k ∨ k = p, Or.inr ⟨p, x, o', N, s, b, e1, e2, e3, e4, e5, e6, e7, hL', hR.same (hl.block x hR.lt hx), hp', e9, rfl, e11⟩, hc.stepA (hl.or (P := fun k => k = p)) (fun k hk => ?_)⟩
    rcases hk with h1 | rfl
    · exact hlt k h1
    · exact hL'.lt
theorem Logs.second {w u v : World} {B pd pr : Nat} {o n : Int} {F G G' A C : Nat → Prop} {lv xv : Value} (h : Logs u pd pr o n F G lv xv A C) (hc : Core w B A C u) (hl : Loc G G' u v) (hlt : ∀ k, G' k → k < v.heap.size) : ∃ C', Logs v pd pr o n F G' lv xv A C' ∧ Core w B A C' v := by
  rcases h with ⟨e1, e2, e3, e4⟩ | ⟨p, x, o', N, s, b, e1, e2, e3, e4, e5, e6, e7, hL, hR, e8, e9, e10, e11⟩
  · subst e4
    exact ⟨G', Or.inl ⟨e1, e2, e3, rfl⟩, hc.stepC hl hlt⟩
  · subst e11
    have hR' : RLAt v x pr o' N s b := hR.same (hl.block x hR.lt e9)
    have hx' : ¬ G' x := fun hf => by
      rcases hl.own x hf with h1 | h1
      · exact e9 h1
      · have := hR.lt; omega
    have hp : ¬ G p := fun hf => hc.aC p (by rw [e10]; exact Or.inr rfl) (Or.inl hf)
    refine ⟨fun k => G' k ∨ k = x, Or.inr ⟨p, x, o', N, s, b, e1, e2, e3, e4, e5, e6, e7, hL.same (hl.block p hL.lt hp), hR', e8, hx', e10, rfl⟩, hc.stepC (hl.or (P := fun k => k = x)) (fun k hk => ?_)⟩
    rcases hk with h1 | rfl
    · exact hlt k h1
    · exact hR'.lt
/-- The box of the step. -/
def SBox (u : World) (S : Nat) (x : Stp) : Prop := u.heap[S]? = some (.cells #[.int .u8 (x.act : Int), .string x.text, .int .u8 (x.times : Int), .int .i64 x.n, .slice x.pa x.picks.length x.pc] 40 (0, 0))
theorem SBox.cells {u : World} {S : Nat} {x : Stp} (h : SBox u S x) : u.cell? ⟨S, 0, none⟩ = some (.int .u8 (x.act : Int)) ∧ u.cell? ⟨S, 1, none⟩ = some (.string x.text) ∧ u.cell? ⟨S, 2, none⟩ = some (.int .u8 (x.times : Int)) ∧ u.cell? ⟨S, 3, none⟩ = some (.int .i64 x.n) ∧ u.cell? ⟨S, 4, none⟩ = some (.slice x.pa x.picks.length x.pc) := by
  have e : u.heap[S]? = _ := h
  refine ⟨?_, ?_, ?_, ?_, ?_⟩ <;> simp [World.cell?, e]
theorem SBox.lt {u : World} {S : Nat} {x : Stp} (h : SBox u S x) : S < u.heap.size := (Array.getElem?_eq_some_iff.1 h).1
/-- Both disks with their logs, in the midst of a step: the program's is st', the document's st. -/
structure Mid (w : World) (B pd pr : Nat) (o n : Int) (st st' : St) (F G A C : Nat → Prop) (lv xv : Value) (S : Nat) (x : Stp) (u : World) : Prop where
  d : DAt u pd st' F
  r : RD u pr st G
  core : Core w B A C u
  box : BAt u B pd pr lv xv o n
  logs : Logs u pd pr o n F G lv xv A C
  step : SBox u S x
  sA : ¬ A S
  sC : ¬ C S
  sB : S ≠ B
theorem Logs.fA {u : World} {pd pr : Nat} {o n : Int} {F G A C : Nat → Prop} {lv xv : Value} (h : Logs u pd pr o n F G lv xv A C) : (∀ k, F k → A k) ∧ ∀ k, G k → C k := by
  rcases h with ⟨_, _, e3, e4⟩ | ⟨p, x, o', N, s, b, _, _, _, _, _, _, _, _, _, _, _, e10, e11⟩
  · rw [e3, e4]; exact ⟨fun _ h => h, fun _ h => h⟩
  · rw [e10, e11]; exact ⟨fun _ h => Or.inl h, fun _ h => Or.inl h⟩
theorem Mid.start {w : World} {B pd pr : Nat} {o n : Int} {st : St} {c : Nat} {F G A C : Nat → Prop} {lv xv : Value} {u : World} (h : Full w B pd pr o n st c F G A C lv xv u) (x : Stp) : Mid w B pd pr o n st st F G A C lv xv u.heap.size x (u.alloc (.cells #[.int .u8 (x.act : Int), .string x.text, .int .u8 (x.times : Int), .int .i64 x.n, .slice x.pa x.picks.length x.pc] 40)) := by
  have h5 := h.keep ((Below.refl _ u).alloc (Nat.le_refl _) (.cells #[.int .u8 (x.act : Int), .string x.text, .int .u8 (x.times : Int), .int .i64 x.n, .slice x.pa x.picks.length x.pc] 40))
  exact ⟨h5.d, h5.r, h5.core, h5.box, h5.logs, heap_alloc_last u _, fun hf => Nat.lt_irrefl _ (h.core.aLt _ hf), fun hf => Nat.lt_irrefl _ (h.core.cLt _ hf), fun e => by have := h.core.bLt; omega⟩
theorem Mid.keep {w : World} {B pd pr : Nat} {o n : Int} {st st' : St} {F G A C : Nat → Prop} {lv xv : Value} {S : Nat} {x : Stp} {u v : World} (h : Mid w B pd pr o n st st' F G A C lv xv S x u) (hb : Below u.heap.size u v) : Mid w B pd pr o n st st' F G A C lv xv S x v := by
  refine ⟨con.below h.d hb, h.r.below hb, h.core.keep hb, h.box.same (hb.block B h.box.lt), ?_, (hb.block S h.step.lt).trans h.step, h.sA, h.sC, h.sB⟩
  rcases h.logs with h1 | ⟨p, x, o', N, s, b, e1, e2, e3, e4, e5, e6, e7, hL, hR, e8, e9, e10, e11⟩
  · exact Or.inl h1
  · exact Or.inr ⟨p, x, o', N, s, b, e1, e2, e3, e4, e5, e6, e7, hL.same (hb.block p hL.lt), hR.same (hb.block x hR.lt), e8, e9, e10, e11⟩
theorem Mid.first {w : World} {B pd pr : Nat} {o n : Int} {st st' st2 : St} {F F' G A C : Nat → Prop} {lv xv : Value} {S : Nat} {x : Stp} {u v : World} (h : Mid w B pd pr o n st st' F G A C lv xv S x u) (hd : DAt v pd st2 F') (hl : Loc F F' u v) : ∃ A', Mid w B pd pr o n st st2 F' G A' C lv xv S x v := by
  obtain ⟨A', hL, hC⟩ := h.logs.first h.core hl (con.lt hd)
  have hfA := h.logs.fA
  have hSF : ¬ F S := fun hf => h.sA (hfA.1 S hf)
  refine ⟨A', hd, h.r.same (hl.other (fun k h1 h2 => h.core.aC k (hfA.1 k h1) (hfA.2 k h2)) h.r.lt), hC, h.box.same (hl.block B h.core.bLt (fun hf => h.core.aB (hfA.1 B hf))), hL, (hl.block S h.step.lt hSF).trans h.step, fun hf => ?_, h.sC, h.sB⟩
  have hS' : ¬ F' S := fun hf => by
    rcases hl.own S hf with h1 | h1
    · exact hSF h1
    · have := h.step.lt; omega
  rcases hL with ⟨_, _, e3, _⟩ | ⟨p, x', o', N, s, b, e1, _, _, _, _, _, _, _, _, _, _, e10, _⟩
  · rw [e3] at hf; exact hS' hf
  · rw [e10] at hf
    rcases hf with hf | hf
    · exact hS' hf
    · rcases h.logs with ⟨e1', _⟩ | ⟨p2, _, _, _, _, _, e1', _, _, _, _, _, _, _, _, _, _, e10', _⟩
      · rw [e1'] at e1; cases e1
      · rw [e1'] at e1
        cases e1
        exact h.sA (by rw [e10']; exact Or.inr hf)
theorem Mid.then {w : World} {B pd pr : Nat} {o n : Int} {st st' : St} {c : Nat} {F G G' A C : Nat → Prop} {lv xv : Value} {S : Nat} {x : Stp} {u v : World} (h : Mid w B pd pr o n st st' F G A C lv xv S x u) (hf : Form 8 c st') (hr : RD v pr st' G') (hl : Loc G G' u v) : ∃ C', Full w B pd pr o n st' c F G' A C' lv xv v := by
  obtain ⟨C', hL, hC⟩ := h.logs.second h.core hl hr.lt
  have hfA := h.logs.fA
  exact ⟨C', hf, con.same h.d (hl.other (fun k h1 h2 => h.core.aC k (hfA.1 k h2) (hfA.2 k h1)) (con.lt h.d)), hr, hC, h.box.same (hl.block B h.core.bLt (fun hf => h.core.cB (hfA.2 B hf))), hL⟩
theorem Mid.c01 {w : World} {B pd pr : Nat} {o n : Int} {st st' : St} {F G A C : Nat → Prop} {lv xv : Value} {S : Nat} {x : Stp} {u : World} (h : Mid w B pd pr o n st st' F G A C lv xv S x u) : u.cell? ⟨B, 0, none⟩ = some (.pointer (some ⟨pd, 0, none⟩)) ∧ u.cell? ⟨B, 1, none⟩ = some (.pointer (some ⟨pr, 0, none⟩)) := ⟨h.box.cells.1, h.box.cells.2.1⟩
theorem Full.c01 {w : World} {B pd pr : Nat} {o n : Int} {st : St} {c : Nat} {F G A C : Nat → Prop} {lv xv : Value} {u : World} (h : Full w B pd pr o n st c F G A C lv xv u) : u.cell? ⟨B, 0, none⟩ = some (.pointer (some ⟨pd, 0, none⟩)) ∧ u.cell? ⟨B, 1, none⟩ = some (.pointer (some ⟨pr, 0, none⟩)) := ⟨h.box.cells.1, h.box.cells.2.1⟩
theorem mod7 (a k : Nat) (h : a % 7 = k) : Int.tmod (a : Int) 7 = (k : Int) := by rw [Int.tmod_eq_emod_of_nonneg (by omega)]; omega
set_option maxRecDepth 10000 in
set_option maxHeartbeats 2000000 in
theorem bdoes1 (w u : World) (B pd pr : Nat) (o n : Int) (st : St) (c : Nat) (F G A C : Nat → Prop) (lv xv : Value) (x : Stp) (h : Full w B pd pr o n st c F G A C lv xv u) (hc : c ≤ 9000) (hx : x.Ok) (ha : x.act % 7 = 1) :
    Calls Try.prog 12 #[.pointer (some ⟨B, 0, none⟩), x.val] u (OpenSays w B pd pr o n (c + 32)) := by
  have hm := mod7 x.act 1 ha
  have hact := hx.act
  have HM := hide (Mid.start h x)
  have HF := hide h.form
  obtain ⟨s0, s1, s2, s3, s4⟩ := HM.out.step.cells
  clear h hx ha
  unfold Stp.val
  have K1 := hide (fun v (hd : DAt v pd st F) => con.sync pd st F v hd HF.out.ok (by have := HF.out.few; omega))
  have K2 := hide (fun v (hd : RD v pr st G) => rd_sync pr st G v hd HF.out.ok (by have := HF.out.few; omega))
  have HF2 := hide (HF.out.sync.more (show c ≤ c + 32 by omega))
  generalize st.sync = R at *
  go_enter Try.func12, Try.ntmps12
  go_wp2_with fail
  generalize u.alloc (.cells #[.int .u8 (x.act : Int), .string x.text, .int .u8 (x.times : Int), .int .i64 x.n, .slice x.pa x.picks.length x.pc] 40) = U at *
  clear s0 s1 s2 s3 s4
  have K := HM.out.keep ((Below.refl _ _).drew)
  go_region_held3 (fun z => z.cell? ⟨B, 0, none⟩ = some (.pointer (some ⟨pd, 0, none⟩)) ∧ z.cell? ⟨B, 1, none⟩ = some (.pointer (some ⟨pr, 0, none⟩)))
    ((first | (with_reducible exact Mid.c01 K) | (with_reducible exact Full.c01 K)))
    (first
      | (go_at_call 22; refine (K1.out _ K.d).mono ?_; rintro e z1 ⟨rfl, F1, hd1, hl1⟩; obtain ⟨A1, K⟩ := Mid.first K hd1 hl1)
      | (go_at_call 28; refine (K2.out _ K.r).mono ?_; rintro e z2 ⟨rfl, G1, hr2, hl2⟩; obtain ⟨C1, K⟩ := Mid.then K HF2.out hr2 hl2))
  all_goals
    have HK := hide K
    clear K
    go_wp2
    go_ret
    exact ⟨by simp, _, _, _, _, _, _, _, HK.out⟩
end Go.Proofs.Ytelkccfjeinlcaa
namespace Go.Proofs.Ytelkccfjeinlcaa
open Go Go.RowKit Frm Go.Shelf
theorem Mid.thenM {w : World} {B pd pr : Nat} {o n : Int} {st st' : St} {F G G' A C : Nat → Prop} {lv xv : Value} {S : Nat} {x : Stp} {u v : World} (h : Mid w B pd pr o n st st' F G A C lv xv S x u) (hr : RD v pr st' G') (hl : Loc G G' u v) : ∃ C', Mid w B pd pr o n st' st' F G' A C' lv xv S x v := by
  obtain ⟨C', hL, hC⟩ := h.logs.second h.core hl hr.lt
  have hfA := h.logs.fA
  have hSG : ¬ G S := fun hf => h.sC (hfA.2 S hf)
  refine ⟨C', con.same h.d (hl.other (fun k h1 h2 => h.core.aC k (hfA.1 k h2) (hfA.2 k h1)) (con.lt h.d)), hr, hC, h.box.same (hl.block B h.core.bLt (fun hf => h.core.cB (hfA.2 B hf))), hL, (hl.block S h.step.lt hSG).trans h.step, h.sA, fun hf => ?_, h.sB⟩
  have hS' : ¬ G' S := fun hf => by
    rcases hl.own S hf with h1 | h1
    · exact hSG h1
    · have := h.step.lt; omega
  rcases hL with ⟨_, _, _, e4⟩ | ⟨p, x', o', N, s, b, _, e2, _, _, _, _, _, _, _, _, _, _, e11⟩
  · rw [e4] at hf; exact hS' hf
  · rw [e11] at hf
    rcases hf with hf | hf
    · exact hS' hf
    · rcases h.logs with ⟨_, e2', _⟩ | ⟨_, x2, _, _, _, _, _, e2', _, _, _, _, _, _, _, _, _, _, e11'⟩
      · rw [e2'] at e2; cases e2
      · rw [e2'] at e2
        cases e2
        exact h.sC (by rw [e11']; exact Or.inr hf)
theorem Mid.full {w : World} {B pd pr : Nat} {o n : Int} {st : St} {c : Nat} {F G A C : Nat → Prop} {lv xv : Value} {S : Nat} {x : Stp} {u : World} (h : Mid w B pd pr o n st st F G A C lv xv S x u) (hf : Form 8 c st) : Full w B pd pr o n st c F G A C lv xv u := ⟨hf, h.d, h.r, h.core, h.box, h.logs⟩
theorem Mid.says {w : World} {B pd pr : Nat} {o n : Int} {st : St} {c : Nat} {F G A C : Nat → Prop} {lv xv : Value} {S : Nat} {x : Stp} {u : World} (h : Mid w B pd pr o n st st F G A C lv xv S x u) (hf : Form 8 c st) : OpenSays w B pd pr o n c (.returned (.bool true)) u := ⟨rfl, _, _, _, _, _, _, _, h.full hf⟩
theorem OpenSays.more {w : World} {B pd pr : Nat} {o n : Int} {c c' : Nat} {e : Ending} {v : World} (h : OpenSays w B pd pr o n c e v) (hc : c ≤ c') : OpenSays w B pd pr o n c' e v := by
  obtain ⟨he, st, F, G, A, C, lv, xv, hF⟩ := h
  exact ⟨he, st, F, G, A, C, lv, xv, hF.more hc⟩
/-- All cells that a step reads. -/
def Sees (B pd pr : Nat) (o n : Int) (S : Nat) (x : Stp) (u : World) : Prop :=
  u.cell? ⟨B, 0, none⟩ = some (.pointer (some ⟨pd, 0, none⟩)) ∧ u.cell? ⟨B, 1, none⟩ = some (.pointer (some ⟨pr, 0, none⟩)) ∧ u.cell? ⟨B, 4, none⟩ = some (.int .i64 o) ∧ u.cell? ⟨B, 5, none⟩ = some (.int .i64 n) ∧ u.cell? ⟨S, 1, none⟩ = some (.string x.text) ∧ u.cell? ⟨S, 3, none⟩ = some (.int .i64 x.n) ∧ u.cell? ⟨S, 4, none⟩ = some (.slice x.pa x.picks.length x.pc)
theorem Mid.sees {w : World} {B pd pr : Nat} {o n : Int} {st st' : St} {F G A C : Nat → Prop} {lv xv : Value} {S : Nat} {x : Stp} {u : World} (h : Mid w B pd pr o n st st' F G A C lv xv S x u) : Sees B pd pr o n S x u := ⟨h.box.cells.1, h.box.cells.2.1, h.box.cells.2.2.2.2.1, h.box.cells.2.2.2.2.2, h.step.cells.2.1, h.step.cells.2.2.2.1, h.step.cells.2.2.2.2⟩
theorem Mid.c0s3 {w : World} {B pd pr : Nat} {o n : Int} {st st' : St} {F G A C : Nat → Prop} {lv xv : Value} {S : Nat} {x : Stp} {u : World} (h : Mid w B pd pr o n st st' F G A C lv xv S x u) : u.cell? ⟨B, 0, none⟩ = some (.pointer (some ⟨pd, 0, none⟩)) ∧ u.cell? ⟨B, 1, none⟩ = some (.pointer (some ⟨pr, 0, none⟩)) ∧ u.cell? ⟨S, 3, none⟩ = some (.int .i64 x.n) := ⟨h.box.cells.1, h.box.cells.2.1, h.step.cells.2.2.2.1⟩
theorem Mid.c01s13 {w : World} {B pd pr : Nat} {o n : Int} {st st' : St} {F G A C : Nat → Prop} {lv xv : Value} {S : Nat} {x : Stp} {u : World} (h : Mid w B pd pr o n st st' F G A C lv xv S x u) : u.cell? ⟨B, 0, none⟩ = some (.pointer (some ⟨pd, 0, none⟩)) ∧ u.cell? ⟨B, 1, none⟩ = some (.pointer (some ⟨pr, 0, none⟩)) ∧ u.cell? ⟨S, 1, none⟩ = some (.string x.text) ∧ u.cell? ⟨S, 3, none⟩ = some (.int .i64 x.n) := ⟨h.box.cells.1, h.box.cells.2.1, h.step.cells.2.1, h.step.cells.2.2.2.1⟩
theorem Mid.c0145 {w : World} {B pd pr : Nat} {o n : Int} {st st' : St} {F G A C : Nat → Prop} {lv xv : Value} {S : Nat} {x : Stp} {u : World} (h : Mid w B pd pr o n st st' F G A C lv xv S x u) : u.cell? ⟨B, 0, none⟩ = some (.pointer (some ⟨pd, 0, none⟩)) ∧ u.cell? ⟨B, 1, none⟩ = some (.pointer (some ⟨pr, 0, none⟩)) ∧ u.cell? ⟨B, 4, none⟩ = some (.int .i64 o) ∧ u.cell? ⟨B, 5, none⟩ = some (.int .i64 n) := ⟨h.box.cells.1, h.box.cells.2.1, h.box.cells.2.2.2.2.1, h.box.cells.2.2.2.2.2⟩
theorem Full.c0145 {w : World} {B pd pr : Nat} {o n : Int} {st : St} {c : Nat} {F G A C : Nat → Prop} {lv xv : Value} {u : World} (h : Full w B pd pr o n st c F G A C lv xv u) : u.cell? ⟨B, 0, none⟩ = some (.pointer (some ⟨pd, 0, none⟩)) ∧ u.cell? ⟨B, 1, none⟩ = some (.pointer (some ⟨pr, 0, none⟩)) ∧ u.cell? ⟨B, 4, none⟩ = some (.int .i64 o) ∧ u.cell? ⟨B, 5, none⟩ = some (.int .i64 n) := ⟨h.box.cells.1, h.box.cells.2.1, h.box.cells.2.2.2.2.1, h.box.cells.2.2.2.2.2⟩
set_option maxRecDepth 10000 in
set_option maxHeartbeats 2000000 in
theorem bdoes5 (w u : World) (B pd pr : Nat) (o n : Int) (st : St) (c : Nat) (F G A C : Nat → Prop) (lv xv : Value) (x : Stp) (h : Full w B pd pr o n st c F G A C lv xv u) (hc : c ≤ 9000) (hn : -9223372036854775808 ≤ n ∧ n ≤ 9223372036854775807) (hx : x.Ok) (ha : x.act % 7 = 5) :
    Calls Try.prog 12 #[.pointer (some ⟨B, 0, none⟩), x.val] u (OpenSays w B pd pr o n (c + 32)) := by
  have hm := mod7 x.act 5 ha
  have hact := hx.act
  have HM := hide (Mid.start h x)
  obtain ⟨s0, s1, s2, s3, s4⟩ := HM.out.step.cells
  have KO := hide (both_open w _ B pd pr o n st c F G lv xv (HM.out.full h.form).disks (by omega) hn)
  clear h hx ha
  unfold Stp.val
  go_enter Try.func12, Try.ntmps12
  go_wp2_with fail
  refine KO.out.mono ?_
  rintro e v ⟨rfl, hK⟩
  have HK : Hid (OpenSays w B pd pr o n (c + 32) (.returned (.bool true)) v) := OpenSays.more (c := c + 16) ⟨rfl, hK⟩ (by omega)
  clear hK
  go_wp2
  go_ret
  exact HK.out
set_option maxRecDepth 10000 in
set_option maxHeartbeats 2000000 in
theorem bdoes3 (w u : World) (B pd pr : Nat) (o n : Int) (st : St) (c : Nat) (F G A C : Nat → Prop) (lv xv : Value) (x : Stp) (h : Full w B pd pr o n st c F G A C lv xv u) (hx : x.Ok) (ha : x.act % 7 = 3) :
    Calls Try.prog 12 #[.pointer (some ⟨B, 0, none⟩), x.val] u (OpenSays w B pd pr o n (c + 32)) := by
  have hm := mod7 x.act 3 ha
  have hact := hx.act
  have HM := hide (Mid.start h x)
  have HF := hide h.form
  obtain ⟨s0, s1, s2, s3, s4⟩ := HM.out.step.cells
  have K1 := hide (fun v (hd : DAt v pd st F) => con.fuse pd st F x.n v hd HF.out.ok hx.n)
  have K2 := hide (fun v (hd : RD v pr st G) => rd_fuse pr st G x.n v hd hx.n.2)
  have HF2 := hide ((HF.out.fuse x.n hx.n.2).more (show c ≤ c + 32 by omega))
  clear h hx ha
  unfold Stp.val
  generalize st.fuse x.n = R at *
  go_enter Try.func12, Try.ntmps12
  go_wp2_with fail
  generalize u.alloc (.cells #[.int .u8 (x.act : Int), .string x.text, .int .u8 (x.times : Int), .int .i64 x.n, .slice x.pa x.picks.length x.pc] 40) = U at *
  generalize u.heap.size = S at *
  clear s0 s1 s2 s3 s4
  have K := HM.out.keep ((Below.refl _ _).drew)
  go_region_held3 (fun z => z.cell? ⟨B, 0, none⟩ = some (.pointer (some ⟨pd, 0, none⟩)) ∧ z.cell? ⟨B, 1, none⟩ = some (.pointer (some ⟨pr, 0, none⟩)) ∧ z.cell? ⟨S, 3, none⟩ = some (.int .i64 x.n))
    ((with_reducible exact Mid.c0s3 K))
    (first
      | (go_at_call 24; refine (K1.out _ K.d).mono ?_; rintro e z1 ⟨rfl, F1, hd1, hl1⟩; obtain ⟨A1, K⟩ := Mid.first K hd1 hl1))
  all_goals
    have HK := hide K
    clear K
    go_wp2_with fail
    have K := HK.out.keep ((Below.refl _ _).drew)
    go_region_held3 (fun z => z.cell? ⟨B, 0, none⟩ = some (.pointer (some ⟨pd, 0, none⟩)) ∧ z.cell? ⟨B, 1, none⟩ = some (.pointer (some ⟨pr, 0, none⟩)) ∧ z.cell? ⟨S, 3, none⟩ = some (.int .i64 x.n))
      ((with_reducible exact Mid.c0s3 K))
      (first
        | (go_at_call 30; refine (K2.out _ K.r).mono ?_; rintro e z2 ⟨⟨v2, rfl⟩, hr2, hl2⟩; obtain ⟨C1, K⟩ := Mid.thenM K hr2 hl2))
    all_goals
      have HE := hide (K.says HF2.out)
      clear K
      go_wp2
      go_ret
      exact HE.out
set_option maxRecDepth 10000 in
set_option maxHeartbeats 4000000 in
theorem bdoes4 (w u : World) (B pd pr : Nat) (o n : Int) (st : St) (c : Nat) (F G A C : Nat → Prop) (lv xv : Value) (x : Stp) (h : Full w B pd pr o n st c F G A C lv xv u) (hc : c ≤ 9000) (hx : x.Ok) (ht : x.text.size ≤ 100000) (ha : x.act % 7 = 4) :
    Calls Try.prog 12 #[.pointer (some ⟨B, 0, none⟩), x.val] u (OpenSays w B pd pr o n (c + 32)) := by
  have hm := mod7 x.act 4 ha
  have hact := hx.act
  have HM := hide (Mid.start h x)
  have HF := hide h.form
  obtain ⟨s0, s1, s2, s3, s4⟩ := HM.out.step.cells
  have KD := hide (fun v => data_any x.text v ht)
  have K1 := hide (fun v (hd : DAt v pd st F) => con.write pd st F x.n (dataOf x.text) v hd HF.out.ok (by have := HF.out.few; omega) hx.n (by rw [dataOf_size]; omega))
  have K2 := hide (fun v (hd : RD v pr st G) => rd_write pr st G x.n (dataOf x.text) v hd HF.out.ok (by have := HF.out.few; omega))
  have HF2 := hide ((HF.out.write x.n (dataOf x.text)).more (show c + 1 ≤ c + 32 by omega))
  clear h hx ha ht
  unfold Stp.val
  generalize st.write x.n (dataOf x.text) = R at *
  generalize dataOf x.text = D at *
  go_enter Try.func12, Try.ntmps12
  go_wp2_with fail
  generalize u.alloc (.cells #[.int .u8 (x.act : Int), .string x.text, .int .u8 (x.times : Int), .int .i64 x.n, .slice x.pa x.picks.length x.pc] 40) = U at *
  generalize u.heap.size = S at *
  clear s0 s1 s2 s3 s4
  have K := HM.out.keep ((Below.refl _ _).drew)
  go_region_held3 (fun z => z.cell? ⟨B, 0, none⟩ = some (.pointer (some ⟨pd, 0, none⟩)) ∧ z.cell? ⟨B, 1, none⟩ = some (.pointer (some ⟨pr, 0, none⟩)) ∧ z.cell? ⟨S, 1, none⟩ = some (.string x.text) ∧ z.cell? ⟨S, 3, none⟩ = some (.int .i64 x.n))
    ((with_reducible exact Mid.c01s13 K))
    (first
      | (go_at_call 32; refine (KD.out _).mono ?_; rintro e z1 ⟨rfl, hb1⟩; have K := Mid.keep K hb1)
      | (go_at_call 31; refine (K1.out _ K.d).mono ?_; rintro e z2 ⟨rfl, F1, hd1, hl1⟩; obtain ⟨A1, K⟩ := Mid.first K hd1 hl1)
      | (go_at_call 33; refine (K2.out _ K.r).mono ?_; rintro e z3 ⟨rfl, G1, hr2, hl2⟩; obtain ⟨C1, K⟩ := Mid.thenM K hr2 hl2))
  all_goals
    have HE := hide (K.says HF2.out)
    clear K
    go_wp2
    go_ret
    exact HE.out
set_option maxRecDepth 10000 in
set_option maxHeartbeats 4000000 in
theorem bdoes6a (w u : World) (B pd pr : Nat) (o n : Int) (st : St) (R : Nat × St) (c : Nat) (F G A C : Nat → Prop) (lv xv : Value) (x : Stp) (h : Full w B pd pr o n st c F G A C lv xv u) (hc : c ≤ 9000) (hn : -9223372036854775808 ≤ n ∧ n ≤ 9223372036854775807) (hx : x.Ok) (ha : x.act % 7 = 6) (hf : Form 8 (c + 8) R.2)
    (k1 : ∀ v, DAt v pd st F → Calls Try.prog 18 #[.pointer (some ⟨pd, 0, none⟩), .int .i64 o, .int .i64 n] v fun e v' => e = .returned (.int .i64 ((R.1 : Nat) : Int)) ∧ ∃ F', DAt v' pd R.2 F' ∧ Loc F F' v v')
    (k2 : ∀ v, RD v pr st G → Calls Try.prog 34 #[.pointer (some ⟨pr, 0, none⟩), .int .i64 o, .int .i64 n] v fun e v' => e = .returned (.int .i64 ((R.1 : Nat) : Int)) ∧ ∃ G', RD v' pr R.2 G' ∧ Loc G G' v v') :
    Calls Try.prog 12 #[.pointer (some ⟨B, 0, none⟩), x.val] u (OpenSays w B pd pr o n (c + 32)) := by
  have hm := mod7 x.act 6 ha
  have hact := hx.act
  have HM := hide (Mid.start h x)
  obtain ⟨s0, s1, s2, s3, s4⟩ := HM.out.step.cells
  have K1 := hide k1
  have K2 := hide k2
  have HF2 := hide hf
  have KO := hide (fun v F' G' A' C' (hF : Full w B pd pr o n R.2 (c + 8) F' G' A' C' lv xv v) => both_open w v B pd pr o n R.2 (c + 8) F' G' lv xv hF.disks (by omega) hn)
  clear h hx ha k1 k2 hf
  unfold Stp.val
  go_enter Try.func12, Try.ntmps12
  go_wp2_with fail
  generalize u.alloc (.cells #[.int .u8 (x.act : Int), .string x.text, .int .u8 (x.times : Int), .int .i64 x.n, .slice x.pa x.picks.length x.pc] 40) = U at *
  generalize u.heap.size = S at *
  clear s0 s1 s2 s3 s4
  have K := HM.out.keep ((Below.refl _ _).drew)
  go_region_held3 (fun z => z.cell? ⟨B, 0, none⟩ = some (.pointer (some ⟨pd, 0, none⟩)) ∧ z.cell? ⟨B, 1, none⟩ = some (.pointer (some ⟨pr, 0, none⟩)) ∧ z.cell? ⟨B, 4, none⟩ = some (.int .i64 o) ∧ z.cell? ⟨B, 5, none⟩ = some (.int .i64 n))
    ((first | (with_reducible exact Mid.c0145 K) | (with_reducible exact Full.c0145 K)))
    (first
      | (go_at_call 18; refine (K1.out _ K.d).mono ?_; rintro e z1 ⟨rfl, F1, hd1, hl1⟩; obtain ⟨A1, K⟩ := Mid.first K hd1 hl1)
      | (go_at_call 34; refine (K2.out _ K.r).mono ?_; rintro e z2 ⟨rfl, G1, hr2, hl2⟩; obtain ⟨C1, K⟩ := Mid.then K HF2.out hr2 hl2)
      | (go_at_call 11; refine (KO.out _ _ _ _ _ K).mono ?_; rintro e z3 ⟨rfl, st3, F3, G3, A3, C3, lv3, xv3, K⟩))
  all_goals
    have HE : Hid (OpenSays w B pd pr o n (c + 32) (.returned (.bool true)) _) := OpenSays.more (c := c + 8 + 16) ⟨rfl, st3, F3, G3, A3, C3, lv3, xv3, K⟩ (by omega)
    clear K
    go_wp2
    go_ret
    exact HE.out
theorem bdoes6 (w u : World) (B pd pr : Nat) (o n : Int) (st : St) (c : Nat) (F G A C : Nat → Prop) (lv xv : Value) (x : Stp) (h : Full w B pd pr o n st c F G A C lv xv u) (hc : c ≤ 9000) (hn : -9223372036854775808 ≤ n ∧ n ≤ 9223372036854775807) (hx : x.Ok) (ha : x.act % 7 = 6) :
    Calls Try.prog 12 #[.pointer (some ⟨B, 0, none⟩), x.val] u (OpenSays w B pd pr o n (c + 32)) := by
  have hok := h.form.ok
  have hlen := h.form.len
  have hfew := h.form.few
  by_cases hm : st.may o n
  · obtain ⟨o', N, rfl, rfl, h1, h8⟩ : ∃ o' N : Nat, o = (o' : Int) ∧ n = (N : Int) ∧ 1 ≤ N ∧ o' + N ≤ 8 := by
      unfold St.may at hm
      rw [hlen] at hm
      exact ⟨o.toNat, n.toNat, by omega, by omega, by omega, by omega⟩
    exact bdoes6a w u B pd pr o' N st (walClear st o' N) c F G A C lv xv x h hc hn hx ha ((h.form.clear o' N).more (by omega)) (fun v hd => clear_any pd o' N st F v hd hok (by omega) (by omega) h1) (fun v hd => rClear pr o' N st G v hd hok (by omega) (by omega) h1)
  · refine bdoes6a w u B pd pr o n st (2, st) c F G A C lv xv x h hc hn hx ha (h.form.more (by omega)) (fun v hd => (clear_not pd o n st F v hd hok hn hm).mono ?_) (fun v hd => (rClear_not pr o n st G v hd hok hm).mono ?_)
    · rintro e v' ⟨rfl, hb⟩
      exact ⟨rfl, F, con.below hd hb, Loc.of_below _ hb⟩
    · rintro e v' ⟨rfl, hw⟩
      obtain rfl := hw.symm
      exact ⟨rfl, G, hd, Loc.refl _ _⟩
end Go.Proofs.Ytelkccfjeinlcaa
