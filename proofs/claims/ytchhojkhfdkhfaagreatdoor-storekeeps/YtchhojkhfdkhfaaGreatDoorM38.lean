/- What was found is what was there. The law's own 'alive', over contracts of the program's stores. The law StoreNil. The law StoreKeeps. -/
import Derived.Test.YtchhojkhfdkhfaaGreatDoorM37
import Derived.Test.YtchhojkhfdkhfaaGreatDoorM02
import Derived.Test.YtchhojkhfdkhfaaGreatDoorM35
import Derived.Test.YtchhojkhfdkhfaaGreatDoorM26
namespace Go.Proofs.YtchhojkhfdkhfaaGreatDoor
open Go Go.RowKit Frm Go.Shelf
def pastV (g : Int) (t : ByteArray) (a : Option Addr) (n c : Nat) (s : Int) : Value := .agg #[.int .u64 g, .string t, .slice a n c, .int .i64 s]
def keptV (g : Int) (t : ByteArray) (a : Option Addr) (n c : Nat) : Value := .agg #[.int .u64 g, .string t, .slice a n c]
theorem past_box (w : World) (v0 v1 v2 v3 k0 k1 k2 : Value) (z : World) (hb : Below ((w.alloc (.cells #[v0, v1, v2, v3] 65)).alloc (.cells #[k0, k1, k2] 61)).heap.size ((w.alloc (.cells #[v0, v1, v2, v3] 65)).alloc (.cells #[k0, k1, k2] 61)) z) :
    z.cell? ⟨w.heap.size, 0, none⟩ = some v0 ∧ z.cell? ⟨w.heap.size, 1, none⟩ = some v1 ∧ z.cell? ⟨w.heap.size, 2, none⟩ = some v2 ∧ z.cell? ⟨w.heap.size, 3, none⟩ = some v3 ∧ z.cell? ⟨w.heap.size + 1, 0, none⟩ = some k0 ∧ z.cell? ⟨w.heap.size + 1, 1, none⟩ = some k1 ∧ z.cell? ⟨w.heap.size + 1, 2, none⟩ = some k2 := by
  have s1 : (w.alloc (.cells #[v0, v1, v2, v3] 65)).heap.size = w.heap.size + 1 := by simp
  have l2 := heap_alloc_last (w.alloc (.cells #[v0, v1, v2, v3] 65)) (.cells #[k0, k1, k2] 61)
  rw [s1] at l2
  have l1 := ((one_below (w.alloc (.cells #[v0, v1, v2, v3] 65)) (.cells #[k0, k1, k2] 61)).block w.heap.size (by omega)).trans (heap_alloc_last w _)
  have h1 := (hb.block w.heap.size (by simp; omega)).trans l1
  have h2 := (hb.block (w.heap.size + 1) (by simp)).trans l2
  exact ⟨(cell_of_row _ _ 0 _ _ _ h1).trans rfl, (cell_of_row _ _ 1 _ _ _ h1).trans rfl, (cell_of_row _ _ 2 _ _ _ h1).trans rfl, (cell_of_row _ _ 3 _ _ _ h1).trans rfl, (cell_of_row _ _ 0 _ _ _ h2).trans rfl, (cell_of_row _ _ 1 _ _ _ h2).trans rfl, (cell_of_row _ _ 2 _ _ _ h2).trans rfl⟩
set_option maxRecDepth 10000 in
set_option maxHeartbeats 4000000 in
theorem found_yes (g : Int) (t : ByteArray) (a a' : Option Addr) (n c r c' : Nat) (s : Nat) (L : List ByteArray) (w : World) (hL : L.length = r) (hrn : r ≤ n) (hsr : s ≤ r) (hnc : n ≤ c) (hn : n ≤ 10000) (h1 : StrsAt w a L) (h2 : StrsAt w a' L) :
    Calls Tryz.prog 27 #[pastV g t a n c (s : Int), keptV g t a' r c'] w fun e w' => e = .returned (.bool true) ∧ Below w.heap.size w w' := by
  have HB := hide (grow2 w (.cells #[.int .u64 g, .string t, .slice a n c, .int .i64 (s : Int)] 65) (.cells #[.int .u64 g, .string t, .slice a' r c'] 61))
  have hb2 := grow2 w (.cells #[.int .u64 g, .string t, .slice a n c, .int .i64 (s : Int)] 65) (.cells #[.int .u64 g, .string t, .slice a' r c'] 61)
  have K := hide (fun m => same_any a' a c' c L (((w.alloc (.cells #[.int .u64 g, .string t, .slice a n c, .int .i64 (s : Int)] 65)).alloc (.cells #[.int .u64 g, .string t, .slice a' r c'] 61)).drewN m) (h2.below (below_drewN hb2 m)) (h1.below (below_drewN hb2 m)) (by omega))
  rw [hL] at K
  clear hb2
  obtain ⟨c0, c1, c2, c3, k0, k1, k2⟩ := past_box w (.int .u64 g) (.string t) (.slice a n c) (.int .i64 (s : Int)) (.int .u64 g) (.string t) (.slice a' r c') _ (Below.refl _ _)
  have e1 : (s : Int) ≤ (r : Int) := by omega
  have e2 : (r : Int) ≤ (n : Int) := by omega
  have e3 : (r : Int) ≤ (c : Int) := by omega
  have e4 : ¬ ((r : Int) < (s : Int)) := by omega
  have e5 : ¬ ((n : Int) < (r : Int)) := by omega
  unfold pastV keptV
  clear h1 h2 hL hrn hsr hnc hn
  go_enter Tryz.func27, Tryz.ntmps27
  go_wp2_with fail
  generalize (w.alloc (.cells #[.int .u64 g, .string t, .slice a n c, .int .i64 (s : Int)] 65)).alloc (.cells #[.int .u64 g, .string t, .slice a' r c'] 61) = W at *
  go_quiet ((first | (go_at_call 30; exact Calls.quiet_of (K.out _))))
  have HE := hide (below_drewN HB.out nq)
  go_wp2
  go_ret
  exact ⟨rfl, HE.out⟩
set_option maxRecDepth 10000 in
set_option maxHeartbeats 4000000 in
theorem found_no (g g' : Int) (t t' : ByteArray) (a a' : Option Addr) (n c r c' : Nat) (s : Nat) (w : World) (hg : ¬ g' = g) :
    Calls Tryz.prog 27 #[pastV g t a n c (s : Int), keptV g' t' a' r c'] w fun e w' => e = .returned (.bool false) ∧ Below w.heap.size w w' := by
  have HB := hide (grow2 w (.cells #[.int .u64 g, .string t, .slice a n c, .int .i64 (s : Int)] 65) (.cells #[.int .u64 g', .string t', .slice a' r c'] 61))
  obtain ⟨c0, c1, c2, c3, k0, k1, k2⟩ := past_box w (.int .u64 g) (.string t) (.slice a n c) (.int .i64 (s : Int)) (.int .u64 g') (.string t') (.slice a' r c') _ (Below.refl _ _)
  unfold pastV keptV
  have hgb : (g' == g) = false := beq_eq_false_iff_ne.2 hg
  clear hg
  go_enter Tryz.func27, Tryz.ntmps27
  go_wp2_with fail
  generalize (w.alloc (.cells #[.int .u64 g, .string t, .slice a n c, .int .i64 (s : Int)] 65)).alloc (.cells #[.int .u64 g', .string t', .slice a' r c'] 61) = W at *
  go_quiet (fail)
  have HE := hide (below_drewN HB.out nq)
  go_wp2
  go_ret
  exact ⟨rfl, HE.out⟩
end Go.Proofs.YtchhojkhfdkhfaaGreatDoor
namespace Go.Proofs.YtchhojkhfdkhfaaGreatDoor
open Go Go.RowKit Frm Go.Shelf
theorem info23 : (Tryz.prog.info? 23).map (·.size) = some 2 := by kernel_rfl
theorem small_any (w : World) : Calls Tryz.prog 28 #[] w fun e v => e = .returned (confV 2 2) ∧ Below w.heap.size w v := by
  go_enter Tryz.func28, Tryz.ntmps28
  go_wp2
  exact bodyPost_ret (results_cell_row Tryz.results28 _ _ w.heap.size 23 _ (0, 0) _ rfl (heap_alloc_last w _) Tryz.underlying23 rfl info23) rfl ⟨rfl, one_below _ _⟩
/-- The box of what is kept. -/
structure Bk (w : World) (B : Nat) (u : World) : Prop where
  low : w.heap.size ≤ B
  box : ∃ v0 v1 v2, u.heap[B]? = some (.cells #[v0, v1, v2] 61 (0, 0))
theorem Bk.lt {w : World} {B : Nat} {u : World} (h : Bk w B u) : B < u.heap.size := by
  obtain ⟨_, v0, v1, v2, h⟩ := h
  exact (Array.getElem?_eq_some_iff.1 h).1
theorem Bk.below {w : World} {B : Nat} {u v : World} (h : Bk w B u) (hb : Below u.heap.size u v) : Bk w B v := ⟨h.low, by
  obtain ⟨v0, v1, v2, e⟩ := h.box
  exact ⟨v0, v1, v2, (hb.block B h.lt).trans e⟩⟩
theorem Bk.loc {w : World} {B : Nat} {u v : World} {A A' : Nat → Prop} (h : Bk w B u) (hn : ¬ A B) (hl : Loc A A' u v) : Bk w B v ∧ ¬ A' B := by
  refine ⟨⟨h.low, ?_⟩, fun hf => ?_⟩
  · obtain ⟨v0, v1, v2, e⟩ := h.box
    exact ⟨v0, v1, v2, (hl.block B h.lt hn).trans e⟩
  · rcases hl.own B hf with h1 | h1
    · exact hn h1
    · have := h.lt; omega
theorem Bk.cells {w : World} {B : Nat} {u : World} (h : Bk w B u) : ∃ v0 v1 v2, (u.cell? ⟨B, 0, none⟩ = some v0 ∧ u.cell? ⟨B, 1, none⟩ = some v1 ∧ u.cell? ⟨B, 2, none⟩ = some v2) ∧ ∀ i, u.frozen? ⟨B, i, none⟩ = false := by
  obtain ⟨v0, v1, v2, e⟩ := h.box
  refine ⟨v0, v1, v2, ⟨?_, ?_, ?_⟩, fun i => by simp [World.frozen?, e]⟩ <;> simp [World.cell?, e]
theorem Bk.set {w : World} {B : Nat} {u : World} (h : Bk w B u) (x y z : Value) : Bk w B (((u.setCell ⟨B, 0, none⟩ x).setCell ⟨B, 1, none⟩ y).setCell ⟨B, 2, none⟩ z) := ⟨h.low, by
  obtain ⟨v0, v1, v2, e⟩ := h.box
  exact ⟨x, y, z, heap_set3 (i := 2) (heap_set3 (i := 1) (heap_set3 (i := 0) e x) y) z⟩⟩
theorem set3_block (u : World) (B : Nat) (x y z : Value) (k : Nat) (h : k ≠ B) : (((u.setCell ⟨B, 0, none⟩ x).setCell ⟨B, 1, none⟩ y).setCell ⟨B, 2, none⟩ z).heap[k]? = u.heap[k]? := by
  rw [Below.heap_setCell _ ⟨B, 2, none⟩ z k h, Below.heap_setCell _ ⟨B, 1, none⟩ y k h, Below.heap_setCell _ ⟨B, 0, none⟩ x k h]
theorem set3_below {w u : World} (h : Below w.heap.size w u) (B : Nat) (hB : w.heap.size ≤ B) (x y z : Value) : Below w.heap.size w (((u.setCell ⟨B, 0, none⟩ x).setCell ⟨B, 1, none⟩ y).setCell ⟨B, 2, none⟩ z) :=
  ((h.setCell (p := ⟨B, 0, none⟩) hB x).setCell (p := ⟨B, 1, none⟩) hB y).setCell (p := ⟨B, 2, none⟩) hB z
/-- A disk of the caller's own, and the box. -/
structure Ak (w : World) (q : Nat) (st : St) (F : Nat → Prop) (B : Nat) (u : World) : Prop where
  al : Al8 w q st F u
  bx : Bk w B u
  free : ¬ F B
/-- A store of the caller's own, and the box. -/
structure Sk (PS : World → Nat → Nat → Nat → Nat → Sto → St → (Nat → Prop) → Prop) (w : World) (p q : Nat) (s : Sto) (st : St) (A : Nat → Prop) (B : Nat) (u : World) : Prop where
  sl : Sl8 PS w p q 2 2 s st A u
  bx : Bk w B u
  free : ¬ A B
theorem Ak.step {w : World} {q : Nat} {st st' : St} {F F' : Nat → Prop} {B : Nat} {u v : World} (h : Ak w q st F B u) (hd : DAt v q st' F') (hl : Loc F F' u v) : Ak w q st' F' B v :=
  ⟨h.al.step hd hl, (h.bx.loc h.free hl).1, (h.bx.loc h.free hl).2⟩
theorem Ak.keep {w : World} {q : Nat} {st : St} {F : Nat → Prop} {B : Nat} {u v : World} (h : Ak w q st F B u) (hb : Below u.heap.size u v) : Ak w q st F B v := ⟨h.al.keep hb, h.bx.below hb, h.free⟩
theorem Ak.opened {PS : World → Nat → Nat → Nat → Nat → Sto → St → (Nat → Prop) → Prop} {w : World} {p q : Nat} {s : Sto} {st st' : St} {F A : Nat → Prop} {B : Nat} {u v : World} (h : Ak w q st F B u) (hd : PS v p q 2 2 s st' A) (hl : Loc F A u v) : Sk PS w p q s st' A B v :=
  ⟨h.al.opened hd hl, (h.bx.loc h.free hl).1, (h.bx.loc h.free hl).2⟩
theorem Sk.step {PS : World → Nat → Nat → Nat → Nat → Sto → St → (Nat → Prop) → Prop} {w : World} {p q : Nat} {s s' : Sto} {st st' : St} {A A' : Nat → Prop} {B : Nat} {u v : World} (h : Sk PS w p q s st A B u) (hd : PS v p q 2 2 s' st' A') (hl : Loc A A' u v) : Sk PS w p q s' st' A' B v :=
  ⟨h.sl.step hd hl, (h.bx.loc h.free hl).1, (h.bx.loc h.free hl).2⟩
theorem Sk.disk {PS : World → Nat → Nat → Nat → Nat → Sto → St → (Nat → Prop) → Prop} (C : SCon PS) {w : World} {p q : Nat} {s : Sto} {st : St} {A : Nat → Prop} {B : Nat} {u : World} (h : Sk PS w p q s st A B u) : ∃ G, Ak w q st G B u := by
  obtain ⟨G, h1, h2, _⟩ := C.disk h.sl.sto
  exact ⟨G, ⟨h1, h.sl.below, fun k hk => h.sl.new k (h2 k hk)⟩, h.bx, fun hf => h.free (h2 _ hf)⟩
theorem Sk.start {PS : World → Nat → Nat → Nat → Nat → Sto → St → (Nat → Prop) → Prop} (C : SCon PS) {w : World} {p q : Nat} {s : Sto} {st : St} {A : Nat → Prop} {u : World} (h : Sl8 PS w p q 2 2 s st A u) (x y z : Value) : Sk PS w p q s st A u.heap.size (u.alloc (.cells #[x, y, z] 61)) :=
  ⟨⟨C.below h.sto (one_below _ _), bnext h.below (one_below _ _), h.new⟩, ⟨h.below.size, x, y, z, heap_alloc_last u _⟩, fun hf => Nat.lt_irrefl _ (C.lt h.sto _ hf)⟩
theorem Sk.set {PS : World → Nat → Nat → Nat → Nat → Sto → St → (Nat → Prop) → Prop} (C : SCon PS) {w : World} {p q : Nat} {s : Sto} {st : St} {A : Nat → Prop} {B : Nat} {u : World} (h : Sk PS w p q s st A B u) (x y z : Value) : Sk PS w p q s st A B (((u.setCell ⟨B, 0, none⟩ x).setCell ⟨B, 1, none⟩ y).setCell ⟨B, 2, none⟩ z) :=
  ⟨⟨C.same h.sl.sto (fun k hk => set3_block u B x y z k (fun e => h.free (e ▸ hk))), set3_below h.sl.below B h.bx.low x y z, h.sl.new⟩, h.bx.set x y z, h.free⟩
set_option maxRecDepth 10000 in
set_option maxHeartbeats 4000000 in
theorem alive8_any {PS : World → Nat → Nat → Nat → Nat → Sto → St → (Nat → Prop) → Prop} (C : SCon PS) (w : World) : Calls Tryz.prog 9 #[] w fun e w' => e = .returned (.bool true) ∧ Below w.heap.size w w' := by
  obtain ⟨st1, st2, st3, st4, st5, st6, st7, st8, st9, st10, H⟩ := chain
  have K1 := hide (con.new 8 w (by decide) (by decide))
  have KS : Hid (∀ q st F u, Al8 w q st F u → Calls Tryz.prog 28 #[] u fun e v => e = .returned (confV 2 2) ∧ Al8 w q st F v) := fun q st F u h => by
    refine (small_any u).mono ?_
    rintro e v ⟨rfl, hb⟩
    exact ⟨rfl, h.keep hb⟩
  have KS2 : Hid (∀ q st F B u, Ak w q st F B u → Calls Tryz.prog 28 #[] u fun e v => e = .returned (confV 2 2) ∧ Ak w q st F B v) := fun q st F B u h => by
    refine (small_any u).mono ?_
    rintro e v ⟨rfl, hb⟩
    exact ⟨rfl, h.keep hb⟩
  have KB : Hid (∀ q st F u, Al8 w q st F u → Calls Tryz.prog 6 #[confV 2 2] u fun e v => e = .returned (.int .i64 8) ∧ Al8 w q st F v) := fun q st F u h => by
    refine (C.blocks 2 2 u (by decide) (by decide)).mono ?_
    rintro e v ⟨rfl, hb⟩
    exact ⟨rfl, h.keep hb⟩
  have KM1 : Hid (∀ q F u, Al8 w q (St.new 8) F u → Calls Tryz.prog 19 #[.pointer (some ⟨q, 0, none⟩), confV 2 2] u fun e v => e = .returned (.int .i64 0) ∧ ∃ F', Al8 w q st1 F' v) := fun q F u h => by
    have := C.make q (St.new 8) F 2 2 u h.disk (St.Ok.new (by decide) (by decide)) (by decide) (by decide) (by decide) (by decide)
    rw [show stoMake (St.new 8) 2 2 = (0, st1) from H.m1] at this
    refine this.mono ?_
    rintro e v ⟨rfl, F', hd, hl⟩
    exact ⟨rfl, F', h.step hd hl⟩
  have KM2 : Hid (∀ q F u, Al8 w q st1 F u → Calls Tryz.prog 19 #[.pointer (some ⟨q, 0, none⟩), confV 2 2] u fun e v => e = .returned (.int .i64 7) ∧ ∃ F', Al8 w q st1 F' v) := fun q F u h => by
    have := C.make q st1 F 2 2 u h.disk H.g1.ok (by have := H.g1.few; omega) (by rw [H.g1.long]; decide) (by decide) (by decide)
    rw [show stoMake st1 2 2 = (7, st1) from H.m2] at this
    refine this.mono ?_
    rintro e v ⟨rfl, F', hd, hl⟩
    exact ⟨rfl, F', h.step hd hl⟩
  have KO : ∀ (st st' : St) (g : Nat) (x : ByteArray) (rs : List ByteArray), G8 st → stoOpen st 2 2 = ((0, g, x, cat rs, rs), st') →
      Hid (∀ q F u, Al8 w q st F u → Calls Tryz.prog 20 #[.pointer (some ⟨q, 0, none⟩), confV 2 2] u fun e v => ∃ pp a c A, e = .returned (.tuple #[.pointer (some ⟨pp, 0, none⟩), .agg #[.int .u64 (g : Int), .string x, .slice a rs.length c], .int .i64 0]) ∧ Sl8 PS w pp q 2 2 ⟨g, cat rs, false⟩ st' A v ∧ StrsAt v a rs) := fun st st' g x rs hg eo q F u h => by
    have := C.opens q st F 2 2 u h.disk hg.ok (by have := hg.few; omega) (by have := hg.long; omega) (by decide) (by decide)
    rw [eo] at this
    refine this.mono ?_
    rintro e v (⟨_, pp, a, c, A, rfl, hd, hl, hs, _⟩ | ⟨h0, _⟩)
    · exact ⟨pp, a, c, A, rfl, h.opened hd hl, hs⟩
    · exact absurd rfl h0
  have KOk : ∀ (st st' : St) (g : Nat) (x : ByteArray) (rs : List ByteArray), G8 st → stoOpen st 2 2 = ((0, g, x, cat rs, rs), st') →
      Hid (∀ q F B u, Ak w q st F B u → Calls Tryz.prog 20 #[.pointer (some ⟨q, 0, none⟩), confV 2 2] u fun e v => ∃ pp a c A, e = .returned (.tuple #[.pointer (some ⟨pp, 0, none⟩), .agg #[.int .u64 (g : Int), .string x, .slice a rs.length c], .int .i64 0]) ∧ Sk PS w pp q ⟨g, cat rs, false⟩ st' A B v ∧ StrsAt v a rs ∧ ∀ b off, a = some ⟨b, off, none⟩ → B < b) := fun st st' g x rs hg eo q F B u h => by
    have := C.opens q st F 2 2 u h.al.disk hg.ok (by have := hg.few; omega) (by have := hg.long; omega) (by decide) (by decide)
    rw [eo] at this
    refine this.mono ?_
    rintro e v (⟨_, pp, a, c, A, rfl, hd, hl, hs, hn⟩ | ⟨h0, _⟩)
    · exact ⟨pp, a, c, A, rfl, h.opened hd hl, hs, fun b off e => Nat.lt_of_lt_of_le h.bx.lt (hn b off e)⟩
    · exact absurd rfl h0
  have KO1 : Hid (∀ q F u, Al8 w q st1 F u → Calls Tryz.prog 20 #[.pointer (some ⟨q, 0, none⟩), confV 2 2] u fun e v => ∃ pp a c A, e = .returned (.tuple #[.pointer (some ⟨pp, 0, none⟩), .agg #[.int .u64 1, .string ⟨#[]⟩, .slice a 0 c], .int .i64 0]) ∧ Sl8 PS w pp q 2 2 ⟨1, cat [], false⟩ st2 A v ∧ StrsAt v a []) := KO st1 st2 1 noText [] H.g1 H.o1
  have KO2 : Hid (∀ q F B u, Ak w q (st5.crash []) F B u → Calls Tryz.prog 20 #[.pointer (some ⟨q, 0, none⟩), confV 2 2] u fun e v => ∃ pp a c A, e = .returned (.tuple #[.pointer (some ⟨pp, 0, none⟩), .agg #[.int .u64 1, .string ⟨#[]⟩, .slice a 1 c], .int .i64 0]) ∧ Sk PS w pp q ⟨1, cat [aT], false⟩ st6 A B v ∧ StrsAt v a [aT] ∧ ∀ b off, a = some ⟨b, off, none⟩ → B < b) := KOk (st5.crash []) st6 1 noText [aT] H.c5 H.o2
  have KO3 : Hid (∀ q F B u, Ak w q (st9.crash []) F B u → Calls Tryz.prog 20 #[.pointer (some ⟨q, 0, none⟩), confV 2 2] u fun e v => ∃ pp a c A, e = .returned (.tuple #[.pointer (some ⟨pp, 0, none⟩), .agg #[.int .u64 2, .string ⟨#[120, 121]⟩, .slice a 1 c], .int .i64 0]) ∧ Sk PS w pp q ⟨2, cat [cT8], false⟩ st10 A B v ∧ StrsAt v a [cT8] ∧ ∀ b off, a = some ⟨b, off, none⟩ → B < b) := KOk (st9.crash []) st10 2 xyT [cT8] H.c9 H.o3
  have KA : ∀ (st st' : St) (s s' : Sto) (t : ByteArray), G8 st → t.size ≤ 65536 → stoAppend st 2 2 s t = (0, s', st') →
      Hid (∀ pp q A B u, Sk PS w pp q s st A B u → Calls Tryz.prog 22 #[.pointer (some ⟨pp, 0, none⟩), .string t] u fun e v => e = .returned (.int .i64 0) ∧ ∃ A', Sk PS w pp q s' st' A' B v) := fun st st' s s' t hh ht ea pp q A B u h => by
    have := C.append pp q 2 2 s t st A u h.sl.sto hh.ok (by have := hh.few; omega) (by rw [hh.long]; exact conf82) (by decide) ht
    rw [ea] at this
    refine this.mono ?_
    rintro e v ⟨rfl, A', hd, hl⟩
    exact ⟨rfl, A', h.step hd hl⟩
  have KY : ∀ (st st' : St) (s s' : Sto), G8 st → stoSync st s = (0, s', st') →
      Hid (∀ pp q A B u, Sk PS w pp q s st A B u → Calls Tryz.prog 23 #[.pointer (some ⟨pp, 0, none⟩)] u fun e v => e = .returned (.int .i64 0) ∧ ∃ A', Sk PS w pp q s' st' A' B v) := fun st st' s s' hh ea pp q A B u h => by
    have := C.sync pp q 2 2 s st A u h.sl.sto hh.ok (by have := hh.few; omega)
    rw [ea] at this
    refine this.mono ?_
    rintro e v ⟨rfl, A', hd, hl⟩
    exact ⟨rfl, A', h.step hd hl⟩
  have KT : ∀ (st st' : St) (s s' : Sto) (t : ByteArray), G8 st → t.size ≤ 65536 → s.gen < 18446744073709551616 → stoTrim st 2 2 s t = (0, s', st') →
      Hid (∀ pp q A B u, Sk PS w pp q s st A B u → Calls Tryz.prog 24 #[.pointer (some ⟨pp, 0, none⟩), .string t] u fun e v => e = .returned (.int .i64 0) ∧ ∃ A', Sk PS w pp q s' st' A' B v) := fun st st' s s' t hh ht hg ea pp q A B u h => by
    have := C.trim pp q 2 2 s t st A u h.sl.sto hh.ok (by have := hh.few; omega) (by rw [hh.long]; exact conf82) (by decide) ht hg
    rw [ea] at this
    refine this.mono ?_
    rintro e v ⟨rfl, A', hd, hl⟩
    exact ⟨rfl, A', h.step hd hl⟩
  have KC : ∀ (st : St), G8 st →
      Hid (∀ q F B u, Ak w q st F B u → Calls Tryz.prog 26 #[.pointer (some ⟨q, 0, none⟩), .slice none 0 0] u fun e v => e = .returned (.int .i64 0) ∧ ∃ F', Ak w q (st.crash []) F' B v) := fun st hh q F B u h => by
    refine (con.crash q st F none 0 [] u h.al.disk hh.ok (by have := hh.few; omega) (Or.inl rfl) (fun h => absurd rfl h) (by decide) (by simp)).mono ?_
    rintro e v ⟨rfl, F', hd, hl⟩
    exact ⟨rfl, F', h.step hd hl⟩
  have KA1 : Hid (∀ pp q A B u, Sk PS w pp q ⟨1, cat [], false⟩ st2 A B u → Calls Tryz.prog 22 #[.pointer (some ⟨pp, 0, none⟩), .string ⟨#[97]⟩] u fun e v => e = .returned (.int .i64 0) ∧ ∃ A', Sk PS w pp q ⟨1, cat [aT], false⟩ st3 A' B v) := KA st2 st3 _ _ aT H.g2 (by decide) H.a1
  have KY1 : Hid (∀ pp q A B u, Sk PS w pp q ⟨1, cat [aT], false⟩ st3 A B u → Calls Tryz.prog 23 #[.pointer (some ⟨pp, 0, none⟩)] u fun e v => e = .returned (.int .i64 0) ∧ ∃ A', Sk PS w pp q ⟨1, cat [aT], false⟩ st4 A' B v) := KY st3 st4 _ _ H.g3 H.y1
  have KA2 : Hid (∀ pp q A B u, Sk PS w pp q ⟨1, cat [aT], false⟩ st4 A B u → Calls Tryz.prog 22 #[.pointer (some ⟨pp, 0, none⟩), .string ⟨#[98]⟩] u fun e v => e = .returned (.int .i64 0) ∧ ∃ A', Sk PS w pp q ⟨1, cat [aT, bT8], false⟩ st5 A' B v) := KA st4 st5 _ _ bT8 H.g4 (by decide) H.a2
  have KC1 := KC st5 H.g5
  have KT1 : Hid (∀ pp q A B u, Sk PS w pp q ⟨1, cat [aT], false⟩ st6 A B u → Calls Tryz.prog 24 #[.pointer (some ⟨pp, 0, none⟩), .string ⟨#[120, 121]⟩] u fun e v => e = .returned (.int .i64 0) ∧ ∃ A', Sk PS w pp q ⟨2, cat [], false⟩ st7 A' B v) := KT st6 st7 _ _ xyT H.g6 (by decide) (by decide) H.t1
  have KA3 : Hid (∀ pp q A B u, Sk PS w pp q ⟨2, cat [], false⟩ st7 A B u → Calls Tryz.prog 22 #[.pointer (some ⟨pp, 0, none⟩), .string ⟨#[99]⟩] u fun e v => e = .returned (.int .i64 0) ∧ ∃ A', Sk PS w pp q ⟨2, cat [cT8], false⟩ st8 A' B v) := KA st7 st8 _ _ cT8 H.g7 (by decide) H.a3
  have KY2 : Hid (∀ pp q A B u, Sk PS w pp q ⟨2, cat [cT8], false⟩ st8 A B u → Calls Tryz.prog 23 #[.pointer (some ⟨pp, 0, none⟩)] u fun e v => e = .returned (.int .i64 0) ∧ ∃ A', Sk PS w pp q ⟨2, cat [cT8], false⟩ st9 A' B v) := KY st8 st9 _ _ H.g8 H.y2
  have KC2 := KC st9 H.g9
  clear KO KOk KA KY KT KC H
  go_enter Tryz.func9, Tryz.ntmps9
  go_wp2_with fail
  refine K1.out.mono ?_
  rintro e w1 ⟨q, F1, rfl, hd1, hF1, hb1⟩
  have A1 := hide (Al8.mk (st := St.new 8) hd1 hb1 hF1)
  clear hd1 hF1 hb1
  go_wp2_with fail
  refine (KS.out _ _ _ _ A1.out).mono ?_
  rintro e w2 ⟨rfl, hA2⟩
  have A2 := hide hA2
  clear hA2
  go_wp2_with fail
  refine (KB.out _ _ _ _ A2.out).mono ?_
  rintro e w3 ⟨rfl, hA3⟩
  have A3 := hide hA3
  clear hA3
  go_wp2_with fail
  refine (KS.out _ _ _ _ A3.out).mono ?_
  rintro e w4 ⟨rfl, hA4⟩
  have A4 := hide hA4
  clear hA4
  go_wp2_with fail
  refine (KM1.out _ _ _ A4.out).mono ?_
  rintro e w5 ⟨rfl, F5, hA5⟩
  have A5 := hide hA5
  clear hA5
  go_wp2_with fail
  refine (KS.out _ _ _ _ A5.out).mono ?_
  rintro e w6 ⟨rfl, hA6⟩
  have A6 := hide hA6
  clear hA6
  go_wp2_with fail
  refine (KM2.out _ _ _ A6.out).mono ?_
  rintro e w7 ⟨rfl, F7, hA7⟩
  have A7 := hide hA7
  clear hA7
  go_wp2_with fail
  refine (KS.out _ _ _ _ A7.out).mono ?_
  rintro e w8 ⟨rfl, hA8⟩
  have A8 := hide hA8
  clear hA8
  go_wp2_with fail
  refine (KO1.out _ _ _ A8.out).mono ?_
  rintro e w9 ⟨p1, a1, c1, G9, rfl, hA9, -⟩
  have A9 := hide (Sk.start C hA9 (.int .u64 1) (.string ⟨#[]⟩) (.slice a1 0 c1))
  clear hA9
  go_wp2_with fail
  refine (KA1.out _ _ _ _ _ A9.out).mono ?_
  rintro e w10 ⟨rfl, G10, hA10⟩
  have A10 := hide hA10
  clear hA10
  go_wp2_with fail
  refine (KY1.out _ _ _ _ _ A10.out).mono ?_
  rintro e w11 ⟨rfl, G11, hA11⟩
  have A11 := hide hA11
  clear hA11
  go_wp2_with fail
  refine (KA2.out _ _ _ _ _ A11.out).mono ?_
  rintro e w12 ⟨rfl, G12, hA12⟩
  have A12 := hide hA12
  clear hA12
  go_wp2_with fail
  obtain ⟨F13, hD13⟩ := A12.out.disk C
  refine (KC1.out _ _ _ _ hD13).mono ?_
  clear hD13
  rintro e w13 ⟨rfl, G13, hA13⟩
  have A13 := hide hA13
  clear hA13
  go_wp2_with fail
  refine (KS2.out _ _ _ _ _ A13.out).mono ?_
  rintro e w14 ⟨rfl, hA14⟩
  have A14 := hide hA14
  clear hA14
  go_wp2_with fail
  refine (KO2.out _ _ _ _ A14.out).mono ?_
  rintro e w15 ⟨p15, a15, c15, G15, rfl, hA15, hs15, hn15⟩
  have A15 := hide (fun x y z => hA15.set C x y z)
  obtain ⟨u15, u151, u152, ⟨k150, k151, k152⟩, f15⟩ := hA15.bx.cells
  have f150 := f15 0
  have f151 := f15 1
  have f152 := f15 2
  clear hA15 f15
  rcases hs15 with h0 | ⟨b15, o15, rfl, hc15⟩
  · exact absurd h0 (by simp)
  have x15 : w15.cell? ⟨b15, o15, none⟩ = some (.string ⟨#[97]⟩) := hc15 0 (by decide)
  have n15 : ¬ w9.heap.size = b15 := by have := hn15 _ _ rfl; omega
  have m15 : ¬ b15 = w9.heap.size := by have := hn15 _ _ rfl; omega
  clear hc15 hn15
  go_wp2_with fail
  refine (KT1.out _ _ _ _ _ (A15.out _ _ _)).mono ?_
  rintro e w16 ⟨rfl, G16, hA16⟩
  have A16 := hide hA16
  clear hA16
  go_wp2_with fail
  refine (KA3.out _ _ _ _ _ A16.out).mono ?_
  rintro e w17 ⟨rfl, G17, hA17⟩
  have A17 := hide hA17
  clear hA17
  go_wp2_with fail
  refine (KY2.out _ _ _ _ _ A17.out).mono ?_
  rintro e w18 ⟨rfl, G18, hA18⟩
  have A18 := hide hA18
  clear hA18
  go_wp2_with fail
  obtain ⟨F19, hD19⟩ := A18.out.disk C
  refine (KC2.out _ _ _ _ hD19).mono ?_
  clear hD19
  rintro e w19 ⟨rfl, G19, hA19⟩
  have A19 := hide hA19
  clear hA19
  go_wp2_with fail
  refine (KS2.out _ _ _ _ _ A19.out).mono ?_
  rintro e w20 ⟨rfl, hA20⟩
  have A20 := hide hA20
  clear hA20
  go_wp2_with fail
  refine (KO3.out _ _ _ _ A20.out).mono ?_
  rintro e w21 ⟨p21, a21, c21, G21, rfl, hA21, hs21, hn21⟩
  have A21 := hide (fun x y z => hA21.set C x y z)
  obtain ⟨u21, u211, u212, ⟨k210, k211, k212⟩, f21⟩ := hA21.bx.cells
  have f210 := f21 0
  have f211 := f21 1
  have f212 := f21 2
  clear hA21 f21
  rcases hs21 with h0 | ⟨b21, o21, rfl, hc21⟩
  · exact absurd h0 (by simp)
  have x21 : w21.cell? ⟨b21, o21, none⟩ = some (.string ⟨#[99]⟩) := hc21 0 (by decide)
  have n21 : ¬ w9.heap.size = b21 := by have := hn21 _ _ rfl; omega
  have m21 : ¬ b21 = w9.heap.size := by have := hn21 _ _ rfl; omega
  clear hc21 hn21
  go_wp2
  go_ret
  exact ⟨rfl, (A21.out _ _ _).sl.below⟩
end Go.Proofs.YtchhojkhfdkhfaaGreatDoor
namespace Go.Proofs.YtchhojkhfdkhfaaGreatDoor
open Go Go.RowKit Frm
theorem alive_any8 (w : World) : Calls Tryz.prog 9 #[] w fun e w' => e = .returned (.bool true) ∧ Below w.heap.size w w' := alive8_any con8 w
end Go.Proofs.YtchhojkhfdkhfaaGreatDoor
namespace Go.Proofs.YtchhojkhfdkhfaaGreatDoor
open Go Go.RowKit Frm Go.Shelf
/-- A list of texts that lies anywhere, or nowhere, goes behind an empty row: at a step of a region that draws. -/
theorem step_append_strs {ops : Array Oper} {o : Oper} {a : Act} {K : Act → World → Prop} {Q : Exit → Act → World → Prop} {E : Prop} (w : World) (hgd : o.guard = none) (s x : Operand)
    (ho : o.op = .call { callee := .builtin .append, args := #[s, x], argTypes := #[46, 46] })
    (base : Nat) (v : Value) (hs : a.eval s = v) (hown : w.ownsRow base 9 1 v 0 [])
    (ao : Option Addr) (c : Nat) (L : List ByteArray) (hx : a.eval x = .slice ao L.length c) (hI : StrsAt w ao L) (hn : ao = none → c = 0) (hl : L.length ≤ 10000) (hb : base ≤ w.heap.size)
    (h : ∀ v' w', OwnL w' base v' L → w.grownBy w' v.ownBlock → K (a.put o.dst v') w') : if Region.wanted o (yielded ops a.tmps) = true then Oper.wp Tryz.prog o a w K Q else E := by
  have hw : Region.wanted o (yielded ops a.tmps) = true := by simp [Region.wanted, hgd]
  rw [if_pos hw]
  obtain ⟨i0, hi, hz0, hz1, hz2⟩ := info_parts infoS
  by_cases h0 : L = []
  · subst h0
    cases ao with
    | none =>
      have hc := hn rfl
      subst hc
      have hrun := run_append_owned_none (P := Tryz.prog) (w := w) base 46 o.type 9 i0 1 Tryz.underlying46 hi v 0 [] hown
      have hx0 : a.eval x = .slice none 0 0 := hx
      unfold Oper.wp
      simp [execOp, ho, resolve, invoke, builtin, hs, hx0, hrun, Result.andThen]
      exact h v w hown (World.grownBy.refl _ _)
    | some ad =>
      refine wp_append_own w s x 46 ho base 9 i0 (.string ⟨#[]⟩) 1 16 Tryz.underlying46 hi hz0 hz1 hz2 rfl (by decide) v 0 [] hs hown ad 0 c [] hx rfl (fun j v hj => by cases hj) (fun v hv => by cases hv) (by decide) (by decide) hb ?_
      intro v' w' h1 h2 _
      exact h v' w' h1 h2
  · rcases hI with h1 | ⟨b, off, rfl, hc⟩
    · exact absurd h1 h0
    · refine wp_append_own w s x 46 ho base 9 i0 (.string ⟨#[]⟩) 1 16 Tryz.underlying46 hi hz0 hz1 hz2 rfl (by decide) v 0 [] hs hown ⟨b, off, none⟩ L.length c (L.map Value.string) hx (by simp) (news_strs hc) (one_strs _) (by unfold maxLen; omega) (by omega) hb ?_
      intro v' w' h1 h2 _
      rw [Nat.zero_add] at h1
      exact h v' w' h1 h2
/-- A crash, and Open: what was found, in one word. -/
theorem Sit.crashed {s : Sto} {st : St} {P : Past} {Q : Option Past} {k : Nat} (h : Sit s st P Q) (hg : 1 ≤ P.gen ∧ P.gen ≤ k + 1) (hk : k ≤ 50) (hP : P.all.length ≤ k) (picks : List Int) :
    ∃ g' t' L' st', stoOpen (st.crash picks) 4 6 = ((0, g', t', cat L', L'), st') ∧ Sit ⟨g', cat L', false⟩ st' ⟨g', t', L', L'.length⟩ none ∧ (1 ≤ g' ∧ g' ≤ k + 1 + 1) ∧ L'.length ≤ k + 1 ∧
      ((g' = P.gen ∧ t' = P.text ∧ P.sure ≤ L'.length ∧ (∃ r, L' = P.all.take r) ∧ L'.length ≤ P.all.length) ∨ (¬ ((g' : Int) = (P.gen : Int)) ∧ L' = [] ∧ qG Q = g' ∧ qT Q = t')) := by
  obtain ⟨P', r, st', hPQ, hr0, hrl, hop, hs⟩ := h.crash ⟨hg.1, by omega⟩ picks
  have hl : (P'.all.take r).length = r := by rw [List.length_take]; omega
  refine ⟨P'.gen, P'.text, P'.all.take r, st', hop, by rw [hl]; exact hs, ?_⟩
  rw [hl]
  rcases hPQ with rfl | ⟨rfl, t0, rfl⟩
  · exact ⟨⟨hg.1, by omega⟩, by omega, Or.inl ⟨rfl, rfl, hr0, ⟨r, rfl⟩, hrl⟩⟩
  · refine ⟨⟨by show 1 ≤ P.gen + 1; omega, by show P.gen + 1 ≤ _; omega⟩, ?_, Or.inr ⟨by show ¬ (((P.gen + 1 : Nat) : Int) = _); omega, List.take_nil, rfl, rfl⟩⟩
    have : r ≤ 0 := hrl
    omega
/-- The box of what was found. -/
structure KBx (B : Nat) (x0 x1 x2 : Value) (v : World) : Prop where
  row : v.heap[B]? = some (.cells #[x0, x1, x2] 61 (0, 0))
theorem KBx.all {B : Nat} {x0 x1 x2 : Value} {v : World} (h : KBx B x0 x1 x2 v) : v.cell? ⟨B, 0, none⟩ = some x0 ∧ v.cell? ⟨B, 1, none⟩ = some x1 ∧ v.cell? ⟨B, 2, none⟩ = some x2 := (row_cells3 h.row).1
theorem KBx.below {B : Nat} {x0 x1 x2 : Value} {u v : World} (h : KBx B x0 x1 x2 u) (hb : Below u.heap.size u v) : KBx B x0 x1 x2 v := ⟨(hb.block _ (Array.getElem?_eq_some_iff.1 h.row).1).trans h.row⟩
theorem KBx.set {B B' : Nat} {x0 x1 x2 : Value} {u : World} (h : KBx B x0 x1 x2 u) (hB : B ≠ B') (i : Nat) (x : Value) : KBx B x0 x1 x2 (u.setCell ⟨B', i, none⟩ x) := ⟨(Below.heap_setCell u ⟨B', i, none⟩ x B hB).trans h.row⟩
theorem t_wrap {t : Nat} (h : t < 256) : wrap64 (t : Int) = (t : Int) := by unfold wrap64; omega
theorem t_iwrap {t : Nat} (h : t < 256) : IntKind.i64.wrap (t : Int) = (t : Int) := by rw [IntKind.wrap_i64]; omega
theorem mod5 (a k : Nat) (h : a % 5 = k) : Int.tmod (a : Int) 5 = (k : Int) := by rw [Int.tmod_eq_emod_of_nonneg (by omega)]; omega
/-- The new disk, its store. -/
theorem keeps_start : ∃ st1 st2, stoMake (St.new 20) 4 6 = (0, st1) ∧ (st1.Ok ∧ st1.loose.length ≤ 10 ∧ st1.sure.length = 20) ∧ stoOpen st1 4 6 = ((0, 1, noText, cat [], []), st2) ∧ Sit ⟨1, cat [], false⟩ st2 ⟨1, noText, [], 0⟩ none ∧ st2.loose.length ≤ 60 := by
  obtain ⟨st1, e1, h1, l1, f1⟩ := make_new conf46
  obtain ⟨st2, e2, h2, f2⟩ := h1.open_bare conf46 l1 f1 rfl (by decide)
  refine ⟨st1, st2, e1, ⟨h1.ok, by rw [l1]; decide, h1.long⟩, e2, Or.inl ⟨h2, rfl, rfl⟩, ?_⟩
  have e3 : stoOpen st1 4 6 = ((0, 1, noText, cat [], []), st2) := e2
  have := stoOpen_few st1 4 6
  rw [e3, l1] at this
  exact Nat.le_trans this (by decide)
set_option maxRecDepth 10000 in
set_option maxHeartbeats 8000000 in
theorem StoreKeeps_any (a : Option Addr) (c : Nat) (l : List Stp) (w : World) (h : StepsAt w a l) (hok : ∀ x ∈ l, x.Ok) (hl : l.length ≤ 140737488351232) :
    Calls Tryz.prog 4 #[.slice a l.length c] w fun e w' => e = .returned (.bool true) ∧ Below w.heap.size w w' := by
  have KA := hide alive_any8
  have HSt := hide h
  have HOk := hide hok
  have KH := hide (heavy_any a c l w h hok hl)
  obtain ⟨st1, st2, m1, g1, m2, hsit, hfew⟩ := keeps_start
  have HSit := hide hsit
  have HFew := hide hfew
  clear h hok hsit hfew
  go_enter Tryz.func4, Tryz.ntmps4
  go_wp2_with fail
  refine KH.out.mono ?_
  rintro e w1 ⟨r, rfl, ⟨n1, hw1⟩, hr⟩
  have HB1 : Hid (Below w.heap.size w w1) := by rw [hw1]; exact below_drewN (Below.refl _ _) n1
  clear hw1
  cases r with
  | true =>
    clear hr
    go_wp2_with fail
    refine (KA.out _).mono ?_
    rintro e w2 ⟨rfl, hb2⟩
    have HB2 := hide (bnext HB1.out hb2)
    clear hb2
    go_wp2
    go_ret
    exact ⟨rfl, HB2.out⟩
  | false =>
    obtain ⟨hl50, hsm⟩ := hr rfl
    have HSm := hide hsm
    have HL50 := hide hl50
    clear hr hsm hl50
    have hbc := hide (one_below w1 (.cells #[.int .i64 4, .int .i64 6] 23))
    have HCf : Hid (∀ u, Below (w1.alloc (.cells #[.int .i64 4, .int .i64 6] 23)).heap.size (w1.alloc (.cells #[.int .i64 4, .int .i64 6] 23)) u → u.heap[w1.heap.size]? = some (.cells #[.int .i64 4, .int .i64 6] 23 (0, 0))) := fun u hb => (hb.block _ (by simp)).trans (heap_alloc_last w1 _)
    have K1 := hide (con.new 20 (w1.alloc (.cells #[.int .i64 4, .int .i64 6] 23)) (by decide) (by decide))
    have hszc : (w1.alloc (.cells #[.int .i64 4, .int .i64 6] 23)).heap.size = w1.heap.size + 1 := by simp
    have KM1 : Hid (∀ q F u, Al8 (w1.alloc (.cells #[.int .i64 4, .int .i64 6] 23)) q (St.new 20) F u → Calls Tryz.prog 19 #[.pointer (some ⟨q, 0, none⟩), confV 4 6] u fun e v => e = .returned (.int .i64 0) ∧ ∃ F', Al8 (w1.alloc (.cells #[.int .i64 4, .int .i64 6] 23)) q st1 F' v) := fun q F u h => by
      have := con8.make q (St.new 20) F 4 6 u h.disk (St.Ok.new (by decide) (by decide)) (by decide) (by decide) (by decide) (by decide)
      rw [m1] at this
      refine this.mono ?_
      rintro e v ⟨rfl, F', hd, hl⟩
      exact ⟨rfl, F', h.step hd hl⟩
    have KO1 : Hid (∀ q F u, Al8 (w1.alloc (.cells #[.int .i64 4, .int .i64 6] 23)) q st1 F u → Calls Tryz.prog 20 #[.pointer (some ⟨q, 0, none⟩), confV 4 6] u fun e v => ∃ pp a c A, e = .returned (.tuple #[.pointer (some ⟨pp, 0, none⟩), .agg #[.int .u64 1, .string ⟨#[]⟩, .slice a 0 c], .int .i64 0]) ∧ Sl8 PSt (w1.alloc (.cells #[.int .i64 4, .int .i64 6] 23)) pp q 4 6 ⟨1, cat [], false⟩ st2 A v) := fun q F u h => by
      have := con8.opens q st1 F 4 6 u h.disk g1.1 (by have := g1.2.1; omega) (by have := g1.2.2; omega) (by decide) (by decide)
      rw [m2] at this
      refine this.mono ?_
      rintro e v (⟨_, pp, a, c, A, rfl, hd, hl, _⟩ | ⟨h0, _⟩)
      · exact ⟨pp, a, c, A, rfl, h.opened hd hl⟩
      · exact absurd rfl h0
    unfold confV at KM1 KO1
    clear m1 g1 m2
    go_wp2_with fail
    refine K1.out.mono ?_
    rintro e w2 ⟨q, F1, rfl, hd1, hF1, hb1⟩
    have A1 := hide (Al8.mk (st := St.new 20) hd1 hb1 hF1)
    have e2 := HCf.out _ hb1
    obtain ⟨c0, c1, -, -⟩ := row_cells2 e2
    clear hd1 hF1 hb1 e2
    go_wp2_with fail
    refine (KM1.out _ _ _ A1.out).mono ?_
    rintro e w3 ⟨rfl, F3, hA3⟩
    have A3 := hide hA3
    have e3 := HCf.out _ hA3.below
    obtain ⟨c0', c1', -, -⟩ := row_cells2 e3
    clear hA3 c0 c1 e3
    go_wp2_with fail
    refine (KO1.out _ _ _ A3.out).mono ?_
    rintro e w4 ⟨p0, a4, c4, A4, rfl, hS4⟩
    have S4 := hide hS4
    have HKR := hide (KR.start (a4 := a4) (c4 := c4) HB1.out rfl S4.out HSit.out HFew.out)
    obtain ⟨i0, hi, hz0, hz1, hzb⟩ := info_parts (P := Tryz.prog) (e := 9) (z := .string ⟨#[]⟩) (size := 1) (bytes := 16) (by kernel_rfl)
    have HI := hide (And.intro hi (And.intro hz0 (And.intro hz1 hzb)))
    clear hi hz0 hz1 hzb
    clear hS4 c0' c1' A1 A3 K1 KM1 KO1 KH hbc HCf hszc S4 HSit HFew
    go_wp2_with fail
    generalize w4.heap.size + 1 + 1 = Bn at *
    generalize w4.heap.size + 1 = Bp at *
    generalize w1.heap.size = Bc at *
    go_loopw [6, 11, 12, 13, 14, 15, 16, 17] (fun sv i _ _ _ _ _ _ u => ∃ k p : Nat, k ≤ l.length ∧ i = .int .i64 (k : Int) ∧ sv = .pointer (some ⟨p, 0, none⟩) ∧ KR w Bc Bp Bn q k p u) (fun _ i _ _ _ _ _ _ _ => l.length - (intOf i).toNat)
    case atStart => exact ⟨0, p0, Nat.zero_le _, rfl, rfl, HKR.out⟩
    case round =>
      clear HKR
      obtain ⟨k, p, hk, rfl, rfl, hkr⟩ := hrel
      by_cases hlt : k < l.length
      · obtain ⟨b, off, rfl, hc⟩ : ∃ b off, a = some ⟨b, off, none⟩ ∧ ∀ j (hj : j < l.length), StepAt w b (off + j * 5) l[j] := by
          rcases HSt.out with h0 | h1
          · rw [h0] at hlt; exact absurd hlt (by simp)
          · exact h1
        have HCk := hide (fun v (hb : Below w.heap.size w v) => (hc k hlt).old hb)
        have hxo := HOk.out _ (List.getElem_mem hlt)
        have hsm := HSm.out _ (List.getElem_mem hlt)
        clear hc
        generalize l[k] = x at *
        have hz : (k : Int) < (l.length : Int) := by omega
        have HW1 : Hid (IntKind.i64.wrap ((k : Int) + 1) = (k : Int) + 1) := by show _ = _; rw [IntKind.wrap_i64]; omega
        have hk50 := HL50.out
        have HK50 : Hid (k ≤ 50) := by show k ≤ 50; omega
        obtain ⟨s, st, A, P, Q, vA, hkm, hsit, hpg, hpl, hfew⟩ := hkr
        obtain ⟨aa, ca, rfl, -⟩ := hkm.own.strs
        have HOkS := hide hsit.ok
        have HSi := hide hsit
        have HPg := hide hpg
        have HPl := hide hpl
        have HFw := hide hfew
        have HFw5 : Hid (st.loose.length ≤ 5000) := by show _ ≤ _; omega
        have HK := hide hkm
        have KT := hide (fun u => text_any x u hxo (by omega))
        have HSz : Hid (x.says.size ≤ 8192) := by have := says_size x; show _ ≤ _; omega
        obtain ⟨e0, e1, e2, e3, e4, -⟩ := HCk.out wr hkm.below
        have HXo := hide hxo
        have h5 : x.act % 5 = 0 ∨ x.act % 5 = 1 ∨ x.act % 5 = 2 ∨ x.act % 5 = 3 ∨ x.act % 5 = 4 := by omega
        have HSm1 := hide hsm
        have HAct := hide hxo.act
        unfold Stp.val at KT
        clear hkm hsit hpg hpl hfew hxo hsm hk50
        generalize x.says = t at *
        go_wp2_with fail
        refine (KT.out _).mono ?_
        rintro e u1 ⟨rfl, hb1⟩
        have HK1 := hide (HK.out.keep hb1)
        obtain ⟨f0, f1, f2, f3, f4, -⟩ := HCk.out u1 HK1.out.below
        clear hb1 HK e0 e1 e2 e3 e4
        rcases h5 with h5 | h5 | h5 | h5 | h5
        · have hm := mod5 x.act 0 h5
          have K2 := hide (HK1.out.appended HOkS.out.1 HOkS.out.2 HFw5.out t (by have := HSz.out; omega))
          have hsp := HSi.out.append t
          have hfw2 := stoAppend_few st 4 6 s t
          generalize stoAppend st 4 6 s t = R at *
          obtain ⟨rc, s2, st2⟩ := R
          dsimp only at hsp hfw2
          have HFw2 : Hid (st2.loose.length ≤ 60 * (k + 1 + 1)) := by have := HFw.out; show _ ≤ _; omega
          clear hfw2 f1 f2 f3 f4
          rcases hsp with ⟨hrc, hs2⟩ | ⟨hrc, hs2⟩
          · have z0 : ((rc : Int) == 0) = false := beq_eq_false_iff_ne.2 (by omega)
            have z50 : ((rc : Int) == 50) = false := beq_eq_false_iff_ne.2 (by omega)
            have HS2 := hide hs2
            clear hrc hs2
            go_wp2_with fail
            refine K2.out.mono ?_
            rintro e u2 ⟨rfl, A2, hk2⟩
            have HK2 := hide hk2
            clear hk2 K2 f0
            have hw1 := HW1.out
            go_wp2
            go_roundw
            case rel => exact ⟨k + 1, p, hlt, by go_num, rfl, s2, st2, A2, P, Q, _, HK2.out, HS2.out, ⟨HPg.out.1, by have := HPg.out.2; omega⟩, Nat.le_succ_of_le HPl.out, HFw2.out⟩
            case measure => simp [intOf]; omega
          · have HS2 := hide hs2
            clear hs2
            rcases hrc with rfl | rfl
            all_goals
              go_wp2_with fail
              refine K2.out.mono ?_
              rintro e u2 ⟨rfl, A2, hk2⟩
              obtain ⟨⟨c0, c1, c2, c3⟩, cf⟩ := hk2.pc
              have HK2 := hide hk2
              clear hk2 K2 f0 cf
              go_wp2_with (at_builtin; refine wpList_append_lies _ rfl _ _ 46 rfl w.heap.size 9 i0 (.string ⟨#[]⟩) 1 16 Tryz.underlying46 HI.out.1 HI.out.2.1 HI.out.2.2.1 HI.out.2.2.2 rfl (by decide) _ _ _ rfl (World.ownsRow.alloc HK2.out.own _) ⟨u2.heap.size, 0, none⟩ 1 1 [.string t] rfl rfl ?c1 ?c2 (by decide) ?c3 ?c4 ?c5 (u2.heap.size + 1) (by simp) ?_)
              case c1 =>
                intro j u hj
                match j, hj with
                | 0, hj => simp at hj; subst hj; simp [Addr.add, go_sem]
              case c2 => first | rfl | (intro u hu; simp at hu; subst hu; rfl)
              case c3 => have := HPl.out; have := HK50.out; unfold maxLen; omega
              case c4 => have := HPl.out; have := HK50.out; omega
              case c5 => have := HK2.out.below.size; simp; omega
              intro gg cap u4 hown4 hgrow4 hat4 _
              obtain ⟨⟨d0, d1, d2, d3, d4⟩, hk4⟩ := HK2.out.grown hown4 hgrow4 hat4
              have HK4 := hide hk4
              have hll : (P.all ++ [t]).length = P.all.length + 1 := by simp
              have HLen : Hid ((P.all ++ [t]).length ≤ k + 1) := by have := HPl.out; show _ ≤ _; omega
              clear hown4 hgrow4 hat4 hk4 HK2 c0 c1 c2 c3 d0 d1 d3 hll
              have hw1 := HW1.out
              go_wp2
              go_roundw
              case rel => exact ⟨k + 1, p, hlt, by go_num, rfl, s2, st2, A2, ⟨P.gen, P.text, P.all ++ [t], P.sure⟩, Q, _, HK4.out, HS2.out, ⟨HPg.out.1, Nat.le_succ_of_le HPg.out.2⟩, HLen.out, HFw2.out⟩
              case measure => simp [intOf]; omega
        · have hm := mod5 x.act 1 h5
          have K2 := hide (HK1.out.synced HOkS.out.1 HFw5.out)
          have hsp := HSi.out.sync
          have hfw2 := stoSync_few st s
          generalize stoSync st s = R at *
          obtain ⟨rc, s2, st2⟩ := R
          dsimp only at hsp hfw2
          have HFw2 : Hid (st2.loose.length ≤ 60 * (k + 1 + 1)) := by have := HFw.out; show _ ≤ _; omega
          clear hfw2 f1 f2 f3 f4
          rcases hsp with ⟨hrc, hs2⟩ | ⟨hrc, hs2⟩
          · obtain rfl : rc = 0 := hrc
            have HS2 := hide hs2
            clear hs2
            go_wp2_with fail
            refine K2.out.mono ?_
            rintro e u2 ⟨rfl, A2, hk2⟩
            obtain ⟨⟨c0, c1, c2, c3⟩, cf⟩ := hk2.pc
            have hfz := cf 3
            have HK2 := hide (hk2.setp 3 (.int .i64 (P.all.length : Int)) (g' := P.gen) (t' := P.text) (sr' := P.all.length) rfl)
            clear hk2 K2 f0 cf
            have hw1 := HW1.out
            go_wp2
            go_roundw
            case rel => exact ⟨k + 1, p, hlt, by go_num, rfl, s2, st2, A2, ⟨P.gen, P.text, P.all, P.all.length⟩, Q, _, HK2.out, HS2.out, ⟨HPg.out.1, Nat.le_succ_of_le HPg.out.2⟩, Nat.le_succ_of_le HPl.out, HFw2.out⟩
            case measure => simp [intOf]; omega
          · have z0 : ((rc : Int) == 0) = false := beq_eq_false_iff_ne.2 (by omega)
            have HS2 := hide hs2
            clear hrc hs2
            go_wp2_with fail
            refine K2.out.mono ?_
            rintro e u2 ⟨rfl, A2, hk2⟩
            have HK2 := hide hk2
            clear hk2 K2 f0
            have hw1 := HW1.out
            go_wp2
            go_roundw
            case rel => exact ⟨k + 1, p, hlt, by go_num, rfl, s2, st2, A2, P, Q, _, HK2.out, HS2.out, ⟨HPg.out.1, by have := HPg.out.2; omega⟩, Nat.le_succ_of_le HPl.out, HFw2.out⟩
            case measure => simp [intOf]; omega
        · have hm := mod5 x.act 2 h5
          have K2 := hide (HK1.out.trimmed HOkS.out.1 HOkS.out.2 HFw5.out t (by have := HSz.out; omega))
          have hsp := HSi.out.trim ⟨HPg.out.1, by have := HPg.out.2; have := HK50.out; omega⟩ t
          have hfw2 := stoTrim_few st 4 6 s t
          generalize stoTrim st 4 6 s t = R at *
          obtain ⟨rc, s2, st2⟩ := R
          dsimp only at hsp hfw2
          have HFw2 : Hid (st2.loose.length ≤ 60 * (k + 1 + 1)) := by
            have := HFw.out
            have h2 : nb t.size ≤ 32 := by have := HSz.out; unfold nb; omega
            show _ ≤ _; omega
          have HG1 : Hid (IntKind.u64.wrap ((P.gen : Int) + 1) = ((P.gen + 1 : Nat) : Int)) := by
            have := HPg.out.2; have := HK50.out
            show _ = _; rw [IntKind.wrap_u64]; omega
          have HGe : Hid (1 ≤ P.gen + 1 ∧ P.gen + 1 ≤ k + 1 + 1) := by have := HPg.out; show _ ∧ _; omega
          clear hfw2 f1 f2 f3 f4
          rcases hsp with ⟨hrc, hs2⟩ | ⟨hrc, hs2⟩ | ⟨hrc, hs2⟩
          · obtain rfl : rc = 0 := hrc
            have HS2 := hide hs2
            clear hs2
            generalize P.gen + 1 = G1 at *
            go_wp2_with fail
            refine K2.out.mono ?_
            rintro e u2 ⟨rfl, A2, hk2⟩
            obtain ⟨⟨c0, c1, c2, c3⟩, cf⟩ := hk2.pc
            have cf0 := cf 0
            have cf1 := cf 1
            have cf2 := cf 2
            have cf3 := cf 3
            have HK2 := hide ((((hk2.setp 0 (.int .u64 (G1 : Int)) (g' := G1) (t' := P.text) (sr' := P.sure) rfl).setp 1 (.string t) (g' := G1) (t' := t) (sr' := P.sure) rfl).setl (vB := .slice none 0 0) (L2 := []) (World.ownsRow_nil _ _ _ _) (fun j hj => absurd hj (OB_nil j))).setp 3 (.int .i64 0) (g' := G1) (t' := t) (sr' := 0) rfl)
            clear hk2 K2 f0 cf
            have hw1 := HW1.out
            have hg1 := HG1.out
            go_wp2
            go_roundw
            case rel => exact ⟨k + 1, p, hlt, by go_num, rfl, s2, st2, A2, ⟨G1, t, [], 0⟩, Q, _, HK2.out, HS2.out, HGe.out, Nat.zero_le _, HFw2.out⟩
            case measure => simp [intOf]; omega
          · obtain rfl : rc = 50 := hrc
            have HS2 := hide hs2
            clear hs2
            generalize P.gen + 1 = G1 at *
            go_wp2_with fail
            refine K2.out.mono ?_
            rintro e u2 ⟨rfl, A2, hk2⟩
            obtain ⟨⟨c0, c1, c2, c3⟩, -⟩ := hk2.pc
            obtain ⟨⟨n0, n1, n2, n3⟩, nf⟩ := hk2.nc
            have nf0 := nf 0
            have nf1 := nf 1
            have nf2 := nf 2
            have nf3 := nf 3
            have HK2 := hide ((((hk2.setn 0 (.int .u64 (G1 : Int)) (qg' := G1) (qt' := qT Q) rfl).setn 1 (.string t) (qg' := G1) (qt' := t) rfl).setn 2 (.slice none 0 0) (qg' := G1) (qt' := t) rfl).setn 3 (.int .i64 0) (qg' := G1) (qt' := t) rfl)
            clear hk2 K2 f0 nf
            have hw1 := HW1.out
            have hg1 := HG1.out
            go_wp2
            go_roundw
            case rel => exact ⟨k + 1, p, hlt, by go_num, rfl, s2, st2, A2, P, some ⟨G1, t, [], 0⟩, _, HK2.out, HS2.out, ⟨HPg.out.1, by have := HPg.out.2; omega⟩, Nat.le_succ_of_le HPl.out, HFw2.out⟩
            case measure => simp [intOf]; omega
          · have z0 : ((rc : Int) == 0) = false := beq_eq_false_iff_ne.2 (by omega)
            have z50 : ((rc : Int) == 50) = false := beq_eq_false_iff_ne.2 (by omega)
            have HS2 := hide hs2
            clear hrc hs2
            go_wp2_with fail
            refine K2.out.mono ?_
            rintro e u2 ⟨rfl, A2, hk2⟩
            have HK2 := hide hk2
            clear hk2 K2 f0
            have hw1 := HW1.out
            go_wp2
            go_roundw
            case rel => exact ⟨k + 1, p, hlt, by go_num, rfl, s2, st2, A2, P, Q, _, HK2.out, HS2.out, ⟨HPg.out.1, by have := HPg.out.2; omega⟩, Nat.le_succ_of_le HPl.out, HFw2.out⟩
            case measure => simp [intOf]; omega
        · have hm := mod5 x.act 3 h5
          obtain ⟨g', t', L', st', hop, hs', HG', HL', hfd⟩ := HSi.out.crashed HPg.out HK50.out HPl.out x.picks
          have HSi' := hide hs'
          have HFd := hide hfd
          have HGk := hide HG'
          have HLk := hide HL'
          have HFw2 : Hid (st'.loose.length ≤ 60 * (k + 1 + 1)) := by
            have h1 := stoOpen_few (st.crash x.picks) 4 6
            rw [hop, crash_few] at h1
            have h2 : st'.loose.length ≤ 0 + 6 + 6 := h1
            show _ ≤ _; omega
          have e4a := ((HCk.out u1 HK1.out.below).old ((Below.refl _ u1).alloc (Nat.le_refl _) (.cells #[] 3))).2.2.2.2.1
          have HI3 := hide ((HCk.out u1 HK1.out.below).2.2.2.2.2.old ((Below.refl _ u1).alloc (Nat.le_refl _) (.cells #[] 3)))
          have HBw : Hid (u1.heap.size ≤ (u1.alloc (.cells #[] 3)).heap.size) := by unfold Hid; simp
          have HR3 := hide (World.ownsRow_lit (base := u1.heap.size) (e := 3) (size := 1) u1 #[] 0 (Nat.le_refl _) (by decide) rfl)
          have HLp : Hid (x.picks.length ≤ 10000) := by have := HSm1.out; show _ ≤ _; omega
          have HOp := hide hop
          clear f1 f2 f3 f4 hs' hfd HG' HL' hop
          go_wp2_with (at_builtin; refine wpList_append_ints _ rfl _ _ rfl u1.heap.size _ rfl HR3.out x.pa x.pc x.picks rfl HI3.out HXo.out.nil HLp.out HBw.out ?_)
          intro v5 u2 hown5 hgrow5
          obtain ⟨a5, c5, rfl, hi5, hg5⟩ := ints_of_own (by rw [show x.picks.length = x.picks.length from rfl]; exact hown5)
          have hb5 : Below u1.heap.size u1 u2 := ((Below.refl _ _).alloc (Nat.le_refl _) (.cells #[] 3)).grown hgrow5 (by simp) (fun j e => by cases e; exact Nat.le_refl _)
          have HK2 := hide (HK1.out.keep hb5)
          have KC := hide (HK2.out.crashed HOkS.out.1 HFw5.out a5 c5 x.picks hi5 (fun b off e => (HK1.out.newer (hg5 b off e)).1) (by have := HLp.out; omega) HXo.out.picks)
          clear hown5 hgrow5 hi5 hg5 hb5 HR3 HI3 HBw f0 e4a HK1
          go_wp2_with fail
          refine KC.out.mono ?_
          rintro e u3 ⟨rfl, A3, hk3⟩
          have HK3 := hide hk3
          have KO := hide (hk3.opened (HOkS.out.1.crash x.picks) (by show (_ : Nat) = 20; exact (crashed_length ..).trans HOkS.out.2) (by rw [crash_few]; decide) HOp.out)
          obtain ⟨cc0, cc1⟩ := hk3.cc
          unfold confV at KO
          clear hk3 KC HOp HK2
          go_wp2_with fail
          refine KO.out.mono ?_
          rintro e u4 ⟨pp, a7, c7, A4, rfl, hk4, hs4, -, hc4⟩
          have HC4 := hide hc4
          have hbk := one_below u4 (.cells #[.int .u64 (g' : Int), .string t', .slice a7 L'.length c7] 61)
          have HK5 := hide (hk4.keep hbk)
          have HS5 := hide (hs4.below hbk)
          have HKb : Hid (KBx u4.heap.size (.int .u64 (g' : Int)) (.string t') (.slice a7 L'.length c7) (u4.alloc (.cells #[.int .u64 (g' : Int), .string t', .slice a7 L'.length c7] 61))) := ⟨heap_alloc_last u4 _⟩
          have HBd : Hid (u4.heap.size ≠ Bc ∧ u4.heap.size ≠ Bp ∧ u4.heap.size ≠ Bn) := (hk4.newer (Nat.le_refl _)).2
          obtain ⟨aa', ca', eaa, hsa⟩ := HK5.out.own.strs
          cases eaa
          have HSa := hide hsa
          have HCap := hide (own_cap HK5.out.own).1
          obtain ⟨p0', p1', p2', p3'⟩ := HK5.out.pc.1
          obtain ⟨n0', n1', n2', n3'⟩ := HK5.out.nc.1
          clear hbk hk4 hs4 hc4 hsa KO cc0 cc1 HK3
          rcases HFd.out with ⟨rfl, rfl, q1, q2, q3⟩ | ⟨q1, q2, q3, q4⟩
          · clear n0' n1' n2' n3'
            have KF := hide (fun v (hb : Below _ (u4.alloc (.cells #[.int .u64 (P.gen : Int), .string P.text, .slice a7 L'.length c7] 61)) v) => found_yes (P.gen : Int) P.text aa a7 P.all.length ca L'.length c7 P.sure L' v rfl q3 q1 HCap.out (by have := HPl.out; have := HK50.out; omega) (by obtain ⟨r, rfl⟩ := q2; exact strs_take (HSa.out.below hb) r) (HS5.out.below hb))
            clear q1 q2 q3 HFd
            unfold pastV keptV at KF
            go_wp2_with fail
            refine (KF.out _ (Below.refl _ _)).mono ?_
            rintro e u5 ⟨rfl, hb5⟩
            have HK6 := hide (HK5.out.keep hb5)
            have HS6 := hide (HS5.out.below hb5)
            have hkc := HKb.out.below hb5
            have HCk2 : Hid (∀ v, Below u5.heap.size u5 v → KBx u4.heap.size (.int .u64 (P.gen : Int)) (.string P.text) (.slice a7 L'.length c7) v) := fun v hb => hkc.below hb
            have HPc : Hid (∀ v, Below u5.heap.size u5 v → (v.cell? ⟨Bp, 0, none⟩ = some (.int .u64 (P.gen : Int)) ∧ v.cell? ⟨Bp, 1, none⟩ = some (.string P.text) ∧ v.cell? ⟨Bp, 2, none⟩ = some (.slice aa P.all.length ca) ∧ v.cell? ⟨Bp, 3, none⟩ = some (.int .i64 (P.sure : Int))) ∧ ∀ i, v.frozen? ⟨Bp, i, none⟩ = false) := fun v hb => (HK6.out.keep hb).pc
            have HLl : Hid (L'.length ≤ 10000) := by have := HLk.out; have := HK50.out; show _ ≤ _; omega
            have K : Below u5.heap.size u5 u5 := Below.refl _ u5
            clear hb5 HK5 HKb HS5 HSa HCap hkc
            go_wp2_with fail
            go_region_held3 (fun z => z.cell? ⟨u4.heap.size, 0, none⟩ = some (.int .u64 (P.gen : Int)) ∧ z.cell? ⟨u4.heap.size, 1, none⟩ = some (.string P.text) ∧ z.cell? ⟨u4.heap.size, 2, none⟩ = some (.slice a7 L'.length c7))
              ((first | (with_reducible exact (HCk2.out _ K).all) | (with_reducible exact (HCk2.out _ K.drew).all) | (with_reducible exact (HCk2.out _ (bnext K (one_below _ _)).drew).all) | (with_reducible exact (((((HCk2.out _ K).set HBd.out.2.1 _ _).set HBd.out.2.1 _ _).set HBd.out.2.1 _ _).set HBd.out.2.1 _ _).all)))
              ((refine step_append_strs _ (by rfl) _ _ (by rfl) u5.heap.size _ (by rfl) (World.ownsRow.drew (World.ownsRow_lit (base := u5.heap.size) (e := 9) (size := 1) _ #[] 0 K.size (by decide) rfl)) a7 c7 L' (by rfl) (HS6.out.below (bnext K (one_below _ _)).drew) HC4.out HLl.out (bnext K (one_below _ _)).drew.size ?_; intro v9 u9 hown9 hgrow9; have K := ((K.alloc K.size (.cells #[] 9)).drew).grown hgrow9 (bnext K (one_below _ _)).drew.size (fun j e => by cases e; exact K.size); obtain ⟨a9, c9, rfl, -⟩ := hown9.strs; obtain ⟨⟨s0, s1, s2, s3⟩, cf⟩ := HPc.out _ K; have cf0 := cf 0; have cf1 := cf 1; have cf2 := cf 2; have cf3 := cf 3; clear cf hgrow9))
            all_goals
              have hk9 := HK6.out.keep K
              have ho9 : OwnL u9 w.heap.size (.slice a9 L'.length c9) L' := own_up hown9 (fun j hj => Nat.le_trans HK6.out.below.size (own_ge hown9 hj))
              have HB9 : ∀ j, OB (.slice a9 L'.length c9) j → ¬ A4 j ∧ j ≠ Bc ∧ j ≠ Bp ∧ j ≠ Bn := fun j hj => HK6.out.newer (own_ge hown9 hj)
              have HK9 := hide ((((hk9.setp 0 (.int .u64 (P.gen : Int)) (g' := P.gen) (t' := P.text) (sr' := P.sure) rfl).setp 1 (.string P.text) (g' := P.gen) (t' := P.text) (sr' := P.sure) rfl).setl (own_oth (own_oth ho9 (fun j hj => (HB9 j hj).2.2.1) 0 _) (fun j hj => (HB9 j hj).2.2.1) 1 _) HB9).setp 3 (.int .i64 (L'.length : Int)) (g' := P.gen) (t' := P.text) (sr' := L'.length) rfl)
              clear hk9 ho9 HB9 hown9 K s0 s1 s2 s3 cf0 cf1 cf2 cf3 HK6 HS6 HCk2 HPc
              generalize (((u9.setCell ⟨Bp, 0, none⟩ (.int .u64 (P.gen : Int))).setCell ⟨Bp, 1, none⟩ (.string P.text)).setCell ⟨Bp, 2, none⟩ (.slice a9 L'.length c9)).setCell ⟨Bp, 3, none⟩ (.int .i64 (L'.length : Int)) = W9 at *
              obtain ⟨⟨n0, n1, n2, n3⟩, nf⟩ := HK9.out.nc
              have nf0 := nf 0
              have nf1 := nf 1
              have nf2 := nf 2
              have nf3 := nf 3
              have HK10 := hide ((((HK9.out.setn 0 (.int .u64 0) (qg' := 0) (qt' := qT Q) rfl).setn 1 (.string ⟨#[]⟩) (qg' := 0) (qt' := noText) rfl).setn 2 (.slice none 0 0) (qg' := 0) (qt' := noText) rfl).setn 3 (.int .i64 0) (qg' := 0) (qt' := noText) rfl)
              clear HK9 nf
              have hw1 := HW1.out
              go_wp2
              go_roundw
              case rel => exact ⟨k + 1, pp, hlt, by go_num, rfl, ⟨P.gen, cat L', false⟩, st', A4, ⟨P.gen, P.text, L', L'.length⟩, none, _, HK10.out, HSi'.out, HGk.out, HLk.out, HFw2.out⟩
              case measure => simp [intOf]; omega
          · have HQ2 := hide q2
            have KF := hide (found_no (P.gen : Int) (g' : Int) P.text t' aa a7 P.all.length ca L'.length c7 P.sure (u4.alloc (.cells #[.int .u64 (g' : Int), .string t', .slice a7 L'.length c7] 61)) q1)
            have KF2 := hide (fun v (hb : Below _ (u4.alloc (.cells #[.int .u64 (g' : Int), .string t', .slice a7 L'.length c7] 61)) v) => found_yes (g' : Int) t' none a7 0 0 L'.length c7 0 L' v rfl (by rw [HQ2.out]; decide) (Nat.zero_le _) (Nat.le_refl _) (by decide) (Or.inl HQ2.out) (HS5.out.below hb))
            have hgp : (0 : Int) < (g' : Int) := by have := HGk.out; omega
            unfold pastV keptV at KF KF2
            rw [q3] at n0'
            rw [q4] at n1'
            clear q1 q2 HFd
            go_wp2_with fail
            refine KF.out.mono ?_
            rintro e u5a ⟨rfl, hb5a⟩
            have HB5a := hide hb5a
            have HK5a := hide (HK5.out.keep hb5a)
            have HKba := hide (HKb.out.below hb5a)
            obtain ⟨m0', m1', m2', m3'⟩ := HK5a.out.nc.1
            obtain ⟨kb0, kb1, kb2⟩ := HKba.out.all
            rw [q3] at m0'
            rw [q4] at m1'
            clear n0' n1' n2' n3' p0' p1' p2' p3' hb5a KF q3 q4 HK5a HKba
            go_wp2_with fail
            refine (KF2.out _ HB5a.out).mono ?_
            rintro e u5 ⟨rfl, hb5b⟩
            have hb5 := bnext HB5a.out hb5b
            clear hb5b m0' m1' m2' m3' kb0 kb1 kb2 KF2 hgp
            have HK6 := hide (HK5.out.keep hb5)
            have HS6 := hide (HS5.out.below hb5)
            have hkc := HKb.out.below hb5
            have HCk2 : Hid (∀ v, Below u5.heap.size u5 v → KBx u4.heap.size (.int .u64 (g' : Int)) (.string t') (.slice a7 L'.length c7) v) := fun v hb => hkc.below hb
            have HPc : Hid (∀ v, Below u5.heap.size u5 v → (v.cell? ⟨Bp, 0, none⟩ = some (.int .u64 (P.gen : Int)) ∧ v.cell? ⟨Bp, 1, none⟩ = some (.string P.text) ∧ v.cell? ⟨Bp, 2, none⟩ = some (.slice aa P.all.length ca) ∧ v.cell? ⟨Bp, 3, none⟩ = some (.int .i64 (P.sure : Int))) ∧ ∀ i, v.frozen? ⟨Bp, i, none⟩ = false) := fun v hb => (HK6.out.keep hb).pc
            have HLl : Hid (L'.length ≤ 10000) := by have := HLk.out; have := HK50.out; show _ ≤ _; omega
            have K : Below u5.heap.size u5 u5 := Below.refl _ u5
            clear hb5 HK5 HKb HS5 HSa HCap hkc
            go_wp2_with fail
            go_region_held3 (fun z => z.cell? ⟨u4.heap.size, 0, none⟩ = some (.int .u64 (g' : Int)) ∧ z.cell? ⟨u4.heap.size, 1, none⟩ = some (.string t') ∧ z.cell? ⟨u4.heap.size, 2, none⟩ = some (.slice a7 L'.length c7))
              ((first | (with_reducible exact (HCk2.out _ K).all) | (with_reducible exact (HCk2.out _ K.drew).all) | (with_reducible exact (HCk2.out _ (bnext K (one_below _ _)).drew).all) | (with_reducible exact (((((HCk2.out _ K).set HBd.out.2.1 _ _).set HBd.out.2.1 _ _).set HBd.out.2.1 _ _).set HBd.out.2.1 _ _).all)))
              ((refine step_append_strs _ (by rfl) _ _ (by rfl) u5.heap.size _ (by rfl) (World.ownsRow.drew (World.ownsRow_lit (base := u5.heap.size) (e := 9) (size := 1) _ #[] 0 K.size (by decide) rfl)) a7 c7 L' (by rfl) (HS6.out.below (bnext K (one_below _ _)).drew) HC4.out HLl.out (bnext K (one_below _ _)).drew.size ?_; intro v9 u9 hown9 hgrow9; have K := ((K.alloc K.size (.cells #[] 9)).drew).grown hgrow9 (bnext K (one_below _ _)).drew.size (fun j e => by cases e; exact K.size); obtain ⟨a9, c9, rfl, -⟩ := hown9.strs; obtain ⟨⟨s0, s1, s2, s3⟩, cf⟩ := HPc.out _ K; have cf0 := cf 0; have cf1 := cf 1; have cf2 := cf 2; have cf3 := cf 3; clear cf hgrow9))
            all_goals
              have hk9 := HK6.out.keep K
              have ho9 : OwnL u9 w.heap.size (.slice a9 L'.length c9) L' := own_up hown9 (fun j hj => Nat.le_trans HK6.out.below.size (own_ge hown9 hj))
              have HB9 : ∀ j, OB (.slice a9 L'.length c9) j → ¬ A4 j ∧ j ≠ Bc ∧ j ≠ Bp ∧ j ≠ Bn := fun j hj => HK6.out.newer (own_ge hown9 hj)
              have HK9 := hide ((((hk9.setp 0 (.int .u64 (g' : Int)) (g' := g') (t' := P.text) (sr' := P.sure) rfl).setp 1 (.string t') (g' := g') (t' := t') (sr' := P.sure) rfl).setl (own_oth (own_oth ho9 (fun j hj => (HB9 j hj).2.2.1) 0 _) (fun j hj => (HB9 j hj).2.2.1) 1 _) HB9).setp 3 (.int .i64 (L'.length : Int)) (g' := g') (t' := t') (sr' := L'.length) rfl)
              clear hk9 ho9 HB9 hown9 K s0 s1 s2 s3 cf0 cf1 cf2 cf3 HK6 HS6 HCk2 HPc
              generalize (((u9.setCell ⟨Bp, 0, none⟩ (.int .u64 (g' : Int))).setCell ⟨Bp, 1, none⟩ (.string t')).setCell ⟨Bp, 2, none⟩ (.slice a9 L'.length c9)).setCell ⟨Bp, 3, none⟩ (.int .i64 (L'.length : Int)) = W9 at *
              obtain ⟨⟨n0, n1, n2, n3⟩, nf⟩ := HK9.out.nc
              have nf0 := nf 0
              have nf1 := nf 1
              have nf2 := nf 2
              have nf3 := nf 3
              have HK10 := hide ((((HK9.out.setn 0 (.int .u64 0) (qg' := 0) (qt' := qT Q) rfl).setn 1 (.string ⟨#[]⟩) (qg' := 0) (qt' := noText) rfl).setn 2 (.slice none 0 0) (qg' := 0) (qt' := noText) rfl).setn 3 (.int .i64 0) (qg' := 0) (qt' := noText) rfl)
              clear HK9 nf
              have hw1 := HW1.out
              go_wp2
              go_roundw
              case rel => exact ⟨k + 1, pp, hlt, by go_num, rfl, ⟨g', cat L', false⟩, st', A4, ⟨g', t', L', L'.length⟩, none, _, HK10.out, HSi'.out, HGk.out, HLk.out, HFw2.out⟩
              case measure => simp [intOf]; omega
        · have hm := mod5 x.act 4 h5
          have htm := HXo.out.times
          have hw0 := t_wrap htm
          have hwi := t_iwrap htm
          have K2 := hide (fun v (h : KM w Bc Bp Bn q p s st A P.gen P.text P.all (.slice aa P.all.length ca) P.sure (qG Q) (qT Q) v) => h.fused HOkS.out.1 (x.times : Int) (by omega))
          have HS2 := hide (HSi.out.fuse (x.times : Int) (by omega))
          have HFw2 : Hid ((st.fuse (x.times : Int)).loose.length ≤ 60 * (k + 1 + 1)) := by have := HFw.out; show st.loose.length ≤ _; omega
          have K3 := hide (K2.out _ HK1.out)
          clear f1 f3 f4 htm K2
          go_wp2_with fail
          refine K3.out.mono ?_
          rintro e u2 ⟨rfl, A2, hk2⟩
          have HK2 := hide hk2
          clear hk2 K3 f0 f2
          have hw1 := HW1.out
          go_wp2
          go_roundw
          case rel => exact ⟨k + 1, p, hlt, by go_num, rfl, s, st.fuse (x.times : Int), A2, P, Q, _, HK2.out, HS2.out, ⟨HPg.out.1, by have := HPg.out.2; omega⟩, Nat.le_succ_of_le HPl.out, HFw2.out⟩
          case measure => simp [intOf]; omega
      · have hkl : k = l.length := by omega
        subst hkl
        obtain ⟨s, st, A, P, Q, vA, hkm, -⟩ := hkr
        have HB := hide hkm.below
        clear hkm
        go_wp2_with fail
        refine (KA.out _).mono ?_
        rintro e w9 ⟨rfl, hb9⟩
        have HB9 := hide (bnext HB.out hb9)
        clear hb9
        go_wp2
        go_ret
        exact ⟨rfl, HB9.out⟩
end Go.Proofs.YtchhojkhfdkhfaaGreatDoor
