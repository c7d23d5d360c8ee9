/- For the law BlockEnds: several disks, and where they are kept. -/
import Derived.Test.YtffniclijiekkaaKeeps
namespace Go.Proofs.Ytffniclijiekkaa
open Go Go.RowKit
/-- What stands in the i-th place, if the first a are filled. -/
def ptr (P : Nat → Nat) (a i : Nat) : Value := if i < a then .pointer (some ⟨P i, 0, none⟩) else .pointer none
/-- k disks, apart from each other and from the array at block q, whose first a places point to them; all behind what was there. -/
structure Many (DAt : World → Nat → St → (Nat → Prop) → Prop) (w u : World) (q a k : Nat) (P : Nat → Nat) (Fs : Nat → Nat → Prop) (sts : Nat → St) : Prop where
  arr : u.heap[q]? = some (.cells #[ptr P a 0, ptr P a 1, ptr P a 2] 55 (0, 0))
  d : ∀ i, i < k → DAt u (P i) (sts i) (Fs i)
  apart : ∀ i j, i < k → j < k → i ≠ j → ∀ x, Fs i x → ¬ Fs j x
  nq : ∀ i, i < k → ¬ Fs i q
  fromD : ∀ i, i < k → ∀ x, Fs i x → w.heap.size ≤ x
  hq : w.heap.size ≤ q
  below : Below w.heap.size w u
theorem Many.qlt {DAt : World → Nat → St → (Nat → Prop) → Prop} {w u : World} {q a k : Nat} {P : Nat → Nat} {Fs : Nat → Nat → Prop} {sts : Nat → St} (h : Many DAt w u q a k P Fs sts) : q < u.heap.size := (Array.getElem?_eq_some_iff.1 h.arr).1
theorem Many.same {DAt : World → Nat → St → (Nat → Prop) → Prop} (C : Con DAt) {w u v : World} {q a k : Nat} {P : Nat → Nat} {Fs : Nat → Nat → Prop} {sts : Nat → St} (h : Many DAt w u q a k P Fs sts) (hq : v.heap[q]? = u.heap[q]?) (hd : ∀ i, i < k → ∀ x, Fs i x → v.heap[x]? = u.heap[x]?) (hb : Below w.heap.size w v) : Many DAt w v q a k P Fs sts :=
  ⟨hq.trans h.arr, fun i hi => C.same (h.d i hi) (hd i hi), h.apart, h.nq, h.fromD, h.hq, hb⟩
theorem Many.old {DAt : World → Nat → St → (Nat → Prop) → Prop} (C : Con DAt) {w u v : World} {q a k : Nat} {P : Nat → Nat} {Fs : Nat → Nat → Prop} {sts : Nat → St} (h : Many DAt w u q a k P Fs sts) (hb : Below u.heap.size u v) : Many DAt w v q a k P Fs sts :=
  h.same C (hb.block q h.qlt) (fun i hi x hx => hb.block x (C.lt (h.d i hi) x hx)) (h.below.trans (hb.mono h.below.size))
theorem Many.cell {DAt : World → Nat → St → (Nat → Prop) → Prop} {w u : World} {q a k : Nat} {P : Nat → Nat} {Fs : Nat → Nat → Prop} {sts : Nat → St} (h : Many DAt w u q a k P Fs sts) : u.cell? ⟨q, 0, none⟩ = some (ptr P a 0) ∧ u.cell? ⟨q, 1, none⟩ = some (ptr P a 1) ∧ u.cell? ⟨q, 2, none⟩ = some (ptr P a 2) := by
  have := h.arr
  simp [World.cell?, this]
theorem Many.at {DAt : World → Nat → St → (Nat → Prop) → Prop} {w u : World} {q a k : Nat} {P : Nat → Nat} {Fs : Nat → Nat → Prop} {sts : Nat → St} (h : Many DAt w u q a k P Fs sts) (i : Nat) (hi : i < 3) : u.cell? ⟨q, i, none⟩ = some (ptr P a i) ∧ u.frozen? ⟨q, i, none⟩ = false := by
  refine ⟨?_, by have := h.arr; simp [World.frozen?, this]⟩
  rcases (by omega : i = 0 ∨ i = 1 ∨ i = 2) with rfl | rfl | rfl
  · exact h.cell.1
  · exact h.cell.2.1
  · exact h.cell.2.2
/-- One more disk. -/
theorem Many.new {DAt : World → Nat → St → (Nat → Prop) → Prop} (C : Con DAt) {w u v : World} {q a k p : Nat} {P : Nat → Nat} {Fs : Nat → Nat → Prop} {sts : Nat → St} {F : Nat → Prop} {st : St} (h : Many DAt w u q a k P Fs sts) (ha : a ≤ k) (hd : DAt v p st F) (hF : ∀ x, F x → u.heap.size ≤ x) (hb : Below u.heap.size u v) :
    ∃ P' Fs' sts', Many DAt w v q a (k + 1) P' Fs' sts' ∧ P' k = p ∧ sts' k = st ∧ ∀ j, j < k → sts' j = sts j := by
  have h1 := h.old C hb
  have hp : ∀ i, ptr (fun j => if j = k then p else P j) a i = ptr P a i := fun i => by
    unfold ptr
    split
    · show Value.pointer (some ⟨if i = k then p else P i, 0, none⟩) = _
      rw [if_neg (by omega)]
    · rfl
  have hlt : ∀ i, i < k → ∀ x, Fs i x → x < u.heap.size := fun i hi x hx => C.lt (h.d i hi) x hx
  refine ⟨fun j => if j = k then p else P j, fun j => if j = k then F else Fs j, fun j => if j = k then st else sts j, ⟨?_, fun i hi => ?_, fun i j hi hj hij x => ?_, fun i hi => ?_, fun i hi x => ?_, h.hq, h1.below⟩, by simp, by simp, fun j hj => by simp [Nat.ne_of_lt hj]⟩
  · rw [hp, hp, hp]; exact h1.arr
  · by_cases e : i = k
    · simp only [e, if_true]; exact hd
    · simp only [e, if_false]; exact h1.d i (by omega)
  · by_cases e : i = k
    · have e2 : ¬ j = k := by omega
      simp only [e, e2, if_true, if_false]
      exact fun h3 h4 => by have := hF x h3; have := hlt j (by omega) x h4; omega
    · by_cases e2 : j = k
      · simp only [e, e2, if_true, if_false]
        exact fun h3 h4 => by have := hF x h4; have := hlt i (by omega) x h3; omega
      · simp only [e, e2, if_false]
        exact h1.apart i j (by omega) (by omega) hij x
  · by_cases e : i = k
    · simp only [e, if_true]; exact fun h3 => by have := hF q h3; have := h.qlt; omega
    · simp only [e, if_false]; exact h1.nq i (by omega)
  · by_cases e : i = k
    · simp only [e, if_true]; exact fun h3 => by have := hF x h3; have := h.below.size; omega
    · simp only [e, if_false]; exact h1.fromD i (by omega) x
/-- A call on one of them. -/
theorem Many.step {DAt : World → Nat → St → (Nat → Prop) → Prop} (C : Con DAt) {w u v : World} {q a k i : Nat} {P : Nat → Nat} {Fs : Nat → Nat → Prop} {sts : Nat → St} {F' : Nat → Prop} {st : St} (h : Many DAt w u q a k P Fs sts) (hi : i < k) (hd : DAt v (P i) st F') (hl : Loc (Fs i) F' u v) :
    ∃ Fs' sts', Many DAt w v q a k P Fs' sts' ∧ sts' i = st ∧ (∀ j, j < k → j ≠ i → sts' j = sts j) ∧ (∀ j x, j < k → Fs' j x → Fs j x ∨ u.heap.size ≤ x) := by
  have hlt : ∀ i, i < k → ∀ x, Fs i x → x < u.heap.size := fun i hi x hx => C.lt (h.d i hi) x hx
  refine ⟨fun j => if j = i then F' else Fs j, fun j => if j = i then st else sts j, ⟨(hl.block q h.qlt (h.nq i hi)).trans h.arr, fun j hj => ?_, fun j l hj hl2 hjl x => ?_, fun j hj => ?_, fun j hj x => ?_, h.hq, h.below.trans (hl.below (h.fromD i hi) h.below.size)⟩, by simp, fun j _ hne => by simp [hne], fun j x hj => ?_⟩
  · by_cases e : j = i
    · simp only [e, if_true]; exact hd
    · simp only [e, if_false]
      exact C.same (h.d j hj) (fun x hx => hl.block x (hlt j hj x hx) (fun hf => h.apart i j hi hj (fun e2 => e e2.symm) x hf hx))
  · by_cases e : j = i
    · have e2 : ¬ l = i := fun e3 => hjl (e.trans e3.symm)
      simp only [e, e2, if_true, if_false]
      exact hl.apart (h.apart i l hi hl2 (fun e3 => e2 e3.symm)) (hlt l hl2) x
    · by_cases e2 : l = i
      · simp only [e, e2, if_true, if_false]
        exact fun h3 h4 => hl.apart (h.apart i j hi hj (fun e3 => e e3.symm)) (hlt j hj) x h4 h3
      · simp only [e, e2, if_false]
        exact h.apart j l hj hl2 hjl x
  · by_cases e : j = i
    · simp only [e, if_true]
      exact fun h3 => by
        rcases hl.own q h3 with h4 | h4
        · exact h.nq i hi h4
        · have := h.qlt; omega
    · simp only [e, if_false]; exact h.nq j hj
  · by_cases e : j = i
    · simp only [e, if_true]; exact fun h3 => hl.beyond (h.fromD i hi) h.below.size x h3
    · simp only [e, if_false]; exact h.fromD j hj x
  · by_cases e : j = i
    · simp only [e, if_true]; exact hl.own x
    · simp only [e, if_false]; exact fun h3 => Or.inl h3
/-- One more of them is kept in the array. -/
theorem Many.store {DAt : World → Nat → St → (Nat → Prop) → Prop} (C : Con DAt) {w u : World} {q a k : Nat} {P : Nat → Nat} {Fs : Nat → Nat → Prop} {sts : Nat → St} (h : Many DAt w u q a k P Fs sts) (ha : a < 3) : Many DAt w (u.setCell ⟨q, a, none⟩ (.pointer (some ⟨P a, 0, none⟩))) q (a + 1) k P Fs sts := by
  refine ⟨?_, fun i hi => C.same (h.d i hi) (fun x hx => Below.heap_setCell u ⟨q, a, none⟩ _ x (fun e => h.nq i hi (by rw [← show x = q from e]; exact hx))), h.apart, h.nq, h.fromD, h.hq, h.below.setCell (p := ⟨q, a, none⟩) h.hq _⟩
  rw [heap_set3 h.arr]
  rcases (by omega : a = 0 ∨ a = 1 ∨ a = 2) with rfl | rfl | rfl <;> rfl
theorem Many.start {DAt : World → Nat → St → (Nat → Prop) → Prop} (w : World) (P : Nat → Nat) (Fs : Nat → Nat → Prop) (sts : Nat → St) : Many DAt w (w.alloc (.cells #[.pointer none, .pointer none, .pointer none] 55)) w.heap.size 0 0 P Fs sts :=
  ⟨heap_alloc_last w _, fun i hi => absurd hi (by omega), fun i j hi => absurd hi (by omega), fun i hi => absurd hi (by omega), fun i hi => absurd hi (by omega), Nat.le_refl _, (Below.refl _ _).alloc (Nat.le_refl _) _⟩
/-- A row of numbers 256 beside them. -/
structure Rowed (w u : World) (Fs : Nat → Nat → Prop) (v : Value) (t : Nat) : Prop where
  own : u.ownsRow w.heap.size 3 1 v t (List.replicate t (.int .i64 256))
  ap : ∀ j, j < 3 → ∀ g, v.ownBlock = some g → ¬ Fs j g
theorem Rowed.old {w u z : World} {Fs : Nat → Nat → Prop} {v : Value} {t : Nat} (h : Rowed w u Fs v t) (hb : Below u.heap.size u z) : Rowed w z Fs v t :=
  ⟨own_same h.own (fun g hg => hb.block g (own_lt h.own hg)), h.ap⟩
theorem Rowed.step {w u z : World} {Fs Fs' : Nat → Nat → Prop} {F' : Nat → Prop} {v : Value} {t i : Nat} (h : Rowed w u Fs v t) (hi : i < 3) (hl : Loc (Fs i) F' u z) (hF : ∀ j x, j < 3 → Fs' j x → Fs j x ∨ u.heap.size ≤ x) : Rowed w z Fs' v t :=
  ⟨own_same h.own (fun g hg => hl.block g (own_lt h.own hg) (h.ap i hi g hg)), fun j hj g hg hf => by
    rcases hF j g hj hf with h1 | h1
    · exact h.ap j hj g hg h1
    · have := own_lt h.own hg; omega⟩
theorem Rowed.nil (w u : World) (Fs : Nat → Nat → Prop) : Rowed w u Fs (.slice none 0 0) 0 := ⟨World.ownsRow_nil _ _ _ _, fun _ _ g hg => by cases hg⟩
/-- The row has grown; the disks stand. -/
theorem Many.grown {DAt : World → Nat → St → (Nat → Prop) → Prop} (C : Con DAt) {w u V z : World} {q a t : Nat} {P : Nat → Nat} {Fs : Nat → Nat → Prop} {sts : Nat → St} {v : Value} (h : Many DAt w u q a 3 P Fs sts) (R : Rowed w u Fs v t) (hV : Below u.heap.size u V) (hg : V.grownBy z v.ownBlock) : Many DAt w z q a 3 P Fs sts := by
  refine h.same C ?_ (fun i hi x hx => ?_) ?_
  · refine (hg.block q (Nat.lt_of_lt_of_le h.qlt hV.size) (fun e => ?_)).trans (hV.block q h.qlt)
    obtain ⟨cur, hc⟩ := row_type R.own e.symm
    rw [h.arr] at hc
    cases hc
  · have hlt := C.lt (h.d i hi) x hx
    exact (hg.block x (Nat.lt_of_lt_of_le hlt hV.size) (fun e => R.ap i hi x e.symm hx)).trans (hV.block x hlt)
  · exact (h.below.trans (hV.mono h.below.size)).grown hg (Nat.le_trans h.below.size hV.size) (fun g e => (World.ownsRow.lt R.own g e).1)
theorem Rowed.grown {DAt : World → Nat → St → (Nat → Prop) → Prop} (C : Con DAt) {w u z : World} {q a t : Nat} {P : Nat → Nat} {Fs : Nat → Nat → Prop} {sts : Nat → St} {v v' : Value} (h : Many DAt w u q a 3 P Fs sts) (R : Rowed w u Fs v t) (hown : z.ownsRow w.heap.size 3 1 v' (t + 1) (List.replicate t (.int .i64 256) ++ [.int .i64 256])) (hat : v'.ownBlock = v.ownBlock ∨ ∃ g, v'.ownBlock = some g ∧ u.heap.size ≤ g) : Rowed w z Fs v' (t + 1) :=
  ⟨by rw [List.replicate_succ']; exact hown, fun j hj g hg hf => by
    rcases hat with h1 | ⟨g', h1, h2⟩
    · exact R.ap j hj g (h1 ▸ hg) hf
    · rw [h1] at hg
      cases hg
      have := C.lt (h.d j hj) g hf
      omega⟩
end Go.Proofs.Ytffniclijiekkaa
