/- The program's disk: what it is in memory. -/
import Derived.Test.YtiebhdgpnloieaaDoorFlat
import Derived.Test.YtiebhdgpnloieaaDoorGRef
import Derived.Deep.MidRow
import Derived.Deep.WholeRow
import Derived.Laws.CopyRow
namespace Go.Proofs.YtiebhdgpnloieaaDoor
open Go Go.RowKit

/-- The blocks of the program's disk: as those of the document's. -/
abbrev DF (p : Nat) (vS vL : Value) (k : Nat) : Prop := RF p vS vL k
/-- The program's disk lies at block p. -/
structure PAt (u : World) (p : Nat) (vS vL : Value) (x : Int) (st : St) : Prop where
  head : u.heap[p]? = some (.cells #[vS, vL, .int .i64 x] 55 (0, 0))
  sure : u.ownsRow 0 72 256 vS st.sure.length (sc st.sure)
  loose : u.ownsRow 0 78 257 vL st.loose.length (lc st.loose)
  left : st.left = max x (-1)
  fit : -9223372036854775808 ≤ x ∧ x ≤ 9223372036854775807
theorem PAt.lt {u : World} {p : Nat} {vS vL : Value} {x : Int} {st : St} (h : PAt u p vS vL x st) : ∀ k, DF p vS vL k → k < u.heap.size := fun k hk => by
  rcases hk with rfl | h1 | h1
  · exact (Array.getElem?_eq_some_iff.1 h.head).1
  · exact own_lt h.sure h1
  · exact own_lt h.loose h1
theorem PAt.same {u v : World} {p : Nat} {vS vL : Value} {x : Int} {st : St} (h : PAt u p vS vL x st) (hb : ∀ k, DF p vS vL k → v.heap[k]? = u.heap[k]?) : PAt v p vS vL x st :=
  ⟨(hb p (Or.inl rfl)).trans h.head, own_same h.sure (fun g hg => hb g (Or.inr (Or.inl hg))), own_same h.loose (fun g hg => hb g (Or.inr (Or.inr hg))), h.left, h.fit⟩
theorem PAt.below {u v : World} {p : Nat} {vS vL : Value} {x : Int} {st : St} (h : PAt u p vS vL x st) (hb : Below u.heap.size u v) : PAt v p vS vL x st := h.same (fun k hk => hb.block k (h.lt k hk))
theorem PAt.drew {u : World} {p : Nat} {vS vL : Value} {x : Int} {st : St} (h : PAt u p vS vL x st) : PAt u.drew p vS vL x st := h.same (fun _ _ => rfl)
theorem PAt.cell0 {u : World} {p : Nat} {vS vL : Value} {x : Int} {st : St} (h : PAt u p vS vL x st) : u.cell? ⟨p, 0, none⟩ = some vS := by simp [World.cell?, h.head]
theorem PAt.cell1 {u : World} {p : Nat} {vS vL : Value} {x : Int} {st : St} (h : PAt u p vS vL x st) : u.cell? ⟨p, 1, none⟩ = some vL := by simp [World.cell?, h.head]
theorem PAt.cell2 {u : World} {p : Nat} {vS vL : Value} {x : Int} {st : St} (h : PAt u p vS vL x st) : u.cell? ⟨p, 2, none⟩ = some (.int .i64 x) := by simp [World.cell?, h.head]
theorem PAt.free {u : World} {p : Nat} {vS vL : Value} {x : Int} {st : St} (h : PAt u p vS vL x st) (i : Nat) : u.frozen? ⟨p, i, none⟩ = false := by simp [World.frozen?, h.head]
theorem PAt.ne0 {u : World} {p : Nat} {vS vL : Value} {x : Int} {st : St} (h : PAt u p vS vL x st) : vS.ownBlock ≠ some p := fun e => by
  obtain ⟨cur, hc⟩ := row_type h.sure e
  rw [h.head] at hc
  cases hc
theorem PAt.ne1 {u : World} {p : Nat} {vS vL : Value} {x : Int} {st : St} (h : PAt u p vS vL x st) : vL.ownBlock ≠ some p := fun e => by
  obtain ⟨cur, hc⟩ := row_type h.loose e
  rw [h.head] at hc
  cases hc
theorem PAt.ne2 {u : World} {p : Nat} {vS vL : Value} {x : Int} {st : St} (h : PAt u p vS vL x st) {g : Nat} (hS : vS.ownBlock = some g) : vL.ownBlock ≠ some g := fun e => by
  obtain ⟨cur, hc⟩ := row_type h.sure hS
  obtain ⟨cur2, hc2⟩ := row_type h.loose e
  rw [hc] at hc2
  cases hc2
theorem PAt.rowS {u : World} {p i : Nat} {vS vL v : Value} {x : Int} {st : St} (h : PAt u p vS vL x st) : (u.setCell ⟨p, i, none⟩ v).ownsRow 0 72 256 vS st.sure.length (sc st.sure) :=
  own_same h.sure (fun g hg => Below.heap_setCell u ⟨p, i, none⟩ v g (fun e => h.ne0 (by rw [← show g = p from e]; exact hg)))
theorem PAt.rowL {u : World} {p i : Nat} {vS vL v : Value} {x : Int} {st : St} (h : PAt u p vS vL x st) : (u.setCell ⟨p, i, none⟩ v).ownsRow 0 78 257 vL st.loose.length (lc st.loose) :=
  own_same h.loose (fun g hg => Below.heap_setCell u ⟨p, i, none⟩ v g (fun e => h.ne1 (by rw [← show g = p from e]; exact hg)))
/-- The fuse is set. -/
theorem PAt.setLeft {u : World} {p : Nat} {vS vL : Value} {x : Int} {st : St} (h : PAt u p vS vL x st) (y : Int) (hy : -9223372036854775808 ≤ y ∧ y ≤ 9223372036854775807) : PAt (u.setCell ⟨p, 2, none⟩ (.int .i64 y)) p vS vL y ⟨st.sure, st.loose, max y (-1)⟩ :=
  ⟨by rw [heap_set3 h.head]; rfl, h.rowS, h.rowL, rfl, hy⟩
/-- Nothing is loose any more. -/
theorem PAt.nothing {u : World} {p : Nat} {vS vL : Value} {x : Int} {st : St} (h : PAt u p vS vL x st) : PAt (u.setCell ⟨p, 1, none⟩ (.slice none 0 0)) p vS (.slice none 0 0) x ⟨st.sure, [], st.left⟩ ∧ Loc (DF p vS vL) (DF p vS (.slice none 0 0)) u (u.setCell ⟨p, 1, none⟩ (.slice none 0 0)) := by
  refine ⟨⟨by rw [heap_set3 h.head]; rfl, h.rowS, World.ownsRow_nil _ _ _ _, h.left, h.fit⟩, ⟨rfl, rfl, rfl, by simp [World.setCell], fun j _ hF => Below.heap_setCell u ⟨p, 1, none⟩ _ j (fun e => hF (Or.inl e)), fun j hj => ?_⟩⟩
  rcases hj with h1 | h1 | h1
  · exact Or.inl (Or.inl h1)
  · exact Or.inl (Or.inr (Or.inl h1))
  · cases h1
theorem range_of_row {w : World} {base : Nat} {e : TypeId} {size n g c : Nat} {xs : List Value} (h : w.ownsRow base e size (.slice (some ⟨g, 0, none⟩) n c) n xs) (o : Nat) (cs : List Value) (hc : ∀ j (_ : j < cs.length), xs[o + j]? = cs[j]?) : w.rangeAt g o cs := fun j v hv => by
  have hj : j < cs.length := (List.getElem?_eq_some_iff.1 hv).1
  have hx : xs[o + j]? = some v := (hc j hj).trans hv
  have := World.ownsRow.cells h (g := g) rfl (o + j) v hx
  rw [add_at] at this
  exact this
/-- A block of what is sure, where it lies. -/
theorem PAt.block {u : World} {p g n c : Nat} {vL : Value} {x : Int} {st : St} (h : PAt u p (.slice (some ⟨g, 0, none⟩) n c) vL x st) (hn : n = st.sure.length) (hok : ∀ s ∈ st.sure, s.size = 256) (i : Nat) (hi : i < st.sure.length) : u.rangeAt g (i * 256) (tc st.sure[i]) := by
  subst hn
  refine range_of_row h.sure (i * 256) _ (fun j hj => sc_at st.sure hok i hi j ?_)
  rw [tc_length, hok _ (List.getElem_mem hi)] at hj
  exact hj
/-- A write that is loose, where it lies. -/
theorem PAt.write {u : World} {p g n c : Nat} {vS : Value} {x : Int} {st : St} (h : PAt u p vS (.slice (some ⟨g, 0, none⟩) n c) x st) (hn : n = st.loose.length) (hok : ∀ w ∈ st.loose, w.2.size = 256) (i : Nat) (hi : i < st.loose.length) : u.rangeAt g (i * 257) (wc st.loose[i]) := by
  subst hn
  refine range_of_row h.loose (i * 257) _ (fun j hj => lc_at st.loose hok i hi j ?_)
  rw [wc_length _ (hok _ (List.getElem_mem hi))] at hj
  exact hj
end Go.Proofs.YtiebhdgpnloieaaDoor
