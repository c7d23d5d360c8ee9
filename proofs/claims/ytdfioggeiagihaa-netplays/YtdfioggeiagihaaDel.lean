/- Cells of a block written one behind the other; a record taken out of a row in place. -/
import Derived.Test.YtdfioggeiagihaaRef2
import Derived.Lib.SliceRun
namespace Go.Proofs.Ytdfioggeiagihaa
open Go Go.RowKit

/-- Some of a list, written over it from o on. -/
def over (cur : List Value) (o : Nat) (vs : List Value) : List Value := cur.take o ++ vs ++ cur.drop (o + vs.length)
theorem over_cons (cur : List Value) (o : Nat) (v : Value) (r : List Value) (h : o < cur.length) : over (cur.set o v) (o + 1) r = over cur o (v :: r) := by
  unfold over
  rw [List.take_set, List.take_succ_eq_append_getElem h, List.set_append_right _ _ (by rw [List.length_take]; omega), List.length_take, Nat.min_eq_left (by omega), Nat.sub_self, List.set_cons_zero, List.drop_set_of_lt (by omega), List.length_cons]
  simp only [List.append_assoc, List.cons_append, List.nil_append]
  rw [show o + 1 + r.length = o + (r.length + 1) by omega]
theorem heap_setCells {e : TypeId} (g : Nat) : ∀ (vs : List Value) (o : Nat) (w : World) (cur : Array Value), w.heap[g]? = some (.cells cur e (0, 0)) → o + vs.length ≤ cur.size →
    ∃ cur2 : Array Value, (w.setCells g o vs).heap[g]? = some (.cells cur2 e (0, 0)) ∧ cur2.toList = over cur.toList o vs ∧ cur2.size = cur.size
  | [], o, w, cur, h, hs => ⟨cur, h, by unfold over; simp, rfl⟩
  | v :: r, o, w, cur, h, hs => by
    simp only [List.length_cons] at hs
    have h1 := heap_setAt (i := o) h v
    obtain ⟨cur2, h2, h3, h4⟩ := heap_setCells g r (o + 1) (w.setCell ⟨g, o, none⟩ v) (cur.setIfInBounds o v) h1 (by rw [Array.size_setIfInBounds]; omega)
    refine ⟨cur2, h2, ?_, by rw [h4, Array.size_setIfInBounds]⟩
    rw [h3, Array.toList_setIfInBounds, over_cons _ _ _ _ (by rw [Array.length_toList]; omega)]
theorem setCells_loc (g : Nat) {F : Nat → Prop} (hF : F g) : ∀ (vs : List Value) (o : Nat) (w : World), Loc F F w (w.setCells g o vs)
  | [], _, _ => Loc.refl _ _
  | v :: r, o, w => (Loc.setCell w ⟨g, o, none⟩ v hF).trans (setCells_loc g hF r (o + 1) _)
/-- One record is cleared. -/
theorem run_clear_one {P : Program} (w : World) (t e ty : TypeId) (z : Value) (ht : P.underlying t = some (.slice e)) (hv : ∀ w, (zeroValue e).run P w = .ok z w) (h1 : ∀ u ∈ z.cells.toList, u.oneCell' = true) (b o c : Nat)
    (hc : ∀ j, j < z.cells.size → (w.cell? ⟨b, o + j, none⟩).isSome = true) (hf : ∀ j, j < z.cells.size → w.frozen? ⟨b, o + j, none⟩ = false) :
    (Builtin.clear_ #[t] ty #[.slice (some ⟨b, o, none⟩) 1 c]).run P w = .ok (.tuple #[]) (w.setCells b o z.cells.toList) := by
  have hzc : (Builtin.zeroCells z.cells 1).toList = z.cells.toList := by
    simp [Builtin.zeroCells]
    apply List.ext_getElem
    · simp
    · intro i h1 h2
      simp at h1
      simp [Nat.mod_eq_of_lt h1, getElem!_pos z.cells i h1]
  have hst := run_storeCells_cells (P := P) b o z.cells.toList 0 w (by simpa using hc) (by simpa using hf) h1
  simp only [Nat.add_zero] at hst
  simp [Builtin.clear_, run_underlying ht, hv, hzc, hst]
def zeroL : Value := .agg #[.int .u64 0, .int .i64 0, .int .i64 0, .string ⟨#[]⟩, .int .i64 0]
def zeroC : List Value := [.int .u64 0, .int .i64 0, .int .i64 0, .string ⟨#[]⟩, .int .i64 0]
theorem zeroC_is : zeroL.cells.toList = zeroC := rfl
theorem zeroLetter (w : World) : (zeroValue 41).run Try.prog w = .ok zeroL w := by kernel_rfl
/-- What a row has, when a record is taken out: those behind it are moved, the last place is cleared. -/
theorem cut_row {w : World} {g c k M : Nat} {l : List Lt} (h : Recs w 41 5 letC (.slice (some ⟨g, 0, none⟩) l.length c) l) (hl : l.length = k + 1 + M) :
    Recs ((w.setCells g (k * 5) ((l.drop (k + 1)).flatMap letC)).setCells g ((k + M) * 5) zeroL.cells.toList) 41 5 letC (.slice (some ⟨g, 0, none⟩) (k + M) c) (l.take k ++ l.drop (k + 1)) := by
  rcases h.2 with ⟨h1, _⟩ | ⟨g', cap, cur, h1, hb, hg, hnc, hcm, hcs, htake⟩
  · cases h1
  · cases h1
    have f1 : ((l.drop (k + 1)).flatMap letC).length = M * 5 := by rw [flat_len letC_len, List.length_drop]; omega
    have f2 : zeroL.cells.toList.length = 5 := rfl
    have ft : ((l.take k).flatMap letC).length = k * 5 := by rw [flat_len letC_len, List.length_take]; omega
    obtain ⟨c1, g1, t1, s1⟩ := heap_setCells g ((l.drop (k + 1)).flatMap letC) (k * 5) w cur hg (by rw [f1, hcs]; omega)
    obtain ⟨c2, g2, t2, s2⟩ := heap_setCells g zeroL.cells.toList ((k + M) * 5) _ c1 g1 (by rw [f2, s1, hcs]; omega)
    have hk : cur.toList.take (k * 5) = (l.take k).flatMap letC := by
      have e1 : l.flatMap letC = (l.take k).flatMap letC ++ (l.drop k).flatMap letC := by rw [← List.flatMap_append, List.take_append_drop]
      have e2 : cur.toList.take (k * 5) = (cur.toList.take (l.length * 5)).take (k * 5) := by rw [List.take_take, Nat.min_eq_left (by omega)]
      rw [e2, htake, e1, List.take_append_of_le_length (by omega), List.take_of_length_le (by omega)]
    have hlen : (l.take k ++ l.drop (k + 1)).length = k + M := by rw [List.length_append, List.length_take, List.length_drop]; omega
    unfold Recs
    rw [hlen]
    refine ⟨by rw [flat_len letC_len, hlen], Or.inr ⟨g, c, c2, rfl, Nat.zero_le _, g2, by omega, hcm, by rw [s2, s1, hcs], ?_⟩⟩
    rw [t2]
    unfold over
    rw [List.append_assoc, List.take_append_of_le_length (by rw [List.length_take, Array.length_toList, s1, hcs]; omega), List.take_take, Nat.min_self, t1]
    unfold over
    rw [hk, List.flatMap_append, List.take_append_of_le_length (by rw [List.length_append, ft, f1]; omega), List.take_of_length_le (by rw [List.length_append, ft, f1]; omega)]
end Go.Proofs.Ytdfioggeiagihaa
