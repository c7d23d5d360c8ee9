/- The document's own disk: what it is in memory; Down, there, counts, Fuse. -/
import Derived.Test.YtiebhdgpnloieaaDoorObj
import Derived.Test.YtiebhdgpnloieaaDoorGPlain
namespace Go.Proofs.YtiebhdgpnloieaaDoor
open Go Go.RowKit

/-- The cells of what is loose. -/
def looseCells (l : List (Nat × ByteArray)) : List Value := l.flatMap fun w => [.int .i64 (w.1 : Int), .string w.2]
theorem looseCells_length (l : List (Nat × ByteArray)) : (looseCells l).length = l.length * 2 := by
  unfold looseCells
  induction l with
  | nil => rfl
  | cons w l ih => rw [List.flatMap_cons, List.length_append, ih, List.length_cons]; simp; omega
theorem looseCells_snoc (l : List (Nat × ByteArray)) (w : Nat × ByteArray) : looseCells (l ++ [w]) = looseCells l ++ [.int .i64 (w.1 : Int), .string w.2] := by
  unfold looseCells; simp
theorem looseCells_at : ∀ (l : List (Nat × ByteArray)) (i : Nat) (h : i < l.length), (looseCells l)[i * 2]? = some (.int .i64 ((l[i].1 : Nat) : Int)) ∧ (looseCells l)[i * 2 + 1]? = some (.string l[i].2)
  | [], _, h => absurd h (by simp)
  | w :: l, 0, _ => ⟨rfl, rfl⟩
  | w :: l, i + 1, h => by
    have ih := looseCells_at l i (by simpa using h)
    have e : looseCells (w :: l) = .int .i64 (w.1 : Int) :: .string w.2 :: looseCells l := by unfold looseCells; simp
    rw [e, show (i + 1) * 2 = i * 2 + 1 + 1 from by omega]
    exact ih
/-- The blocks of the document's disk. -/
def RF (p : Nat) (vS vL : Value) (k : Nat) : Prop := k = p ∨ vS.ownBlock = some k ∨ vL.ownBlock = some k
/-- The document's disk lies at block p. -/
structure RAt (u : World) (p : Nat) (vS vL : Value) (st : St) : Prop where
  head : u.heap[p]? = some (.cells #[vS, vL, .int .i64 st.left] 44 (0, 0))
  sure : u.ownsRow 0 9 1 vS st.sure.length (st.sure.map Value.string)
  loose : u.ownsRow 0 105 2 vL st.loose.length (looseCells st.loose)
theorem RAt.lt {u : World} {p : Nat} {vS vL : Value} {st : St} (h : RAt u p vS vL st) : ∀ k, RF p vS vL k → k < u.heap.size := fun k hk => by
  rcases hk with rfl | h1 | h1
  · exact (Array.getElem?_eq_some_iff.1 h.head).1
  · exact own_lt h.sure h1
  · exact own_lt h.loose h1
theorem RAt.same {u v : World} {p : Nat} {vS vL : Value} {st : St} (h : RAt u p vS vL st) (hb : ∀ k, RF p vS vL k → v.heap[k]? = u.heap[k]?) : RAt v p vS vL st :=
  ⟨(hb p (Or.inl rfl)).trans h.head, own_same h.sure (fun g hg => hb g (Or.inr (Or.inl hg))), own_same h.loose (fun g hg => hb g (Or.inr (Or.inr hg)))⟩
theorem RAt.below {u v : World} {p : Nat} {vS vL : Value} {st : St} (h : RAt u p vS vL st) (hb : Below u.heap.size u v) : RAt v p vS vL st := h.same (fun k hk => hb.block k (h.lt k hk))
theorem RAt.cell0 {u : World} {p : Nat} {vS vL : Value} {st : St} (h : RAt u p vS vL st) : u.cell? ⟨p, 0, none⟩ = some vS := by simp [World.cell?, h.head]
theorem RAt.cell1 {u : World} {p : Nat} {vS vL : Value} {st : St} (h : RAt u p vS vL st) : u.cell? ⟨p, 1, none⟩ = some vL := by simp [World.cell?, h.head]
theorem RAt.cell2 {u : World} {p : Nat} {vS vL : Value} {st : St} (h : RAt u p vS vL st) : u.cell? ⟨p, 2, none⟩ = some (.int .i64 st.left) := by simp [World.cell?, h.head]
theorem RAt.free {u : World} {p : Nat} {vS vL : Value} {st : St} (h : RAt u p vS vL st) (i : Nat) : u.frozen? ⟨p, i, none⟩ = false := by simp [World.frozen?, h.head]
/-- The blocks are three. -/
theorem row_type {w : World} {base : Nat} {e : TypeId} {size n : Nat} {v : Value} {xs : List Value} (h : w.ownsRow base e size v n xs) {g : Nat} (hg : v.ownBlock = some g) : ∃ cur, w.heap[g]? = some (.cells cur e (0, 0)) := by
  rcases h.2 with ⟨rfl, _⟩ | ⟨g', cap, cur, rfl, h1, hg', hr⟩
  · cases hg
  · simp [Value.ownBlock] at hg
    subst hg
    exact ⟨cur, hg'⟩
theorem RAt.ne0 {u : World} {p : Nat} {vS vL : Value} {st : St} (h : RAt u p vS vL st) : vS.ownBlock ≠ some p := fun e => by
  obtain ⟨cur, hc⟩ := row_type h.sure e
  rw [h.head] at hc
  cases hc
theorem RAt.ne1 {u : World} {p : Nat} {vS vL : Value} {st : St} (h : RAt u p vS vL st) : vL.ownBlock ≠ some p := fun e => by
  obtain ⟨cur, hc⟩ := row_type h.loose e
  rw [h.head] at hc
  cases hc
theorem RAt.ne2 {u : World} {p : Nat} {vS vL : Value} {st : St} (h : RAt u p vS vL st) {g : Nat} (hS : vS.ownBlock = some g) : vL.ownBlock ≠ some g := fun e => by
  obtain ⟨cur, hc⟩ := row_type h.sure hS
  obtain ⟨cur2, hc2⟩ := row_type h.loose e
  rw [hc] at hc2
  cases hc2
theorem heap_set3 {u : World} {p i : Nat} {cs : Array Value} {t : TypeId} (h : u.heap[p]? = some (.cells cs t (0, 0))) (v : Value) : (u.setCell ⟨p, i, none⟩ v).heap[p]? = some (.cells (cs.setIfInBounds i v) t (0, 0)) := by
  rw [setCell_eq_setRow u p i cs t (0, 0) v h]
  exact setRow_heap u p cs _ t _ h
/-- A field of the head is written. -/
theorem RAt.setHead {u : World} {p i : Nat} {vS vL vS' vL' v : Value} {st st' : St} (h : RAt u p vS vL st) (hc : (#[vS, vL, .int .i64 st.left] : Array Value).setIfInBounds i v = #[vS', vL', .int .i64 st'.left])
    (hS : (u.setCell ⟨p, i, none⟩ v).ownsRow 0 9 1 vS' st'.sure.length (st'.sure.map Value.string)) (hL : (u.setCell ⟨p, i, none⟩ v).ownsRow 0 105 2 vL' st'.loose.length (looseCells st'.loose)) : RAt (u.setCell ⟨p, i, none⟩ v) p vS' vL' st' :=
  ⟨by rw [heap_set3 h.head, hc], hS, hL⟩
theorem RAt.rowS {u : World} {p i : Nat} {vS vL v : Value} {st : St} (h : RAt u p vS vL st) : (u.setCell ⟨p, i, none⟩ v).ownsRow 0 9 1 vS st.sure.length (st.sure.map Value.string) :=
  own_same h.sure (fun g hg => Below.heap_setCell u ⟨p, i, none⟩ v g (fun e => h.ne0 (by rw [← show g = p from e]; exact hg)))
theorem RAt.rowL {u : World} {p i : Nat} {vS vL v : Value} {st : St} (h : RAt u p vS vL st) : (u.setCell ⟨p, i, none⟩ v).ownsRow 0 105 2 vL st.loose.length (looseCells st.loose) :=
  own_same h.loose (fun g hg => Below.heap_setCell u ⟨p, i, none⟩ v g (fun e => h.ne1 (by rw [← show g = p from e]; exact hg)))
theorem RAt.setLeft {u : World} {p : Nat} {vS vL : Value} {st : St} (h : RAt u p vS vL st) (x : Int) : RAt (u.setCell ⟨p, 2, none⟩ (.int .i64 x)) p vS vL ⟨st.sure, st.loose, x⟩ :=
  h.setHead rfl h.rowS h.rowL
theorem slice_of {w : World} {base : Nat} {e : TypeId} {size n : Nat} {v : Value} {xs : List Value} (h : w.ownsRow base e size v n xs) : ∃ a c, v = .slice a n c ∧ n ≤ c := by
  rcases h.2 with ⟨rfl, h0⟩ | ⟨g, cap, cur, rfl, h1, hg, hn, _⟩
  · exact ⟨none, 0, by rw [h0], by omega⟩
  · exact ⟨_, cap, rfl, hn⟩

set_option maxHeartbeats 400000 in
theorem rDown (p : Nat) (vS vL : Value) (st : St) (w : World) (h : RAt w p vS vL st) :
    Calls Tryd.prog 52 #[.pointer (some ⟨p, 0, none⟩)] w fun e w' => e = .returned (.bool (st.left == 0)) ∧ w' = w := by
  have hc := h.cell2
  clear h
  go_enter Tryd.func52, Tryd.ntmps52
  go_wp2
  go_ret
  exact ⟨rfl, rfl⟩
set_option maxHeartbeats 400000 in
theorem rThere (p : Nat) (vS vL : Value) (st : St) (b : Int) (w : World) (h : RAt w p vS vL st) (hl : st.sure.length ≤ 4096) :
    Calls Tryd.prog 53 #[.pointer (some ⟨p, 0, none⟩), .int .i64 b] w fun e w' => e = .returned (.bool (decide (0 ≤ b ∧ b < (st.sure.length : Int)))) ∧ w' = w := by
  obtain ⟨a, c, rfl, _⟩ := slice_of h.sure
  have hc := h.cell0
  clear h
  have HL := hide hl
  by_cases h0 : 0 ≤ b
  · by_cases h1 : b < (st.sure.length : Int)
    · have hd : decide (0 ≤ b ∧ b < (st.sure.length : Int)) = true := decide_eq_true ⟨h0, h1⟩
      rw [hd]
      clear hd
      go_enter Tryd.func53, Tryd.ntmps53
      go_wp2
      go_ret
      exact ⟨rfl, rfl⟩
    · have hd : decide (0 ≤ b ∧ b < (st.sure.length : Int)) = false := decide_eq_false (fun h => h1 h.2)
      rw [hd]
      clear hd
      go_enter Tryd.func53, Tryd.ntmps53
      go_wp2
      go_ret
      exact ⟨rfl, rfl⟩
  · have hd : decide (0 ≤ b ∧ b < (st.sure.length : Int)) = false := decide_eq_false (fun h => h0 h.1)
    rw [hd]
    clear hd
    go_enter Tryd.func53, Tryd.ntmps53
    go_wp2
    go_ret
    exact ⟨rfl, rfl⟩
set_option maxHeartbeats 400000 in
theorem rCounts (p : Nat) (vS vL : Value) (st : St) (w : World) (h : RAt w p vS vL st) (hl : -1 ≤ st.left ∧ st.left ≤ 9223372036854775807) :
    Calls Tryd.prog 54 #[.pointer (some ⟨p, 0, none⟩)] w fun e w' => (∃ v, e = .returned v) ∧ RAt w' p vS vL ⟨st.sure, st.loose, counted st.left⟩ ∧ Loc (RF p vS vL) (RF p vS vL) w w' := by
  have hc := h.cell2
  have hf := h.free 2
  have H := hide h
  by_cases h0 : 0 < st.left
  · have hx : counted st.left = st.left - 1 := by unfold counted; rw [if_pos h0]
    rw [hx]
    clear hx h
    go_enter Tryd.func54, Tryd.ntmps54
    go_wp2
    go_end0
    exact ⟨⟨_, rfl⟩, H.out.setLeft _, Loc.setCell w ⟨p, 2, none⟩ _ (Or.inl rfl)⟩
  · have hx : counted st.left = st.left := by unfold counted; rw [if_neg h0]
    rw [hx]
    clear hx h
    go_enter Tryd.func54, Tryd.ntmps54
    go_wp2
    go_end0
    exact ⟨⟨_, rfl⟩, H.out, Loc.refl _ _⟩
set_option maxHeartbeats 400000 in
theorem rFuse (p : Nat) (vS vL : Value) (st : St) (n : Int) (w : World) (h : RAt w p vS vL st) (hn : n ≤ 9223372036854775807) :
    Calls Tryd.prog 24 #[.pointer (some ⟨p, 0, none⟩), .int .i64 n] w fun e w' => (∃ v, e = .returned v) ∧ RAt w' p vS vL (st.fuse n) ∧ Loc (RF p vS vL) (RF p vS vL) w w' := by
  have hc := h.cell2
  have hf := h.free 2
  have H := hide h
  clear h
  by_cases h0 : -1 ≤ n
  · have hx : st.fuse n = ⟨st.sure, st.loose, n⟩ := by unfold St.fuse; rw [show max n (-1) = n from by omega]
    rw [hx]
    clear hx
    go_enter Tryd.func24, Tryd.ntmps24
    go_wp2
    go_end0
    exact ⟨⟨_, rfl⟩, H.out.setLeft n, Loc.setCell w ⟨p, 2, none⟩ _ (Or.inl rfl)⟩
  · have hx : st.fuse n = ⟨st.sure, st.loose, -1⟩ := by unfold St.fuse; rw [show max n (-1) = -1 from by omega]
    rw [hx]
    clear hx
    go_enter Tryd.func24, Tryd.ntmps24
    go_wp2
    go_end0
    exact ⟨⟨_, rfl⟩, H.out.setLeft (-1), Loc.setCell w ⟨p, 2, none⟩ _ (Or.inl rfl)⟩
end Go.Proofs.YtiebhdgpnloieaaDoor
