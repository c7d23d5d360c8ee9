/- Rows of records of one's own. -/
import Derived.Test.YtdfioggeiagihaaObj
import Derived.Deep.WholeRow
import Derived.Maps.AppendAt
namespace Go.Proofs.Ytdfioggeiagihaa
open Go Go.RowKit

theorem row_type {w : World} {base : Nat} {e : TypeId} {size n : Nat} {v : Value} {xs : List Value} (h : w.ownsRow base e size v n xs) {g : Nat} (hg : v.ownBlock = some g) : ∃ cur, w.heap[g]? = some (.cells cur e (0, 0)) := by
  rcases h.2 with ⟨rfl, _⟩ | ⟨g', cap, cur, rfl, h1, hg', hr⟩
  · cases hg
  · simp [Value.ownBlock] at hg
    subst hg
    exact ⟨cur, hg'⟩
theorem slice_of {w : World} {base : Nat} {e : TypeId} {size n : Nat} {v : Value} {xs : List Value} (h : w.ownsRow base e size v n xs) : ∃ a c, v = .slice a n c ∧ n ≤ c ∧ (a = none → c = 0) ∧ (∀ x, a = some x → ∃ g, x = ⟨g, 0, none⟩ ∧ v.ownBlock = some g) := by
  rcases h.2 with ⟨rfl, h0⟩ | ⟨g, cap, cur, rfl, h1, hg, hn, _⟩
  · exact ⟨none, 0, by rw [h0], by omega, fun _ => rfl, fun _ h => by cases h⟩
  · exact ⟨_, cap, rfl, hn, (fun h => by cases h), fun x hx => ⟨g, (Option.some.inj hx).symm, rfl⟩⟩
theorem heap_setAt {u : World} {p i : Nat} {cs : Array Value} {t : TypeId} (h : u.heap[p]? = some (.cells cs t (0, 0))) (v : Value) : (u.setCell ⟨p, i, none⟩ v).heap[p]? = some (.cells (cs.setIfInBounds i v) t (0, 0)) := by
  rw [setCell_eq_setRow u p i cs t (0, 0) v h]
  exact setRow_heap u p cs _ t _ h
theorem flat_len {α : Type} {f : α → List Value} {s : Nat} (hf : ∀ x, (f x).length = s) : ∀ l : List α, (l.flatMap f).length = l.length * s
  | [] => by simp
  | x :: l => by rw [List.flatMap_cons, List.length_append, hf, flat_len hf l, List.length_cons, Nat.add_mul, Nat.one_mul, Nat.add_comm]
theorem flat_at {α : Type} {f : α → List Value} {s : Nat} (hf : ∀ x, (f x).length = s) : ∀ (l : List α) (k i : Nat) (hk : k < l.length), i < s → (l.flatMap f)[k * s + i]? = (f l[k])[i]?
  | [], _, _, h, _ => absurd h (by simp)
  | x :: l, 0, i, _, hi => by rw [List.flatMap_cons, Nat.zero_mul, Nat.zero_add, List.getElem?_append_left (by rw [hf]; exact hi)]; rfl
  | x :: l, k + 1, i, hk, hi => by
    have ih := flat_at hf l k i (by simpa using hk) hi
    rw [List.flatMap_cons, List.getElem?_append_right (by rw [hf, Nat.add_mul, Nat.one_mul]; omega), hf, show (k + 1) * s + i - s = k * s + i from by rw [Nat.add_mul, Nat.one_mul]; omega, ih]
    rfl
/-- v is a row of records of one's own: each has s cells, f says which. -/
def Recs {α : Type} (u : World) (e : TypeId) (s : Nat) (f : α → List Value) (v : Value) (l : List α) : Prop := u.ownsRow 0 e s v l.length (l.flatMap f)
theorem Recs.nil {α : Type} (u : World) (e : TypeId) (s : Nat) (f : α → List Value) : Recs u e s f (.slice none 0 0) [] := World.ownsRow_nil _ _ _ _
theorem Recs.lt {α : Type} {u : World} {e : TypeId} {s : Nat} {f : α → List Value} {v : Value} {l : List α} (h : Recs u e s f v l) {g : Nat} (hg : v.ownBlock = some g) : g < u.heap.size := own_lt h hg
theorem Recs.same {α : Type} {u u' : World} {e : TypeId} {s : Nat} {f : α → List Value} {v : Value} {l : List α} (h : Recs u e s f v l) (hb : ∀ g, v.ownBlock = some g → u'.heap[g]? = u.heap[g]?) : Recs u' e s f v l := own_same h hb
theorem Recs.below {α : Type} {u u' : World} {e : TypeId} {s : Nat} {f : α → List Value} {v : Value} {l : List α} (h : Recs u e s f v l) (hb : Below u.heap.size u u') : Recs u' e s f v l := h.same (fun g hg => hb.block g (h.lt hg))
theorem Recs.slice {α : Type} {u : World} {e : TypeId} {s : Nat} {f : α → List Value} {v : Value} {l : List α} (h : Recs u e s f v l) : ∃ a c, v = .slice a l.length c ∧ l.length ≤ c ∧ (a = none → c = 0) ∧ (∀ x, a = some x → ∃ g, x = ⟨g, 0, none⟩ ∧ v.ownBlock = some g) := slice_of h
/-- A row with something in it has a block; its cells. -/
theorem Recs.there {α : Type} {u : World} {e : TypeId} {s : Nat} {f : α → List Value} {v : Value} {l : List α} (h : Recs u e s f v l) (hf : ∀ x, (f x).length = s) (hl : 0 < l.length) : ∃ g c, v = .slice (some ⟨g, 0, none⟩) l.length c ∧ l.length ≤ c ∧ v.ownBlock = some g ∧
    (∀ k i (hk : k < l.length), i < s → u.cell? ⟨g, k * s + i, none⟩ = (f l[k])[i]?) ∧ ∀ i, u.frozen? ⟨g, i, none⟩ = false := by
  rcases h.2 with ⟨h1, h2⟩ | ⟨g, cap, cur, h1, hr⟩
  · omega
  · subst h1
    refine ⟨g, cap, rfl, hr.2.2.1, rfl, fun k i hk hi => ?_, fun i => World.ownsRow.frozenAt h i⟩
    rw [World.ownsRow.cellAt h (k * s + i) (by
      have : (k + 1) * s ≤ l.length * s := Nat.mul_le_mul_right s hk
      rw [Nat.add_mul, Nat.one_mul] at this
      omega), flat_at hf l k i hk hi]
end Go.Proofs.Ytdfioggeiagihaa
