/- Boxes of a call's own: a struct that a variable holds. -/
import Derived.Test.YtdfioggeiagihaaObj
import Derived.Deep.WholeRow
namespace Go.Proofs.Ytdfioggeiagihaa
open Go Go.RowKit

/-- Block X holds the cells cs. -/
def Box (v : World) (X : Nat) (cs : Array Value) (T : TypeId) : Prop := v.heap[X]? = some (.cells cs T (0, 0))
theorem Box.lt {v : World} {X : Nat} {cs : Array Value} {T : TypeId} (h : Box v X cs T) : X < v.heap.size := (Array.getElem?_eq_some_iff.1 h).1
theorem Box.same {u v : World} {X : Nat} {cs : Array Value} {T : TypeId} (h : Box u X cs T) (hb : v.heap[X]? = u.heap[X]?) : Box v X cs T := hb.trans h
theorem Box.below {u v : World} {X : Nat} {cs : Array Value} {T : TypeId} (h : Box u X cs T) (hb : Below u.heap.size u v) : Box v X cs T := h.same (hb.block X h.lt)
theorem Box.loc {u v : World} {X : Nat} {cs : Array Value} {T : TypeId} {F F' : Nat → Prop} (h : Box u X cs T) (hl : Loc F F' u v) (hF : ¬ F X) : Box v X cs T := h.same (hl.block X h.lt hF)
theorem Box.new (u : World) (cs : Array Value) (T : TypeId) : Box (u.alloc (.cells cs T)) u.heap.size cs T := heap_alloc_last u (.cells cs T)
theorem Box.get {v : World} {X : Nat} {cs : Array Value} {T : TypeId} (h : Box v X cs T) (i : Nat) {y : Value} (hy : cs[i]? = some y) : v.cell? ⟨X, i, none⟩ = some y := by
  have h' : v.heap[X]? = some (.cells cs T (0, 0)) := h
  simp [World.cell?, h', hy]
theorem Box.free {v : World} {X : Nat} {cs : Array Value} {T : TypeId} (h : Box v X cs T) (i : Nat) : v.frozen? ⟨X, i, none⟩ = false := by
  have h' : v.heap[X]? = some (.cells cs T (0, 0)) := h
  simp [World.frozen?, h']
theorem one_below (u : World) (o : Obj) : Below u.heap.size u (u.alloc o) := (Below.refl _ _).alloc (Nat.le_refl _) o
theorem one_size (u : World) (o : Obj) : (u.alloc o).heap.size = u.heap.size + 1 := World.size_alloc u o
/-- The five cells of a box. -/
theorem Box.five {v : World} {X : Nat} {T : TypeId} {a b c d e : Value} (h : Box v X #[a, b, c, d, e] T) : v.cell? ⟨X, 0, none⟩ = some a ∧ v.cell? ⟨X, 1, none⟩ = some b ∧ v.cell? ⟨X, 2, none⟩ = some c ∧ v.cell? ⟨X, 3, none⟩ = some d ∧ v.cell? ⟨X, 4, none⟩ = some e :=
  ⟨h.get 0 rfl, h.get 1 rfl, h.get 2 rfl, h.get 3 rfl, h.get 4 rfl⟩
end Go.Proofs.Ytdfioggeiagihaa
