/- Boxes of a call's own: a struct that a variable holds. -/
import Derived.Test.YtmpabcojdkpiaaaObj
import Derived.Deep.WholeRow
namespace Go.Proofs.Ytmpabcojdkpiaaa
open Go Go.RowKit

/-- Block X holds the cells cs. -/
def Box (v : World) (X : Nat) (cs : Array Value) (T : TypeId) : Prop := v.heap[X]? = some (.cells cs T (0, 0))
theorem Box.lt {v : World} {X : Nat} {cs : Array Value} {T : TypeId} (h : Box v X cs T) : X < v.heap.size := (Array.getElem?_eq_some_iff.1 h).1
theorem Box.same {u v : World} {X : Nat} {cs : Array Value} {T : TypeId} (h : Box u X cs T) (hb : v.heap[X]? = u.heap[X]?) : Box v X cs T := hb.trans h
theorem Box.below {u v : World} {X : Nat} {cs : Array Value} {T : TypeId} (h : Box u X cs T) (hb : Below u.heap.size u v) : Box v X cs T := h.same (hb.block X h.lt)
theorem Box.loc {u v : World} {X : Nat} {cs : Array Value} {T : TypeId} {F F' : Nat → Prop} (h : Box u X cs T) (hl : Loc F F' u v) (hF : ¬ F X) : Box v X cs T := h.same (hl.block X h.lt hF)
theorem Box.new (u : World) (cs : Array Value) (T : TypeId) : Box (u.alloc (.cells cs T)) u.heap.size cs T := heap_alloc_last u (.cells cs T)
theorem Box.get {v : World} {X : Nat} {cs : Array Value} {T : TypeId} (h : Box v X cs T) (i : Nat) {y : Value} (hy : cs[i]? = some y) : v.cell? ⟨X, i, none⟩ = some y := by
  have h' : v.heap[X]? = some (.cells cs T (0, 0)) := h
  simp [World.cell?, h', hy]
theorem Box.free {v : World} {X : Nat} {cs : Array Value} {T : TypeId} (h : Box v X cs T) (i : Nat) : v.frozen? ⟨X, i, none⟩ = false := by
  have h' : v.heap[X]? = some (.cells cs T (0, 0)) := h
  simp [World.frozen?, h']
theorem one_below (u : World) (o : Obj) : Below u.heap.size u (u.alloc o) := (Below.refl _ _).alloc (Nat.le_refl _) o
theorem one_size (u : World) (o : Obj) : (u.alloc o).heap.size = u.heap.size + 1 := World.size_alloc u o
theorem heap_setAt {u : World} {p i : Nat} {cs : Array Value} {t : TypeId} (h : u.heap[p]? = some (.cells cs t (0, 0))) (v : Value) : (u.setCell ⟨p, i, none⟩ v).heap[p]? = some (.cells (cs.setIfInBounds i v) t (0, 0)) := by
  rw [setCell_eq_setRow u p i cs t (0, 0) v h]
  exact setRow_heap u p cs _ t _ h
/-- The two cells of a box. -/
theorem Box.two {v : World} {X : Nat} {T : TypeId} {a b : Value} (h : Box v X #[a, b] T) : v.cell? ⟨X, 0, none⟩ = some a ∧ v.cell? ⟨X, 1, none⟩ = some b :=
  ⟨h.get 0 rfl, h.get 1 rfl⟩
theorem Box.put0 {u : World} {X : Nat} {T : TypeId} {a0 b : Value} (h : Box u X #[a0, b] T) (a : Value) : Box (u.setCell ⟨X, 0, none⟩ a) X #[a, b] T := by
  show (u.setCell ⟨X, 0, none⟩ a).heap[X]? = _
  rw [heap_setAt h]
  rfl
theorem Box.put {u : World} {X : Nat} {T : TypeId} {a0 b0 : Value} (h : Box u X #[a0, b0] T) (a b : Value) : Box ((u.setCell ⟨X, 0, none⟩ a).setCell ⟨X, 1, none⟩ b) X #[a, b] T := by
  have h1 := h.put0 a
  show ((u.setCell ⟨X, 0, none⟩ a).setCell ⟨X, 1, none⟩ b).heap[X]? = _
  rw [heap_setAt h1]
  rfl
theorem Box.other {u : World} {X : Nat} {cs : Array Value} {T : TypeId} (h : Box u X cs T) (p : Addr) (a : Value) (hp : X ≠ p.block) : Box (u.setCell p a) X cs T := h.same (Below.heap_setCell u p a X hp)
theorem two_below (u : World) (o o' : Obj) : Below u.heap.size u ((u.alloc o).alloc o') := (one_below u o).trans ((one_below _ o').mono (one_below u o).size)
theorem three_below (u : World) (o o' o'' : Obj) : Below u.heap.size u (((u.alloc o).alloc o').alloc o'') := (two_below u o o').trans ((one_below _ o'').mono (two_below u o o').size)
/-- A struct stored whole. -/
def put2 (w : World) (R : Nat) (a b : Value) : World := (w.setCell ⟨R, 0, none⟩ a).setCell ⟨R, 1, none⟩ b
theorem Box.put2 {u : World} {X : Nat} {T : TypeId} {a0 b0 : Value} (h : Box u X #[a0, b0] T) (a b : Value) : Box (put2 u X a b) X #[a, b] T := h.put a b
theorem put2_below {B : Nat} {w v : World} (h : Below B w v) {R : Nat} (hR : B ≤ R) (a b : Value) : Below B w (put2 v R a b) := (h.setCell hR a).setCell hR b
theorem put2_other {u : World} {X R : Nat} {cs : Array Value} {T : TypeId} (h : Box u X cs T) (a b : Value) (hp : X ≠ R) : Box (put2 u R a b) X cs T := (h.other _ a hp).other _ b hp
end Go.Proofs.Ytmpabcojdkpiaaa
