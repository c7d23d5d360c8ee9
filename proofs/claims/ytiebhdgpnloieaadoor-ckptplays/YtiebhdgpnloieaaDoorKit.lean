/- Small lemmas on worlds. -/
import Derived.Test.YtiebhdgpnloieaaDoorCon
import Derived.Deep.MidRow
namespace Go.Proofs.YtiebhdgpnloieaaDoor
open Go Go.RowKit
theorem new_cell (w : World) (cs : Array Value) (t : TypeId) (i : Nat) {v : Value} (h : cs[i]? = some v) : (w.alloc (.cells cs t)).cell? ⟨w.heap.size, i, none⟩ = some v := by
  have hbox := heap_alloc_last w (.cells cs t)
  unfold World.cell?
  rw [hbox]
  exact h
theorem new_free (w : World) (cs : Array Value) (t : TypeId) (i : Nat) : (w.alloc (.cells cs t)).frozen? ⟨w.heap.size, i, none⟩ = false := by
  have hbox := heap_alloc_last w (.cells cs t)
  unfold World.frozen?
  rw [hbox]
  simp
theorem one_below (w : World) (o : Obj) : Below w.heap.size w (w.alloc o) := (Below.refl _ _).alloc (Nat.le_refl _) _
theorem two_below (w : World) (o p : Obj) : Below w.heap.size w ((w.alloc o).alloc p) := (one_below w o).alloc (by simp) _
theorem Below.drewN' {B : Nat} {w u : World} (h : Below B w u) (n : Nat) : Below B w (u.drewN n) := below_drewN h n
theorem kept_cell {W v : World} (h : Below W.heap.size W v) (b j : Nat) (hb : b < W.heap.size) : v.cell? ⟨b, j, none⟩ = W.cell? ⟨b, j, none⟩ := h.cell (p := ⟨b, j, none⟩) hb
theorem kept_free {W v : World} (h : Below W.heap.size W v) (b j : Nat) (hb : b < W.heap.size) : v.frozen? ⟨b, j, none⟩ = W.frozen? ⟨b, j, none⟩ := h.frozen (p := ⟨b, j, none⟩) hb
end Go.Proofs.YtiebhdgpnloieaaDoor
