/- Joined texts. -/
import Derived.Test.YtchhojkhfdkhfaaGreatDoorP04
import Derived.Deep.MidRow
namespace Go.Proofs.YtchhojkhfdkhfaaGreatDoor
open Go Go.RowKit
theorem new_cell (w : World) (cs : Array Value) (t : TypeId) (i : Nat) {v : Value} (h : cs[i]? = some v) : (w.alloc (.cells cs t)).cell? ⟨w.heap.size,i,none⟩ = some v := by
 have hbox := heap_alloc_last w (.cells cs t)
 unfold World.cell?
 rw [hbox]
 exact h
theorem one_below (w : World) (o : Obj) : Below w.heap.size w (w.alloc o) := (Below.refl _ _).alloc (Nat.le_refl _) _
theorem two_below (w : World) (o p : Obj) : Below w.heap.size w ((w.alloc o).alloc p) := (one_below w o).alloc (by simp) _
theorem kept_cell {W v : World} (h : Below W.heap.size W v) (b j : Nat) (hb : b < W.heap.size) : v.cell? ⟨b,j,none⟩ = W.cell? ⟨b,j,none⟩ := h.cell (p := ⟨b,j,none⟩) hb
end Go.Proofs.YtchhojkhfdkhfaaGreatDoor
