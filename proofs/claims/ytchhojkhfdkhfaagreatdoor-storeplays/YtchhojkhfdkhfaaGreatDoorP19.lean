/- Joined texts. -/
import Derived.Test.YtchhojkhfdkhfaaGreatDoorP02
import Derived.Deep.RegionHeld3
namespace Go.Proofs.YtchhojkhfdkhfaaGreatDoor
open Go Go.RowKit
theorem bcell {W w1 : World} (hb : Below W.heap.size W w1) : (∀ b o,b < W.heap.size -> w1.cell? ⟨b,o,none⟩ = W.cell? ⟨b,o,none⟩) /\ (∀ b o,b < W.heap.size -> w1.frozen? ⟨b,o,none⟩ = W.frozen? ⟨b,o,none⟩) :=
 ⟨fun b o h => hb.cell (p := ⟨b,o,none⟩) h,fun b o h => hb.frozen (p := ⟨b,o,none⟩) h⟩

def tv (w : World) (b o : Nat) : Value := (w.cell? ⟨b,o,none⟩).getD undef
theorem tv_some {w : World} {b o : Nat} {v : Value} (h : w.cell? ⟨b,o,none⟩ = some v) : w.cell? ⟨b,o,none⟩ = some (tv w b o) := by
 unfold tv; rw [h]; rfl

def Kp (n k : Nat) (W w' : World) : Prop := (∀ b o,b < n -> w'.cell? ⟨b,o,none⟩ = W.cell? ⟨b,o,none⟩) /\ (∀ b o,b < n + 1 -> w'.frozen? ⟨b,o,none⟩ = W.frozen? ⟨b,o,none⟩) /\
 (∀ o,o < k -> w'.cell? ⟨n,o,none⟩ = some (tv w' n o)) /\ n + 1 <= w'.heap.size /\ Below n W w'

theorem Kp.start {n k : Nat} {W : World} (hn : n + 1 <= W.heap.size) (hk : ∀ o,o < k -> ∃ v,W.cell? ⟨n,o,none⟩ = some v) : Kp n k W W.drew :=
 ⟨fun _ _ _ => rfl,fun _ _ _ => rfl,fun o ho => by obtain ⟨v,hv⟩ := hk o ho; exact tv_some (v := v) hv,hn,(Below.refl _ _).drew⟩
theorem new_cells (w : World) (c : Array Value) (t : TypeId) {n : Nat} (hn : n = w.heap.size) (o : Nat) (ho : o < c.size) : ∃ v,(w.alloc (.cells c t)).cell? ⟨n,o,none⟩ = some v := by
 subst hn
 refine ⟨c[o],?_⟩
 have h : (w.alloc (.cells c t)).heap[w.heap.size]? = some (.cells c t) := by show (w.heap.push _)[w.heap.size]? = _; simp
 unfold World.cell?; rw [h]; simp [ho]
theorem Kp.begin {n k : Nat} {w : World} {c : Array Value} {t : TypeId} (hn : n = w.heap.size) (hk : k <= c.size) : Kp n k (w.alloc (.cells c t)) (w.alloc (.cells c t)).drew :=
 Kp.start (by rw [hn]; simp) (fun o ho => new_cells w c t hn o (by omega))
theorem Kp.call {n k : Nat} {W W1 w' : World} (h : Kp n k W W1) (hb : Below W1.heap.size W1 w') : Kp n k W w' :=
 ⟨fun b o hlt => ((bcell hb).1 b o (by have := h.2.2.2.1; omega)).trans (h.1 b o hlt),fun b o hlt => ((bcell hb).2 b o (by have := h.2.2.2.1; omega)).trans (h.2.1 b o hlt),
   fun o ho => tv_some (((bcell hb).1 n o (by have := h.2.2.2.1; omega)).trans (h.2.2.1 o ho)),Nat.le_trans h.2.2.2.1 hb.size,h.2.2.2.2.trans (hb.mono (by have := h.2.2.2.1; omega))⟩
theorem cell_set_ne (w : World) (b o c p : Nat) (v : Value) (h : b ≠ c) : (w.setCell ⟨c,p,none⟩ v).cell? ⟨b,o,none⟩ = w.cell? ⟨b,o,none⟩ :=
 World.cell?_of_block (w := w) (Below.heap_setCell w ⟨c,p,none⟩ v b h)
theorem Kp.set {n k : Nat} {W W1 : World} (h : Kp n k W W1) (p : Nat) (v : Value) : Kp n k W (W1.setCell ⟨n,p,none⟩ v) :=
 ⟨fun b o hlt => (cell_set_ne W1 b o n p v (by omega)).trans (h.1 b o hlt),fun b o hlt => by rw [World.frozen?_setCell]; exact h.2.1 b o hlt,
   fun o ho => by
     obtain ⟨u,hu⟩ := cell?_setCell_some (w := W1) (p := ⟨n,p,none⟩) (x := v) (q := ⟨n,o,none⟩) (h.2.2.1 o ho)
     exact tv_some hu,by simpa [World.setCell] using h.2.2.2.1,h.2.2.2.2.setCell (Nat.le_refl _) v⟩
theorem Kp.alloc {n k : Nat} {W u : World} (h : Kp n k W u) (o : Obj) : Kp n k W (u.alloc o) := h.call ((Below.refl _ _).alloc (Nat.le_refl _) _)
theorem Kp.out {n k : Nat} {w W u : World} (h : Kp n k W u) (hn : w.heap.size <= n) (hW : Below w.heap.size w W) : Below w.heap.size w u := hW.trans (h.2.2.2.2.mono hn)
theorem grow1 (w : World) (o1 : Obj) : Below w.heap.size w (w.alloc o1) := (Below.refl _ _).alloc (Nat.le_refl _) _
theorem grow2 (w : World) (o1 o2 : Obj) : Below w.heap.size w ((w.alloc o1).alloc o2) := (grow1 w o1).alloc (by simp) _
theorem grow3 (w : World) (o1 o2 o3 : Obj) : Below w.heap.size w (((w.alloc o1).alloc o2).alloc o3) := (grow2 w o1 o2).alloc (by simp; omega) _
end Go.Proofs.YtchhojkhfdkhfaaGreatDoor
