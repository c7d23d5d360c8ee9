/- Where a vec lies, behind calls that make blocks of their own. -/
import Derived.Test.YtklekpbfjcpjlaaNarrow
namespace Go.Proofs.Ytklekpbfjcpjlaa
open Go.RowKit

/-- Block p of u holds this vec. -/
def H3 (p : Nat) (a b c : Int) (u : World) : Prop := u.cell? ⟨p, 0, none⟩ = some (.int .i64 a) ∧ u.cell? ⟨p, 1, none⟩ = some (.int .i64 b) ∧ u.cell? ⟨p, 2, none⟩ = some (.int .i64 c) ∧ p < u.heap.size
theorem H3.call {p : Nat} {a b c : Int} {u u' : World} (h : H3 p a b c u) (hb : Below u.heap.size u u') : H3 p a b c u' :=
  ⟨((bcell hb).1 _ _ h.2.2.2).trans h.1, ((bcell hb).1 _ _ h.2.2.2).trans h.2.1, ((bcell hb).1 _ _ h.2.2.2).trans h.2.2.1, Nat.lt_of_lt_of_le h.2.2.2 hb.size⟩
theorem H3.alloc {p : Nat} {a b c : Int} {u : World} (h : H3 p a b c u) (o : Obj) : H3 p a b c (u.alloc o) := h.call ((Below.refl _ _).alloc (Nat.le_refl _) _)
theorem H3.drew {p : Nat} {a b c : Int} {u : World} (h : H3 p a b c u) : H3 p a b c u.drew := h
theorem H3.new (u : World) (a b c : Int) (t : TypeId) {p : Nat} (hp : p = u.heap.size) : H3 p a b c (u.alloc (.cells #[.int .i64 a, .int .i64 b, .int .i64 c] t)) := by
  subst hp
  exact ⟨by simp [go_sem], by simp [go_sem], by simp [go_sem], by simp⟩
theorem nv_form (x y z : Int) : ∃ a b c e : Int, nv x y z = .tuple #[.agg #[.int .i64 a, .int .i64 b, .int .i64 c], .int .i64 e] := by
  unfold nv V3
  by_cases h : (fit x && fit y && fit z) = true
  · rw [if_pos h]; exact ⟨_, _, _, _, rfl⟩
  · rw [if_neg h]; exact ⟨_, _, _, _, rfl⟩
end Go.Proofs.Ytklekpbfjcpjlaa
