/- Lists of numbers. -/
import Derived.Test.YtchhojkhfdkhfaaGreatDoorK04
import Derived.Laws.AppendOwnNone
namespace Go.Proofs.YtchhojkhfdkhfaaGreatDoor
open Go Go.RowKit
theorem ints_of_own {w : World} {base : Nat} {v : Value} {l : List Int} (h : w.ownsRow base 3 1 v l.length (l.map (Value.int .i64))) : ∃ a c, v = .slice a l.length c ∧ IntsAt w a l ∧ (∀ b off, a = some ⟨b, off, none⟩ → base ≤ b) := by
  have h0 := h
  rcases h.2 with ⟨rfl, hz⟩ | ⟨g, cap, cur, rfl, h1, hg, hr⟩
  · have hl : l = [] := List.length_eq_zero_iff.1 hz
    subst hl
    exact ⟨none, 0, rfl, Or.inl rfl, fun b off e => by cases e⟩
  · refine ⟨_, cap, rfl, Or.inr ⟨g, 0, rfl, fun j hj => ?_⟩, fun b off e => by cases e; exact h1⟩
    rw [Nat.zero_add, World.ownsRow.cellAt h0 j (by omega)]
    simp [hj]
theorem info3 : (Tryz.prog.info? 3).map (fun i => (i.zero, i.size, i.bytes)) = some (some (.int .i64 0), 1, 8) := by kernel_rfl
end Go.Proofs.YtchhojkhfdkhfaaGreatDoor
