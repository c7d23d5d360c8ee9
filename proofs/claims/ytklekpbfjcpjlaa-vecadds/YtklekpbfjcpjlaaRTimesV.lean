/- What the document's own Times does. -/
import Derived.Test.YtklekpbfjcpjlaaTimesV
import Derived.Test.YtklekpbfjcpjlaaRTimes
namespace Go.Proofs.Ytklekpbfjcpjlaa
open Go.RowKit

set_option maxHeartbeats 1000000 in
theorem RTimes_core (x0 x1 x2 n v0 v1 v2 : Int) (b0 b1 b2 : Bool) (w : World)
    (h0 : ∀ u, Calls Try.prog 36 #[.int .i64 x0, .int .i64 n] u fun e w' => e = .returned (.tuple #[.int .i64 v0, .bool b0]) ∧ w' = u)
    (h1 : ∀ u, Calls Try.prog 36 #[.int .i64 x1, .int .i64 n] u fun e w' => e = .returned (.tuple #[.int .i64 v1, .bool b1]) ∧ w' = u)
    (h2 : ∀ u, Calls Try.prog 36 #[.int .i64 x2, .int .i64 n] u fun e w' => e = .returned (.tuple #[.int .i64 v2, .bool b2]) ∧ w' = u) :
    Calls Try.prog 13 #[V3 x0 x1 x2, .int .i64 n] w fun e w' =>
      e = .returned (if (b0 && b1 && b2) = true then .tuple #[V3 v0 v1 v2, .int .i64 0] else .tuple #[V3 0 0 0, .int .i64 9]) ∧ Below w.heap.size w w' := by
  have H0 := hide h0; have H1 := hide h1; have H2 := hide h2
  clear h0 h1 h2
  unfold V3
  cases b0 <;> cases b1 <;> cases b2
  all_goals
    go_enter Try.func13, Try.ntmps13
    go_wp2_with fail
    refine (H0.out _).mono ?_
    rintro e w1 ⟨rfl, rfl⟩
    go_wp2_with fail
    refine (H1.out _).mono ?_
    rintro e w2 ⟨rfl, rfl⟩
    go_wp2_with fail
    refine (H2.out _).mono ?_
    rintro e w3 ⟨rfl, rfl⟩
    go_wp2
    refine bodyPost_ret (v := _) ?_ rfl ⟨rfl, grow2 w _ _⟩
    simp [results, Try.results13, go_sem]

theorem RTimes_any (x0 x1 x2 n : Int) (h : I64 x0 ∧ I64 x1 ∧ I64 x2 ∧ I64 n) (w : World) :
    Calls Try.prog 13 #[V3 x0 x1 x2, .int .i64 n] w fun e w' => e = .returned (nv (x0 * n) (x1 * n) (x2 * n)) ∧ Below w.heap.size w w' := by
  have k : ∀ t : Int, I64 t → ∃ v : Int, (fit (t * n) = true → v = t * n) ∧ ∀ u, Calls Try.prog 36 #[.int .i64 t, .int .i64 n] u fun e w' => e = .returned (.tuple #[.int .i64 v, .bool (fit (t * n))]) ∧ w' = u := by
    intro t ht
    cases hf : fit (t * n)
    · exact ⟨0, fun h => (by cases h), fun u => rtimes_no t n ht h.2.2.2 hf u⟩
    · exact ⟨t * n, fun _ => rfl, fun u => rtimes_yes t n ht hf u⟩
  obtain ⟨v0, e0, k0⟩ := k x0 h.1
  obtain ⟨v1, e1, k1⟩ := k x1 h.2.1
  obtain ⟨v2, e2, k2⟩ := k x2 h.2.2.1
  have h := RTimes_core x0 x1 x2 n v0 v1 v2 (fit (x0 * n)) (fit (x1 * n)) (fit (x2 * n)) w k0 k1 k2
  have e : (if (fit (x0 * n) && fit (x1 * n) && fit (x2 * n)) = true then Value.tuple #[V3 v0 v1 v2, .int .i64 0] else .tuple #[V3 0 0 0, .int .i64 9]) = nv (x0 * n) (x1 * n) (x2 * n) := by
    unfold nv
    by_cases hh : (fit (x0 * n) && fit (x1 * n) && fit (x2 * n)) = true
    · rw [if_pos hh, if_pos hh]
      have hq := Bool.and_eq_true_iff.1 hh
      have hp := Bool.and_eq_true_iff.1 hq.1
      rw [e0 hp.1, e1 hp.2, e2 hq.2]
    · rw [if_neg hh, if_neg hh]
  rw [e] at h
  exact h
end Go.Proofs.Ytklekpbfjcpjlaa
