/- What the document's own product does. -/
import Derived.Test.YtklekpbfjcpjlaaRefW
import Derived.Test.YtklekpbfjcpjlaaTimesM
namespace Go.Proofs.Ytklekpbfjcpjlaa
open Go.RowKit

set_option maxHeartbeats 400000 in
theorem rtimes_zero (x n : Int) (h : x = 0 ∨ n = 0) (w : World) :
    Calls Try.prog 36 #[.int .i64 x, .int .i64 n] w fun e w' => e = .returned (.tuple #[.int .i64 (x * n), .bool true]) ∧ w' = w := by
  have e : x * n = 0 := by rcases h with rfl | rfl <;> simp
  rw [e]
  rcases h with rfl | rfl
  · go_enter Try.func36, Try.ntmps36
    go_wp2
    go_ret2
    exact ⟨rfl, rfl⟩
  · by_cases h0 : x = 0
    · subst h0
      go_enter Try.func36, Try.ntmps36
      go_wp2
      go_ret2
      exact ⟨rfl, rfl⟩
    · have hb : (x == 0) = false := by simpa using h0
      go_enter Try.func36, Try.ntmps36
      go_wp2
      go_ret2
      exact ⟨rfl, rfl⟩

/-- The quotient of the product, as it is reckoned. -/
def quo (x n : Int) : Int := wrap64 ((wrap64 (x * n)).tdiv n)
theorem quo_no {x n : Int} (h : ¬ I64 (x * n)) (hi : I64 n) (hn : n ≠ 0) (hq : quo x n = x) : x = -9223372036854775808 ∧ n = -1 := by
  unfold quo at hq
  generalize hP : x * n = P at *
  have hp : ∃ k : Int, wrap64 P = P - 18446744073709551616 * k ∧ k ≠ 0 ∧ -9223372036854775808 ≤ wrap64 P ∧ wrap64 P ≤ 9223372036854775807 := by
    refine ⟨(P + 9223372036854775808) / 18446744073709551616, ?_⟩
    rw [sgn_wrap]
    unfold sgn I64 at *
    omega
  obtain ⟨k, hk, hk0, hl, hu⟩ := hp
  generalize wrap64 P = p at *
  have hd := Int.mul_tdiv_add_tmod p n
  have hm1 : (p.tmod n).natAbs < n.natAbs := by rw [Int.natAbs_tmod]; exact Nat.mod_lt _ (by omega)
  have hqn : (p.tdiv n).natAbs = p.natAbs / n.natAbs := Int.natAbs_tdiv p n
  by_cases hqx : p.tdiv n = x
  · rw [hqx, Int.mul_comm n x, hP] at hd
    generalize p.tmod n = r at *
    unfold I64 at hi
    omega
  · have hle : p.natAbs / n.natAbs ≤ p.natAbs := Nat.div_le_self _ _
    have h1 : n.natAbs = 1 := by
      by_cases h2 : 2 ≤ n.natAbs
      · exfalso
        have h3 : p.natAbs / n.natAbs ≤ p.natAbs / 2 := Nat.div_le_div_left h2 (by decide)
        generalize p.tdiv n = q at *
        rw [sgn_wrap] at hq
        unfold sgn at hq
        omega
      · omega
    have h2 : n = 1 ∨ n = -1 := by omega
    rcases h2 with rfl | rfl
    · exfalso
      rw [Int.tdiv_one] at hq hqx
      rw [sgn_wrap] at hq
      unfold sgn at hq
      omega
    · refine ⟨?_, rfl⟩
      rw [Int.tdiv_neg, Int.tdiv_one] at hq hqx
      rw [sgn_wrap] at hq
      unfold sgn at hq
      omega

set_option maxHeartbeats 400000 in
theorem rtimes_yes (x n : Int) (hx : I64 x) (hf : fit (x * n) = true) (w : World) :
    Calls Try.prog 36 #[.int .i64 x, .int .i64 n] w fun e w' => e = .returned (.tuple #[.int .i64 (x * n), .bool true]) ∧ w' = w := by
  by_cases hz : x = 0 ∨ n = 0
  · exact rtimes_zero x n hz w
  have h0 : (x == 0) = false := by simp; omega
  have h1 : (n == 0) = false := by simp; omega
  have hn0 : n ≠ 0 := by omega
  have e1 : wrap64 (x * n) = x * n := by rw [sgn_wrap]; exact sgn_eq hf
  have e3 : wrap64 x = x := by rw [sgn_wrap]; exact sgn_eq (fit_of hx)
  have hs : ¬ (x = -9223372036854775808 ∧ n = -1) := by
    rintro ⟨rfl, rfl⟩
    have := fit_I64 hf
    unfold I64 at this
    omega
  have ht : ¬ (n = -9223372036854775808 ∧ x = -1) := by
    rintro ⟨rfl, rfl⟩
    have := fit_I64 hf
    unfold I64 at this
    omega
  clear hz hf hx
  cases hx1 : (x == -9223372036854775808) <;> cases hn1 : (n == -9223372036854775808)
  · clear hs ht
    go_enter Try.func36, Try.ntmps36
    go_wp2
    go_ret2
    exact ⟨ret_tup e1, rfl⟩
  · have hx2 : (x == -1) = false := by simp at hn1 ⊢; omega
    clear hs ht
    go_enter Try.func36, Try.ntmps36
    go_wp2
    go_ret2
    exact ⟨ret_tup e1, rfl⟩
  · have hn2 : (n == -1) = false := by simp at hx1 ⊢; omega
    clear hs ht
    go_enter Try.func36, Try.ntmps36
    go_wp2
    go_ret2
    exact ⟨ret_tup e1, rfl⟩
  · have hn2 : (n == -1) = false := by simp at hx1 ⊢; omega
    have hx2 : (x == -1) = false := by simp at hn1 ⊢; omega
    clear hs ht
    go_enter Try.func36, Try.ntmps36
    go_wp2
    go_ret2
    exact ⟨ret_tup e1, rfl⟩

set_option maxHeartbeats 400000 in
theorem rtimes_no (x n : Int) (hx : I64 x) (hn : I64 n) (hf : fit (x * n) = false) (w : World) :
    Calls Try.prog 36 #[.int .i64 x, .int .i64 n] w fun e w' => e = .returned (.tuple #[.int .i64 0, .bool false]) ∧ w' = w := by
  have hz : ¬ I64 (x * n) := fun h => by rw [fit_of h] at hf; cases hf
  have hx0 : x ≠ 0 := by rintro rfl; apply hz; rw [Int.zero_mul]; exact I64_0
  have hn0 : n ≠ 0 := by rintro rfl; apply hz; rw [Int.mul_zero]; exact I64_0
  by_cases hq : quo x n = x
  · obtain ⟨rfl, rfl⟩ := quo_no hz hn hn0 hq
    clear hf hz hq hx hn hx0 hn0
    go_enter Try.func36, Try.ntmps36
    go_wp2
    all_goals (go_ret2; exact ⟨rfl, rfl⟩)
  · unfold quo at hq
    have h0 : (x == 0) = false := by simpa using hx0
    have h1 : (n == 0) = false := by simpa using hn0
    clear hf hz hx hn hx0
    go_enter Try.func36, Try.ntmps36
    go_wp2
    go_ret2
    exact ⟨rfl, rfl⟩
end Go.Proofs.Ytklekpbfjcpjlaa
