/- The law's own functions letters and uints: what is the same is said to be. -/
import Derived.Test.YtdfioggeiagihaaHand
import Derived.Test.YtdfioggeiagihaaCon
import Derived.Test.YtdfioggeiagihaaRef0
namespace Go.Proofs.Ytdfioggeiagihaa
open Go Go.RowKit

set_option maxHeartbeats 2000000 in
theorem uints_same (a b : Option Addr) (ca cb : Nat) (l : List Nat) (w : World) (h1 : IdsAt w a l) (h2 : IdsAt w b l) (hl : l.length ≤ 140737488351232) :
    Calls Try.prog 29 #[.slice a l.length ca, .slice b l.length cb] w fun e w' => e = .returned (.bool true) ∧ Below w.heap.size w w' := by
  have H1 := hide h1
  have H2 := hide h2
  clear h1 h2
  go_enter Try.func29, Try.ntmps29
  go_wp2_with fail
  go_loopw [5] (fun i u => ∃ k : Nat, k ≤ l.length ∧ i = .int .i64 (k : Int) ∧ Below w.heap.size w u) (fun i _ => l.length - (intOf i).toNat)
  case atStart => exact ⟨0, Nat.zero_le _, rfl, Below.refl _ _⟩
  case round =>
    obtain ⟨k, hk, rfl, hb⟩ := hrel
    have HB := hide hb
    by_cases hlt : k < l.length
    · have hlz : (k : Int) < (l.length : Int) := by omega
      obtain ⟨g1, o1, e1, q1⟩ := (H1.out.old hb).there (by omega)
      obtain ⟨g2, o2, e2, q2⟩ := (H2.out.old hb).there (by omega)
      cases e1
      cases e2
      have c1 := q1 k hlt
      have c2 := q2 k hlt
      clear q1 q2 hb
      generalize l[k] = x at *
      go_wp2_with fail
      go_region
      go_wp2_with fail
      exact ⟨⟨k + 1, hlt, by go_num, below_drewN HB.out 1⟩, by simp [intOf]; omega⟩
    · have hlz : ¬ (k : Int) < (l.length : Int) := by omega
      go_wp2
      go_ret
      exact ⟨rfl, HB.out⟩
theorem eqL (x : Lt) (w : World) : Sem.run Try.prog (Op.equalIn 10000 41 x.val x.val) w = .ok true w := by
  obtain ⟨i, a, b, s, g⟩ := x
  have u1 := Try.underlying29
  have a1 := Try.isAgg29
  have z1 := Try.sizeOf29
  have u2 := Try.underlying3
  have a2 := Try.isAgg3
  have z2 := Try.sizeOf3
  have u3 := Try.underlying9
  have a3 := Try.isAgg9
  have z3 := Try.sizeOf9
  have u4 := Try.underlying2
  have a4 := Try.isAgg2
  have z4 := Try.sizeOf2
  rw [show (10000 : Nat) = 9999 + 1 from rfl, Op.equalIn]
  simp only [Sem.run_bind, run_underlying Try.underlying41, Result.andThen_ok]
  simp only [Lt.val, Lt.cells]
  go_simp
set_option maxHeartbeats 2000000 in
theorem letters_same (a b : Option Addr) (ca cb : Nat) (l : List Lt) (w : World) (h1 : LettersAt w a l) (h2 : LettersAt w b l) (hl : l.length ≤ 140737488351232) :
    Calls Try.prog 27 #[.slice a l.length ca, .slice b l.length cb] w fun e w' => e = .returned (.bool true) ∧ Below w.heap.size w w' := by
  have H1 := hide h1
  have H2 := hide h2
  clear h1 h2
  go_enter Try.func27, Try.ntmps27
  go_wp2_with fail
  go_loopw [5] (fun i u => ∃ k : Nat, k ≤ l.length ∧ i = .int .i64 (k : Int) ∧ Below w.heap.size w u) (fun i _ => l.length - (intOf i).toNat)
  case atStart => exact ⟨0, Nat.zero_le _, rfl, Below.refl _ _⟩
  case round =>
    obtain ⟨k, hk, rfl, hb⟩ := hrel
    have HB := hide hb
    by_cases hlt : k < l.length
    · have hlz : (k : Int) < (l.length : Int) := by omega
      obtain ⟨g1, o1, e1, q1⟩ := (H1.out.old hb).there (by omega)
      obtain ⟨g2, o2, e2, q2⟩ := (H2.out.old hb).there (by omega)
      cases e1
      cases e2
      obtain ⟨c0, c1, c2, c3, c4⟩ := q1 k hlt
      obtain ⟨d0, d1, d2, d3, d4⟩ := q2 k hlt
      have hE := eqL l[k]
      clear q1 q2 hb
      generalize l[k] = x at *
      obtain ⟨xi, xa, xb, xs, xg⟩ := x
      dsimp only [Lt.val, Lt.cells] at *
      go_wp2_with fail
      go_region
      go_wp2_with fail
      exact ⟨⟨k + 1, hlt, by go_num, below_drewN HB.out 1⟩, by simp [intOf]; omega⟩
    · have hlz : ¬ (k : Int) < (l.length : Int) := by omega
      go_wp2
      go_ret
      exact ⟨rfl, HB.out⟩
end Go.Proofs.Ytdfioggeiagihaa
