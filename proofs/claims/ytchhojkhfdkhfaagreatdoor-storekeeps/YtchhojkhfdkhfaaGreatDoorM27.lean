/- The program's checkpoints: its small functions. -/
import Derived.Test.YtchhojkhfdkhfaaGreatDoorM15
import Derived.Test.YtchhojkhfdkhfaaGreatDoorM19
import Derived.Test.YtchhojkhfdkhfaaGreatDoorM00
import Derived.Laws.BitsAllLaws
namespace Go.Proofs.YtchhojkhfdkhfaaGreatDoor
open Go Go.RowKit Frm
theorem tmod2 {n : Int} (h : 0 ≤ n) : Int.tmod n 2 = n % 2 := Int.tmod_eq_emod_of_nonneg h
theorem tdiv2 {n : Int} (h : 0 ≤ n) : Int.tdiv n 2 = n / 2 := Int.tdiv_eq_ediv_of_nonneg h
set_option maxHeartbeats 400000 in
theorem room_any7 (n : Int) (w : World) (hn : -9223372036854775808 ≤ n ∧ n ≤ 9223372036854775807) :
    Calls Tryz.prog 87 #[.int .i64 n] w fun e w' => e = .returned (.int .i64 (room n)) ∧ w' = w := by
  by_cases h1 : n < 4
  · have hr : room n = 0 := by unfold room; rw [if_pos (Or.inl h1)]
    rw [hr]
    have HN := hide hn
    clear hn hr
    go_enter Tryz.func87, Tryz.ntmps87
    go_wp2
    go_ret
    exact ⟨rfl, rfl⟩
  · by_cases h2 : 4096 < n
    · have hr : room n = 0 := by unfold room; rw [if_pos (Or.inr (Or.inl h2))]
      rw [hr]
      have HN := hide hn
      clear hn hr
      go_enter Tryz.func87, Tryz.ntmps87
      go_wp2
      go_ret
      exact ⟨rfl, rfl⟩
    · have ht := tmod2 (n := n) (by omega)
      have hq := tdiv2 (n := n) (by omega)
      by_cases h3 : n % 2 = 0
      · have hr : room n = (n / 2 - 1) * 256 := by unfold room; rw [if_neg (by omega)]
        have hw1 : wrap64 (n / 2) = n / 2 := by unfold wrap64; omega
        have hw2 : wrap64 (n / 2 - 1) = n / 2 - 1 := by unfold wrap64; omega
        have hw3 : wrap64 ((n / 2 - 1) * 256) = (n / 2 - 1) * 256 := by unfold wrap64; omega
        rw [hr]
        have HN := hide hn
        clear hn hr
        go_enter Tryz.func87, Tryz.ntmps87
        go_wp2
        go_ret
        exact ⟨rfl, rfl⟩
      · have hr : room n = 0 := by unfold room; rw [if_pos (Or.inr (Or.inr h3))]
        rw [hr]
        have HN := hide hn
        clear hn hr
        go_enter Tryz.func87, Tryz.ntmps87
        go_wp2
        go_ret
        exact ⟨rfl, rfl⟩
set_option maxHeartbeats 400000 in
theorem mayBe_any (g : Nat) (w : World) :
    Calls Tryz.prog 107 #[.int .u64 (g : Int)] w fun e w' => e = .returned (.bool (decide (1 ≤ g ∧ g ≤ 4611686018427387904))) ∧ w' = w := by
  by_cases h1 : 1 ≤ g
  · by_cases h2 : g ≤ 4611686018427387904
    · have hd : decide (1 ≤ g ∧ g ≤ 4611686018427387904) = true := decide_eq_true ⟨h1, h2⟩
      rw [hd]
      have h1' : (1 : Int) ≤ (g : Int) := by omega
      have h2' : (g : Int) ≤ 4611686018427387904 := by omega
      clear hd h1 h2
      go_enter Tryz.func107, Tryz.ntmps107
      go_wp2
      go_ret
      exact ⟨rfl, rfl⟩
    · have hd : decide (1 ≤ g ∧ g ≤ 4611686018427387904) = false := decide_eq_false (fun h => h2 h.2)
      rw [hd]
      have h1' : (1 : Int) ≤ (g : Int) := by omega
      have h2' : ¬ (g : Int) ≤ 4611686018427387904 := by omega
      clear hd h1 h2
      go_enter Tryz.func107, Tryz.ntmps107
      go_wp2
      go_ret
      exact ⟨rfl, rfl⟩
  · have hd : decide (1 ≤ g ∧ g ≤ 4611686018427387904) = false := decide_eq_false (fun h => h1 h.1)
    rw [hd]
    have h1' : ¬ (1 : Int) ≤ (g : Int) := by omega
    clear hd h1
    go_enter Tryz.func107, Tryz.ntmps107
    go_wp2
    go_ret
    exact ⟨rfl, rfl⟩
set_option maxHeartbeats 400000 in
theorem blocksFor_any (n : Nat) (w : World) (hn : n ≤ 281474976710656) :
    Calls Tryz.prog 115 #[.int .i64 (n : Int)] w fun e w' => e = .returned (.int .i64 ((nb n : Nat) : Int)) ∧ w' = w := by
  have h1 : wrap64 ((n : Int) + 256) = (n : Int) + 256 := by unfold wrap64; omega
  have h2 : wrap64 ((n : Int) + 256 - 1) = (n : Int) + 255 := by unfold wrap64; omega
  have h3 : Int.tdiv ((n : Int) + 255) 256 = ((nb n : Nat) : Int) := by rw [Int.tdiv_eq_ediv_of_nonneg (by omega)]; unfold nb; omega
  have h4 : wrap64 ((nb n : Nat) : Int) = ((nb n : Nat) : Int) := by unfold nb wrap64; omega
  generalize nb n = k at *
  have HN := hide hn
  clear hn
  go_enter Tryz.func115, Tryz.ntmps115
  go_wp2
  go_ret
  exact ⟨congrArg (fun x => Ending.returned (.int .i64 x)) h4, rfl⟩
end Go.Proofs.YtchhojkhfdkhfaaGreatDoor
