/- The document's own functions: Majority, Quorum. -/
import Derived.Test.YtmpabcojdkpiaaaRefA
namespace Go.Proofs.Ytmpabcojdkpiaaa
open Go Go.RowKit

set_option maxHeartbeats 1000000 in
theorem rMajority (n : Nat) (u : World) (h1 : 1 ≤ n) (h7 : n ≤ 7) : Calls Try.prog 16 #[.int .i64 (n : Int)] u fun e v => e = .returned (.int .i64 ((n : Int) / 2 + 1)) ∧ v = u := by
  go_enter Try.func16, Try.ntmps16
  go_wp2_with fail
  go_loop [3] (fun i => ∃ k : Nat, k ≤ n / 2 + 1 ∧ i = .int .i64 (k : Int)) (fun i => n / 2 + 1 - (intOf i).toNat)
  case atStart => exact ⟨0, Nat.zero_le _, rfl⟩
  case round =>
    obtain ⟨k, hk, rfl⟩ := hrel
    by_cases hlt : 2 * k ≤ n
    · go_wp2
      go_round
      case rel => exact ⟨k + 1, by omega, by go_num⟩
      case measure => simp [intOf]; omega
    · have hk2 : Hid ((k : Int) = (n : Int) / 2 + 1) := by unfold Hid; omega
      have hlt2 : (n : Int) < 2 * (k : Int) := by omega
      clear hlt
      go_wp2
      go_ret
      exact ⟨by rw [← hk2.out]; rfl, rfl⟩
theorem take_has (l : List Int) (j : Nat) (i : Int) (hj : j < l.length) : decide (i ∈ l.take (j + 1)) = (decide (i ∈ l.take j) || (l[j] == i)) := by
  rw [Bool.eq_iff_iff, List.take_succ_eq_append_getElem hj, decide_eq_true_iff, List.mem_append, List.mem_singleton, Bool.or_eq_true, decide_eq_true_iff, beq_iff_eq]
  exact or_congr Iff.rfl eq_comm
theorem named_next (l : List Int) (i : Nat) : named l (i + 1) = named l i + if (i : Int) ∈ l then 1 else 0 := rfl
set_option maxHeartbeats 2000000 in
theorem rQuorum (a : Option Addr) (c : Nat) (l : List Int) (n : Nat) (u : World) (ha : IntsAt u a l) (hl : l.length ≤ 1000) (h1 : 1 ≤ n) (h7 : n ≤ 7) : Calls Try.prog 17 #[.slice a l.length c, .int .i64 (n : Int)] u fun e v => e = .returned (.bool (decide (n / 2 + 1 ≤ named l n))) ∧ v = u := by
  have HA := hide ha
  have HM := hide (rMajority n u h1 h7)
  clear ha
  go_enter Try.func17, Try.ntmps17
  go_wp2_with fail
  go_loop [5, 6, 7, 8] (fun k i h j => ∃ x : Nat, x ≤ n ∧ i = .int .i64 (x : Int) ∧ k = .int .i64 ((named l x : Nat) : Int)) (fun k i h j => n - (intOf i).toNat)
  case atStart => exact ⟨0, Nat.zero_le _, rfl, rfl⟩
  case round =>
    obtain ⟨x, hx, rfl, rfl⟩ := hrel
    have hle := named_le l x
    by_cases hlt : x < n
    · have HN := hide (named_next l x)
      generalize named l x = N at *
      go_wp2_with fail
      go_loop [7, 8] (fun h j => ∃ y : Nat, y ≤ l.length ∧ j = .int .i64 (y : Int) ∧ h = .bool (decide ((x : Int) ∈ l.take y))) (fun h j => l.length - (intOf j).toNat)
      case atStart => exact ⟨0, Nat.zero_le _, rfl, by simp⟩
      case round =>
        obtain ⟨y, hy, rfl, rfl⟩ := hrel
        by_cases hlt2 : y < l.length
        · have HT := hide (take_has l y x hlt2)
          obtain ⟨b, off, e', hc⟩ := HA.out.there (by omega)
          subst e'
          have c0 := hc y hlt2
          clear hc
          generalize l[y] = V at *
          cases hd : decide ((x : Int) ∈ l.take y) with
          | true =>
            rw [hd] at HT
            go_wp2
            go_round
            case rel => exact ⟨y + 1, hlt2, by go_num, by rw [HT.out]; rfl⟩
            case measure => simp [intOf]; omega
          | false =>
            rw [hd] at HT
            go_wp2
            go_round
            case rel => exact ⟨y + 1, hlt2, by go_num, by rw [HT.out]; rfl⟩
            case measure => simp [intOf]; omega
        · have hy2 : y = l.length := by omega
          subst hy2
          rw [List.take_length]
          by_cases hm : (x : Int) ∈ l
          · rw [decide_eq_true hm]
            rw [if_pos hm] at HN
            go_wp2
            go_round
            case rel => exact ⟨x + 1, hlt, by go_num, by rw [HN.out]; go_num⟩
            case measure => simp [intOf]; omega
          · rw [decide_eq_false hm]
            rw [if_neg hm] at HN
            go_wp2
            go_round
            case rel => exact ⟨x + 1, hlt, by go_num, by rw [HN.out]; rfl⟩
            case measure => simp [intOf]; omega
    · have hx2 : x = n := by omega
      subst hx2
      have HD : Hid (decide ((x : Int) / 2 + 1 ≤ (named l x : Int)) = decide (x / 2 + 1 ≤ named l x)) := decide_eq_decide.2 (by omega)
      go_wp2_with fail
      refine HM.out.mono ?_
      rintro e w2 ⟨rfl, hw⟩
      obtain rfl := hw.symm
      clear hw
      go_wp2
      go_ret
      exact ⟨bool_is HD.out, rfl⟩
end Go.Proofs.Ytmpabcojdkpiaaa
