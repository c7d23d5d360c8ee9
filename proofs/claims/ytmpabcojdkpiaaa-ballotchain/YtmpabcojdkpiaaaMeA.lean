/- The program's isNode, May, cmp.Compare, byRound, byNode. -/
import Derived.Test.YtmpabcojdkpiaaaCon
import Derived.Test.YtmpabcojdkpiaaaBox
namespace Go.Proofs.Ytmpabcojdkpiaaa
open Go Go.RowKit

theorem bool_eq {a b : Bool} (h : a = b) : Ending.returned (.bool a) = Ending.returned (.bool b) := by rw [h]
/-- What one of two numbers is to the other. -/
def cmpI (x y : Int) : Int := if x < y then -1 else if y < x then 1 else 0
set_option maxHeartbeats 1000000 in
theorem isNode_any (x n : Int) (u : World) : Calls Try.prog 18 #[.int .i64 x, .int .i64 n] u fun e v => e = .returned (.bool (decide (0 ≤ x ∧ x < n))) ∧ v = u := by
  go_enter Try.func18, Try.ntmps18
  by_cases c1 : 0 ≤ x
  · have HM : Hid (decide (x < n) = decide (0 ≤ x ∧ x < n)) := decide_eq_decide.2 (by omega)
    generalize decide (0 ≤ x ∧ x < n) = M at *
    go_wp2
    go_ret
    exact ⟨bool_eq HM.out, rfl⟩
  · have HM : Hid (decide (0 ≤ x ∧ x < n) = false) := decide_eq_false_iff_not.2 (by omega)
    generalize decide (0 ≤ x ∧ x < n) = M at *
    go_wp2
    go_ret
    exact ⟨bool_eq HM.out.symm, rfl⟩
set_option maxHeartbeats 1000000 in
theorem may_any (b : Bl) (u : World) (hb : b.Ok) : Calls Try.prog 9 #[.agg #[.int .u64 (b.r : Int), .int .i64 b.n]] u fun e v => e = .returned (.bool (may b)) ∧ Below u.heap.size u v := by
  obtain ⟨r, n⟩ := b
  obtain ⟨h1, h2, h3⟩ := hb
  have HM : Hid (may ⟨r, n⟩ = decide ((0 ≤ n ∧ n < 7) ∧ r ≤ 281474976710656)) := rfl
  generalize may ⟨r, n⟩ = M at *
  simp only at h1 h2 h3 ⊢
  go_enter Try.func9, Try.ntmps9
  go_wp2_with fail
  refine (isNode_any _ _ _).mono ?_
  rintro e w1 ⟨rfl, hw⟩
  have HW : Hid (Below u.heap.size u w1) := by rw [hw]; exact one_below u _
  have HX : Hid (Box w1 u.heap.size #[.int .u64 (r : Int), .int .i64 n] 24) := by rw [hw]; exact Box.new u _ _
  clear hw
  obtain ⟨y0, y1⟩ := HX.out.two
  by_cases c1 : 0 ≤ n ∧ n < 7
  · have HD : Hid (decide (r ≤ 281474976710656) = decide ((0 ≤ n ∧ n < 7) ∧ r ≤ 281474976710656)) := decide_eq_decide.2 (by omega)
    rw [decide_eq_true c1]
    go_wp2
    go_ret
    refine ⟨bool_eq ?_, HW.out⟩
    rw [HM.out, ← HD.out]
    exact decide_eq_decide.2 (by omega)
  · rw [decide_eq_false c1]
    go_wp2
    go_ret
    refine ⟨bool_eq ?_, HW.out⟩
    rw [HM.out]
    exact (decide_eq_false_iff_not.2 (fun h => c1 h.1)).symm
set_option maxHeartbeats 1000000 in
theorem nanU_any (x : Int) (u : World) : Calls Try.prog 25 #[.int .u64 x] u fun e v => e = .returned (.bool false) ∧ v = u := by
  go_enter Try.func25, Try.ntmps25
  go_wp2
  go_ret
  exact ⟨rfl, rfl⟩
set_option maxHeartbeats 1000000 in
theorem nanI_any (x : Int) (u : World) : Calls Try.prog 26 #[.int .i64 x] u fun e v => e = .returned (.bool false) ∧ v = u := by
  go_enter Try.func26, Try.ntmps26
  go_wp2
  go_ret
  exact ⟨rfl, rfl⟩
theorem cmpI_lt {x y : Int} (h : x < y) : cmpI x y = -1 := by unfold cmpI; rw [if_pos h]
theorem cmpI_gt {x y : Int} (h : y < x) : cmpI x y = 1 := by unfold cmpI; rw [if_neg (by omega), if_pos h]
theorem cmpI_eq {x y : Int} (h : ¬ x < y) (h2 : ¬ y < x) : cmpI x y = 0 := by unfold cmpI; rw [if_neg h, if_neg h2]
set_option maxHeartbeats 1000000 in
theorem cmpU_any (x y : Int) (u : World) : Calls Try.prog 23 #[.int .u64 x, .int .u64 y] u fun e v => e = .returned (.int .i64 (cmpI x y)) ∧ v = u := by
  go_enter Try.func23, Try.ntmps23
  go_wp2_with fail
  refine (nanU_any _ _).mono ?_
  rintro e w1 ⟨rfl, rfl⟩
  go_wp2_with fail
  refine (nanU_any _ _).mono ?_
  rintro e w1 ⟨rfl, rfl⟩
  by_cases c1 : x < y
  · have HC : Hid (cmpI x y = -1) := cmpI_lt c1
    go_wp2
    go_ret
    exact ⟨by rw [HC.out]; rfl, rfl⟩
  · by_cases c2 : y < x
    · have HC : Hid (cmpI x y = 1) := cmpI_gt c2
      go_wp2
      go_ret
      exact ⟨by rw [HC.out]; rfl, rfl⟩
    · have HC : Hid (cmpI x y = 0) := cmpI_eq c1 c2
      go_wp2
      go_ret
      exact ⟨by rw [HC.out]; rfl, rfl⟩
set_option maxHeartbeats 1000000 in
theorem cmpS_any (x y : Int) (u : World) : Calls Try.prog 24 #[.int .i64 x, .int .i64 y] u fun e v => e = .returned (.int .i64 (cmpI x y)) ∧ v = u := by
  go_enter Try.func24, Try.ntmps24
  go_wp2_with fail
  refine (nanI_any _ _).mono ?_
  rintro e w1 ⟨rfl, rfl⟩
  go_wp2_with fail
  refine (nanI_any _ _).mono ?_
  rintro e w1 ⟨rfl, rfl⟩
  by_cases c1 : x < y
  · have HC : Hid (cmpI x y = -1) := cmpI_lt c1
    go_wp2
    go_ret
    exact ⟨by rw [HC.out]; rfl, rfl⟩
  · by_cases c2 : y < x
    · have HC : Hid (cmpI x y = 1) := cmpI_gt c2
      go_wp2
      go_ret
      exact ⟨by rw [HC.out]; rfl, rfl⟩
    · have HC : Hid (cmpI x y = 0) := cmpI_eq c1 c2
      go_wp2
      go_ret
      exact ⟨by rw [HC.out]; rfl, rfl⟩
set_option maxHeartbeats 1000000 in
theorem byRound_any (a b : Bl) (u : World) : Calls Try.prog 20 #[.agg #[.int .u64 (a.r : Int), .int .i64 a.n], .agg #[.int .u64 (b.r : Int), .int .i64 b.n]] u fun e v => e = .returned (.int .i64 (cmpI a.r b.r)) ∧ Below u.heap.size u v := by
  go_enter Try.func20, Try.ntmps20
  go_wp2_with fail
  refine (cmpU_any _ _ _).mono ?_
  rintro e w1 ⟨rfl, rfl⟩
  go_wp2
  go_ret
  exact ⟨rfl, two_below u _ _⟩
set_option maxHeartbeats 1000000 in
theorem byNode_any (a b : Bl) (u : World) : Calls Try.prog 21 #[.agg #[.int .u64 (a.r : Int), .int .i64 a.n], .agg #[.int .u64 (b.r : Int), .int .i64 b.n]] u fun e v => e = .returned (.int .i64 (cmpI a.n b.n)) ∧ Below u.heap.size u v := by
  go_enter Try.func21, Try.ntmps21
  go_wp2_with fail
  refine (cmpS_any _ _ _).mono ?_
  rintro e w1 ⟨rfl, rfl⟩
  go_wp2
  go_ret
  exact ⟨rfl, two_below u _ _⟩
end Go.Proofs.Ytmpabcojdkpiaaa
