/- That some ballots answer as they should, over the contracts. -/
import Derived.Test.YtmpabcojdkpiaaaRefB
namespace Go.Proofs.Ytmpabcojdkpiaaa
open Go Go.RowKit

theorem w1_is : next ⟨1, 2⟩ 1 = (⟨2, 1⟩, 0) := by kernel_rfl
theorem w2_is : majority 5 = (3, 0) := by decide +kernel
theorem w3_is : quorum [0, 2, 4] 5 = (true, 0) := by decide +kernel
theorem w4_is : cmpB ⟨2, 1⟩ ⟨1, 4⟩ = 1 := by decide +kernel
theorem w5_is : may ⟨2, 1⟩ = true := by decide +kernel
theorem w6_is : may ⟨0, -1⟩ = false := by decide +kernel
theorem ok_small {r : Nat} {n : Int} (h1 : r ≤ 9) (h2 : -9 ≤ n ∧ n ≤ 9) : Bl.Ok ⟨r, n⟩ := ⟨by show r < _; omega, by show -9223372036854775808 ≤ n; omega, by show n ≤ _; omega⟩
theorem i64_small {n : Int} (h2 : -9 ≤ n ∧ n ≤ 9) : I64 n := ⟨by omega, by omega⟩
set_option maxRecDepth 10000 in
set_option maxHeartbeats 4000000 in
theorem works_any (C : Con) (u : World) : Calls Try.prog 7 #[] u fun e v => e = .returned (.bool true) ∧ Below u.heap.size u v := by
  have K1 := fun u => hide (C.next ⟨1, 2⟩ 1 u (ok_small (by decide) (by decide)) (i64_small (by decide)))
  rw [w1_is] at K1
  have K2 := fun u => hide (C.majority 5 u (i64_small (by decide)))
  rw [w2_is] at K2
  have K3 := fun a c u h => hide (C.quorum a c [0, 2, 4] 5 u h (by decide) (by intro x hx; exact i64_small (by simp at hx; omega)) (i64_small (by decide)))
  rw [w3_is] at K3
  have K4 := fun u => hide (C.cmp ⟨2, 1⟩ ⟨1, 4⟩ u (ok_small (by decide) (by decide)) (ok_small (by decide) (by decide)))
  rw [w4_is] at K4
  have K5 := fun u => hide (C.may ⟨2, 1⟩ u (ok_small (by decide) (by decide)))
  rw [w5_is] at K5
  have K6 := fun u => hide (C.may ⟨0, -1⟩ u (ok_small (by decide) (by decide)))
  rw [w6_is] at K6
  clear C
  go_enter Try.func7, Try.ntmps7
  go_wp2_with fail
  refine (K1 _).out.mono ?_
  rintro e w1 ⟨rfl, hb1⟩
  have HB := hide hb1
  clear hb1
  go_wp2_with fail
  have HX := hide (Box.new w1 #[.int .u64 2, .int .i64 1] 24)
  have HB2 := hide (bnext HB.out (one_below w1 (.cells #[.int .u64 2, .int .i64 1] 24)))
  generalize w1.alloc (.cells #[.int .u64 2, .int .i64 1] 24) = w2 at *
  generalize w1.heap.size = X at *
  clear HB
  refine (K2 _).out.mono ?_
  rintro e w3 ⟨rfl, hb3⟩
  have HX3 := hide (HX.out.below hb3)
  have HB3 := hide (bnext HB2.out hb3)
  clear hb3 HX HB2
  go_wp2_with fail
  have HL : Hid (IntsAt (w3.alloc (.cells #[.int .i64 0, .int .i64 2, .int .i64 4] 3)) (some ⟨w3.heap.size, 0, none⟩) [0, 2, 4]) := by
    have hb := Box.new w3 #[.int .i64 0, .int .i64 2, .int .i64 4] 3
    refine Or.inr ⟨w3.heap.size, 0, rfl, fun j hj => ?_⟩
    have hj' : j < 3 := hj
    rw [Nat.zero_add]
    refine hb.get j ?_
    match j, hj' with
    | 0, _ => rfl
    | 1, _ => rfl
    | 2, _ => rfl
  have HX4 := hide (HX3.out.below (one_below w3 (.cells #[.int .i64 0, .int .i64 2, .int .i64 4] 3)))
  have HB4 := hide (bnext HB3.out (one_below w3 (.cells #[.int .i64 0, .int .i64 2, .int .i64 4] 3)))
  refine (K3 _ _ _ HL.out).out.mono ?_
  clear HL HX3 HB3
  generalize w3.alloc (.cells #[.int .i64 0, .int .i64 2, .int .i64 4] 3) = w4 at *
  rintro e w5 ⟨rfl, hb5⟩
  have HX5 := hide (HX4.out.below hb5)
  have HB5 := hide (bnext HB4.out hb5)
  clear hb5 HX4 HB4
  obtain ⟨x0, x1⟩ := HX5.out.two
  go_wp2_with fail
  refine (K4 _).out.mono ?_
  rintro e w6 ⟨rfl, hb6⟩
  have HX6 := hide (HX5.out.below hb6)
  have HB6 := hide (bnext HB5.out hb6)
  clear hb6 HX5 HB5 x0 x1
  obtain ⟨x0, x1⟩ := HX6.out.two
  go_wp2_with fail
  refine (K5 _).out.mono ?_
  rintro e w7 ⟨rfl, hb7⟩
  have HB7 := hide (bnext HB6.out hb7)
  clear hb7 HX6 HB6 x0 x1
  go_wp2_with fail
  refine (K6 _).out.mono ?_
  rintro e w8 ⟨rfl, hb8⟩
  have HB8 := hide (bnext HB7.out hb8)
  clear hb8 HB7
  go_wp2
  go_ret
  exact ⟨rfl, HB8.out⟩
end Go.Proofs.Ytmpabcojdkpiaaa
