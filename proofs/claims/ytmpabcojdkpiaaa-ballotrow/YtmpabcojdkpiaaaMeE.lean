/- The program's Next. -/
import Derived.Test.YtmpabcojdkpiaaaMeB
import Derived.Test.YtmpabcojdkpiaaaMeC
import Derived.Test.YtmpabcojdkpiaaaRefA
namespace Go.Proofs.Ytmpabcojdkpiaaa
open Go Go.RowKit

set_option maxHeartbeats 1000000 in
theorem nextX (r : Nat) (m n : Int) (u : World) (KM : ∀ v, Hid (Calls Try.prog 9 #[.agg #[.int .u64 (r : Int), .int .i64 m]] v fun e v' => e = .returned (.bool false) ∧ Below v.heap.size v v')) : Calls Try.prog 12 #[.agg #[.int .u64 (r : Int), .int .i64 m], .int .i64 n] u fun e v => e = .returned (.tuple #[.agg #[.int .u64 0, .int .i64 0], .int .i64 2]) ∧ Below u.heap.size u v := by
  go_enter Try.func12, Try.ntmps12
  go_wp2_with fail
  have HB := hide (two_below u (.cells #[.int .u64 (r : Int), .int .i64 m] 24) (.cells #[.int .u64 0, .int .i64 0] 24))
  have HR := hide (Box.new (u.alloc (.cells #[.int .u64 (r : Int), .int .i64 m] 24)) #[.int .u64 0, .int .i64 0] 24)
  have HA := hide ((Box.new u #[.int .u64 (r : Int), .int .i64 m] 24).below (one_below _ (.cells #[.int .u64 0, .int .i64 0] 24)))
  rw [one_size] at HR
  generalize (u.alloc (.cells #[.int .u64 (r : Int), .int .i64 m] 24)).alloc (.cells #[.int .u64 0, .int .i64 0] 24) = w0 at *
  refine (KM _).out.mono ?_
  rintro e w1 ⟨rfl, hb1⟩
  have HB1 := hide (bnext HB.out hb1)
  have HR1 := hide (HR.out.below hb1)
  have HA1 := hide (HA.out.below hb1)
  clear hb1 HB HR HA
  obtain ⟨r0, r1⟩ := HR1.out.two
  have f0 := HR1.out.free
  go_wp2_with fail
  change bodyPost Try.prog _ _ _ _ (put2 w1 (u.heap.size + 1) (.int .u64 0) (.int .i64 0))
  have HZ := hide (HR1.out.put2 (.int .u64 0) (.int .i64 0))
  have HW := hide (put2_below HB1.out (Nat.le_succ _) (.int .u64 0) (.int .i64 0))
  generalize put2 w1 (u.heap.size + 1) (.int .u64 0) (.int .i64 0) = w9 at *
  clear r0 r1 f0
  obtain ⟨r0, r1⟩ := HZ.out.two
  exact bodyPost_ret (v := .tuple #[.agg #[.int .u64 0, .int .i64 0], .int .i64 2]) (by simp [results, Try.results12, go_sem, r0, r1]) rfl ⟨rfl, HW.out⟩
set_option maxHeartbeats 1000000 in
theorem nextY (r : Nat) (m n : Int) (u : World) (hn : decide (0 ≤ n ∧ n < 7) = false) (KM : ∀ v, Hid (Calls Try.prog 9 #[.agg #[.int .u64 (r : Int), .int .i64 m]] v fun e v' => e = .returned (.bool true) ∧ Below v.heap.size v v')) : Calls Try.prog 12 #[.agg #[.int .u64 (r : Int), .int .i64 m], .int .i64 n] u fun e v => e = .returned (.tuple #[.agg #[.int .u64 0, .int .i64 0], .int .i64 2]) ∧ Below u.heap.size u v := by
  have HN := hide (fun u => isNode_any n 7 u)
  rw [hn] at HN
  clear hn
  go_enter Try.func12, Try.ntmps12
  go_wp2_with fail
  have HB := hide (two_below u (.cells #[.int .u64 (r : Int), .int .i64 m] 24) (.cells #[.int .u64 0, .int .i64 0] 24))
  have HR := hide (Box.new (u.alloc (.cells #[.int .u64 (r : Int), .int .i64 m] 24)) #[.int .u64 0, .int .i64 0] 24)
  have HA := hide ((Box.new u #[.int .u64 (r : Int), .int .i64 m] 24).below (one_below _ (.cells #[.int .u64 0, .int .i64 0] 24)))
  rw [one_size] at HR
  generalize (u.alloc (.cells #[.int .u64 (r : Int), .int .i64 m] 24)).alloc (.cells #[.int .u64 0, .int .i64 0] 24) = w0 at *
  refine (KM _).out.mono ?_
  rintro e w1 ⟨rfl, hb1⟩
  have HB1 := hide (bnext HB.out hb1)
  have HR1 := hide (HR.out.below hb1)
  have HA1 := hide (HA.out.below hb1)
  clear hb1 HB HR HA
  go_wp2_with fail
  refine (HN.out _).mono ?_
  rintro e w2 ⟨rfl, hw⟩
  obtain rfl := hw.symm
  clear hw
  obtain ⟨r0, r1⟩ := HR1.out.two
  have f0 := HR1.out.free
  go_wp2_with fail
  change bodyPost Try.prog _ _ _ _ (put2 w1 (u.heap.size + 1) (.int .u64 0) (.int .i64 0))
  have HZ := hide (HR1.out.put2 (.int .u64 0) (.int .i64 0))
  have HW := hide (put2_below HB1.out (Nat.le_succ _) (.int .u64 0) (.int .i64 0))
  generalize put2 w1 (u.heap.size + 1) (.int .u64 0) (.int .i64 0) = w9 at *
  clear r0 r1 f0
  obtain ⟨r0, r1⟩ := HZ.out.two
  exact bodyPost_ret (v := .tuple #[.agg #[.int .u64 0, .int .i64 0], .int .i64 2]) (by simp [results, Try.results12, go_sem, r0, r1]) rfl ⟨rfl, HW.out⟩
set_option maxHeartbeats 1000000 in
theorem nextA (m n : Int) (u : World) (hn : decide (0 ≤ n ∧ n < 7) = true) (C : Int) (hC : 0 < C) (KM : ∀ v, Hid (Calls Try.prog 9 #[.agg #[.int .u64 0, .int .i64 m]] v fun e v' => e = .returned (.bool true) ∧ Below v.heap.size v v')) (KC : ∀ v, Hid (Calls Try.prog 11 #[.agg #[.int .u64 1, .int .i64 n], .agg #[.int .u64 0, .int .i64 m]] v fun e v' => e = .returned (.int .i64 C) ∧ Below v.heap.size v v')) (KM2 : ∀ v, Hid (Calls Try.prog 9 #[.agg #[.int .u64 1, .int .i64 n]] v fun e v' => e = .returned (.bool true) ∧ Below v.heap.size v v')) : Calls Try.prog 12 #[.agg #[.int .u64 0, .int .i64 m], .int .i64 n] u fun e v => e = .returned (.tuple #[.agg #[.int .u64 1, .int .i64 n], .int .i64 0]) ∧ Below u.heap.size u v := by
  have HN := hide (fun u => isNode_any n 7 u)
  rw [hn] at HN
  clear hn
  go_enter Try.func12, Try.ntmps12
  go_wp2_with fail
  have HB := hide (two_below u (.cells #[.int .u64 0, .int .i64 m] 24) (.cells #[.int .u64 0, .int .i64 0] 24))
  have HR := hide (Box.new (u.alloc (.cells #[.int .u64 0, .int .i64 m] 24)) #[.int .u64 0, .int .i64 0] 24)
  have HA := hide ((Box.new u #[.int .u64 0, .int .i64 m] 24).below (one_below _ (.cells #[.int .u64 0, .int .i64 0] 24)))
  rw [one_size] at HR
  generalize (u.alloc (.cells #[.int .u64 0, .int .i64 m] 24)).alloc (.cells #[.int .u64 0, .int .i64 0] 24) = w0 at *
  refine (KM _).out.mono ?_
  rintro e w1 ⟨rfl, hb1⟩
  have HB1 := hide (bnext HB.out hb1)
  have HR1 := hide (HR.out.below hb1)
  have HA1 := hide (HA.out.below hb1)
  clear hb1 HB HR HA
  go_wp2_with fail
  refine (HN.out _).mono ?_
  rintro e w2 ⟨rfl, hw⟩
  obtain rfl := hw.symm
  clear hw
  obtain ⟨a0, a1⟩ := HA1.out.two
  have HA2 := hide (HA1.out.below (one_below w1 (.cells #[.int .u64 1, .int .i64 n] 24)))
  obtain ⟨a2, a3⟩ := HA2.out.two
  have HR2 := hide (HR1.out.below (one_below w1 (.cells #[.int .u64 1, .int .i64 n] 24)))
  have HB2 := hide (bnext HB1.out (one_below w1 (.cells #[.int .u64 1, .int .i64 n] 24)))
  have HY2 := hide (Box.new w1 #[.int .u64 1, .int .i64 n] 24)
  have HXR := hide HR1.out.lt
  go_wp2_with fail
  generalize w1.alloc (.cells #[.int .u64 1, .int .i64 n] 24) = w2 at *
  clear a0 a1 a2 a3 HA1 HB1 HR1 HA2
  generalize w1.heap.size = X at *
  refine (KC _).out.mono ?_
  rintro e w3 ⟨rfl, hb3⟩
  have HB3 := hide (bnext HB2.out hb3)
  have HR3 := hide (HR2.out.below hb3)
  have HY3 := hide (HY2.out.below hb3)
  clear hb3 HB2 HR2 HY2
  obtain ⟨y0, y1⟩ := HY3.out.two
  have HY4 := HY3
  have HR4 := HR3
  have HB4 := HB3
  clear HY3 HR3 HB3
  go_wp2_with fail
  refine (KM2 _).out.mono ?_
  rintro e w5 ⟨rfl, hb5⟩
  have HB5 := hide (bnext HB4.out hb5)
  have HR5 := hide (HR4.out.below hb5)
  have HY5 := hide (HY4.out.below hb5)
  clear hb5 HB4 HR4 HY4 y0 y1
  obtain ⟨y0, y1⟩ := HY5.out.two
  obtain ⟨r0, r1⟩ := HR5.out.two
  have f0 := HR5.out.free
  go_wp2_with fail
  change bodyPost Try.prog _ _ _ _ (put2 w5 (u.heap.size + 1) (.int .u64 1) (.int .i64 n))
  have HZ := hide (HR5.out.put2 (.int .u64 1) (.int .i64 n))
  have HW := hide (put2_below HB5.out (Nat.le_succ _) (.int .u64 1) (.int .i64 n))
  generalize put2 w5 (u.heap.size + 1) (.int .u64 1) (.int .i64 n) = w9 at *
  clear r0 r1 f0
  obtain ⟨r0, r1⟩ := HZ.out.two
  exact bodyPost_ret (v := .tuple #[.agg #[.int .u64 1, .int .i64 n], .int .i64 0]) (by simp [results, Try.results12, go_sem, r0, r1]) rfl ⟨rfl, HW.out⟩
set_option maxHeartbeats 1000000 in
theorem nextB (r : Nat) (m n : Int) (u : World) (hr : 1 ≤ r) (hr2 : r < 18446744073709551615) (hn : decide (0 ≤ n ∧ n < 7) = true) (C : Int) (hC : 0 < C) (KM : ∀ v, Hid (Calls Try.prog 9 #[.agg #[.int .u64 (r : Int), .int .i64 m]] v fun e v' => e = .returned (.bool true) ∧ Below v.heap.size v v')) (KC : ∀ v, Hid (Calls Try.prog 11 #[.agg #[.int .u64 (r : Int), .int .i64 n], .agg #[.int .u64 (r : Int), .int .i64 m]] v fun e v' => e = .returned (.int .i64 C) ∧ Below v.heap.size v v')) (KM2 : ∀ v, Hid (Calls Try.prog 9 #[.agg #[.int .u64 (r : Int), .int .i64 n]] v fun e v' => e = .returned (.bool true) ∧ Below v.heap.size v v')) : Calls Try.prog 12 #[.agg #[.int .u64 (r : Int), .int .i64 m], .int .i64 n] u fun e v => e = .returned (.tuple #[.agg #[.int .u64 (r : Int), .int .i64 n], .int .i64 0]) ∧ Below u.heap.size u v := by
  have HN := hide (fun u => isNode_any n 7 u)
  rw [hn] at HN
  clear hn
  go_enter Try.func12, Try.ntmps12
  go_wp2_with fail
  have HB := hide (two_below u (.cells #[.int .u64 (r : Int), .int .i64 m] 24) (.cells #[.int .u64 0, .int .i64 0] 24))
  have HR := hide (Box.new (u.alloc (.cells #[.int .u64 (r : Int), .int .i64 m] 24)) #[.int .u64 0, .int .i64 0] 24)
  have HA := hide ((Box.new u #[.int .u64 (r : Int), .int .i64 m] 24).below (one_below _ (.cells #[.int .u64 0, .int .i64 0] 24)))
  rw [one_size] at HR
  generalize (u.alloc (.cells #[.int .u64 (r : Int), .int .i64 m] 24)).alloc (.cells #[.int .u64 0, .int .i64 0] 24) = w0 at *
  refine (KM _).out.mono ?_
  rintro e w1 ⟨rfl, hb1⟩
  have HB1 := hide (bnext HB.out hb1)
  have HR1 := hide (HR.out.below hb1)
  have HA1 := hide (HA.out.below hb1)
  clear hb1 HB HR HA
  go_wp2_with fail
  refine (HN.out _).mono ?_
  rintro e w2 ⟨rfl, hw⟩
  obtain rfl := hw.symm
  clear hw
  obtain ⟨a0, a1⟩ := HA1.out.two
  have HA2 := hide (HA1.out.below (one_below w1 (.cells #[.int .u64 (r : Int), .int .i64 n] 24)))
  obtain ⟨a2, a3⟩ := HA2.out.two
  have HR2 := hide (HR1.out.below (one_below w1 (.cells #[.int .u64 (r : Int), .int .i64 n] 24)))
  have HB2 := hide (bnext HB1.out (one_below w1 (.cells #[.int .u64 (r : Int), .int .i64 n] 24)))
  have HY2 := hide (Box.new w1 #[.int .u64 (r : Int), .int .i64 n] 24)
  have HXR := hide HR1.out.lt
  go_wp2_with fail
  generalize w1.alloc (.cells #[.int .u64 (r : Int), .int .i64 n] 24) = w2 at *
  clear a0 a1 a2 a3 HA1 HB1 HR1 HA2
  generalize w1.heap.size = X at *
  refine (KC _).out.mono ?_
  rintro e w3 ⟨rfl, hb3⟩
  have HB3 := hide (bnext HB2.out hb3)
  have HR3 := hide (HR2.out.below hb3)
  have HY3 := hide (HY2.out.below hb3)
  clear hb3 HB2 HR2 HY2
  obtain ⟨y0, y1⟩ := HY3.out.two
  have HY4 := HY3
  have HR4 := HR3
  have HB4 := HB3
  clear HY3 HR3 HB3
  go_wp2_with fail
  refine (KM2 _).out.mono ?_
  rintro e w5 ⟨rfl, hb5⟩
  have HB5 := hide (bnext HB4.out hb5)
  have HR5 := hide (HR4.out.below hb5)
  have HY5 := hide (HY4.out.below hb5)
  clear hb5 HB4 HR4 HY4 y0 y1
  obtain ⟨y0, y1⟩ := HY5.out.two
  obtain ⟨r0, r1⟩ := HR5.out.two
  have f0 := HR5.out.free
  go_wp2_with fail
  change bodyPost Try.prog _ _ _ _ (put2 w5 (u.heap.size + 1) (.int .u64 (r : Int)) (.int .i64 n))
  have HZ := hide (HR5.out.put2 (.int .u64 (r : Int)) (.int .i64 n))
  have HW := hide (put2_below HB5.out (Nat.le_succ _) (.int .u64 (r : Int)) (.int .i64 n))
  generalize put2 w5 (u.heap.size + 1) (.int .u64 (r : Int)) (.int .i64 n) = w9 at *
  clear r0 r1 f0
  obtain ⟨r0, r1⟩ := HZ.out.two
  exact bodyPost_ret (v := .tuple #[.agg #[.int .u64 (r : Int), .int .i64 n], .int .i64 0]) (by simp [results, Try.results12, go_sem, r0, r1]) rfl ⟨rfl, HW.out⟩
set_option maxHeartbeats 1000000 in
theorem nextC (r : Nat) (m n : Int) (u : World) (hr : 1 ≤ r) (hr2 : r < 18446744073709551615) (hn : decide (0 ≤ n ∧ n < 7) = true) (C : Int) (hC : C ≤ 0) (KM : ∀ v, Hid (Calls Try.prog 9 #[.agg #[.int .u64 (r : Int), .int .i64 m]] v fun e v' => e = .returned (.bool true) ∧ Below v.heap.size v v')) (KC : ∀ v, Hid (Calls Try.prog 11 #[.agg #[.int .u64 (r : Int), .int .i64 n], .agg #[.int .u64 (r : Int), .int .i64 m]] v fun e v' => e = .returned (.int .i64 C) ∧ Below v.heap.size v v')) (KM2 : ∀ v, Hid (Calls Try.prog 9 #[.agg #[.int .u64 ((r : Int) + 1), .int .i64 n]] v fun e v' => e = .returned (.bool true) ∧ Below v.heap.size v v')) : Calls Try.prog 12 #[.agg #[.int .u64 (r : Int), .int .i64 m], .int .i64 n] u fun e v => e = .returned (.tuple #[.agg #[.int .u64 ((r : Int) + 1), .int .i64 n], .int .i64 0]) ∧ Below u.heap.size u v := by
  have HN := hide (fun u => isNode_any n 7 u)
  rw [hn] at HN
  clear hn
  go_enter Try.func12, Try.ntmps12
  go_wp2_with fail
  have HB := hide (two_below u (.cells #[.int .u64 (r : Int), .int .i64 m] 24) (.cells #[.int .u64 0, .int .i64 0] 24))
  have HR := hide (Box.new (u.alloc (.cells #[.int .u64 (r : Int), .int .i64 m] 24)) #[.int .u64 0, .int .i64 0] 24)
  have HA := hide ((Box.new u #[.int .u64 (r : Int), .int .i64 m] 24).below (one_below _ (.cells #[.int .u64 0, .int .i64 0] 24)))
  rw [one_size] at HR
  generalize (u.alloc (.cells #[.int .u64 (r : Int), .int .i64 m] 24)).alloc (.cells #[.int .u64 0, .int .i64 0] 24) = w0 at *
  refine (KM _).out.mono ?_
  rintro e w1 ⟨rfl, hb1⟩
  have HB1 := hide (bnext HB.out hb1)
  have HR1 := hide (HR.out.below hb1)
  have HA1 := hide (HA.out.below hb1)
  clear hb1 HB HR HA
  go_wp2_with fail
  refine (HN.out _).mono ?_
  rintro e w2 ⟨rfl, hw⟩
  obtain rfl := hw.symm
  clear hw
  obtain ⟨a0, a1⟩ := HA1.out.two
  have HA2 := hide (HA1.out.below (one_below w1 (.cells #[.int .u64 (r : Int), .int .i64 n] 24)))
  obtain ⟨a2, a3⟩ := HA2.out.two
  have HR2 := hide (HR1.out.below (one_below w1 (.cells #[.int .u64 (r : Int), .int .i64 n] 24)))
  have HB2 := hide (bnext HB1.out (one_below w1 (.cells #[.int .u64 (r : Int), .int .i64 n] 24)))
  have HY2 := hide (Box.new w1 #[.int .u64 (r : Int), .int .i64 n] 24)
  have HXR := hide HR1.out.lt
  go_wp2_with fail
  generalize w1.alloc (.cells #[.int .u64 (r : Int), .int .i64 n] 24) = w2 at *
  clear a0 a1 a2 a3 HA1 HB1 HR1 HA2
  generalize w1.heap.size = X at *
  refine (KC _).out.mono ?_
  rintro e w3 ⟨rfl, hb3⟩
  have HB3 := hide (bnext HB2.out hb3)
  have HR3 := hide (HR2.out.below hb3)
  have HY3 := hide (HY2.out.below hb3)
  clear hb3 HB2 HR2 HY2
  obtain ⟨y0, y1⟩ := HY3.out.two
  have f0 := HY3.out.free
  have HY4 := hide (HY3.out.put0 (.int .u64 ((r : Int) + 1)))
  have HR4 := hide (HR3.out.other ⟨X, 0, none⟩ (.int .u64 ((r : Int) + 1)) (show u.heap.size + 1 ≠ X by have := HXR.out; omega))
  have HB4 := hide (HB3.out.setCell (p := ⟨X, 0, none⟩) (show u.heap.size ≤ X by have := HXR.out; omega) (.int .u64 ((r : Int) + 1)))
  go_wp2_with fail
  clear y0 y1 f0 HY3 HR3 HB3
  generalize w3.setCell ⟨X, 0, none⟩ (.int .u64 ((r : Int) + 1)) = w4 at *
  obtain ⟨y0, y1⟩ := HY4.out.two
  refine (KM2 _).out.mono ?_
  rintro e w5 ⟨rfl, hb5⟩
  have HB5 := hide (bnext HB4.out hb5)
  have HR5 := hide (HR4.out.below hb5)
  have HY5 := hide (HY4.out.below hb5)
  clear hb5 HB4 HR4 HY4 y0 y1
  obtain ⟨y0, y1⟩ := HY5.out.two
  obtain ⟨r0, r1⟩ := HR5.out.two
  have f0 := HR5.out.free
  go_wp2_with fail
  change bodyPost Try.prog _ _ _ _ (put2 w5 (u.heap.size + 1) (.int .u64 ((r : Int) + 1)) (.int .i64 n))
  have HZ := hide (HR5.out.put2 (.int .u64 ((r : Int) + 1)) (.int .i64 n))
  have HW := hide (put2_below HB5.out (Nat.le_succ _) (.int .u64 ((r : Int) + 1)) (.int .i64 n))
  generalize put2 w5 (u.heap.size + 1) (.int .u64 ((r : Int) + 1)) (.int .i64 n) = w9 at *
  clear r0 r1 f0
  obtain ⟨r0, r1⟩ := HZ.out.two
  exact bodyPost_ret (v := .tuple #[.agg #[.int .u64 ((r : Int) + 1), .int .i64 n], .int .i64 0]) (by simp [results, Try.results12, go_sem, r0, r1]) rfl ⟨rfl, HW.out⟩
set_option maxHeartbeats 1000000 in
theorem nextD (r : Nat) (m n : Int) (u : World) (hr : 1 ≤ r) (hr2 : r < 18446744073709551615) (hn : decide (0 ≤ n ∧ n < 7) = true) (C : Int) (hC : C ≤ 0) (KM : ∀ v, Hid (Calls Try.prog 9 #[.agg #[.int .u64 (r : Int), .int .i64 m]] v fun e v' => e = .returned (.bool true) ∧ Below v.heap.size v v')) (KC : ∀ v, Hid (Calls Try.prog 11 #[.agg #[.int .u64 (r : Int), .int .i64 n], .agg #[.int .u64 (r : Int), .int .i64 m]] v fun e v' => e = .returned (.int .i64 C) ∧ Below v.heap.size v v')) (KM2 : ∀ v, Hid (Calls Try.prog 9 #[.agg #[.int .u64 ((r : Int) + 1), .int .i64 n]] v fun e v' => e = .returned (.bool false) ∧ Below v.heap.size v v')) : Calls Try.prog 12 #[.agg #[.int .u64 (r : Int), .int .i64 m], .int .i64 n] u fun e v => e = .returned (.tuple #[.agg #[.int .u64 0, .int .i64 0], .int .i64 9]) ∧ Below u.heap.size u v := by
  have HN := hide (fun u => isNode_any n 7 u)
  rw [hn] at HN
  clear hn
  go_enter Try.func12, Try.ntmps12
  go_wp2_with fail
  have HB := hide (two_below u (.cells #[.int .u64 (r : Int), .int .i64 m] 24) (.cells #[.int .u64 0, .int .i64 0] 24))
  have HR := hide (Box.new (u.alloc (.cells #[.int .u64 (r : Int), .int .i64 m] 24)) #[.int .u64 0, .int .i64 0] 24)
  have HA := hide ((Box.new u #[.int .u64 (r : Int), .int .i64 m] 24).below (one_below _ (.cells #[.int .u64 0, .int .i64 0] 24)))
  rw [one_size] at HR
  generalize (u.alloc (.cells #[.int .u64 (r : Int), .int .i64 m] 24)).alloc (.cells #[.int .u64 0, .int .i64 0] 24) = w0 at *
  refine (KM _).out.mono ?_
  rintro e w1 ⟨rfl, hb1⟩
  have HB1 := hide (bnext HB.out hb1)
  have HR1 := hide (HR.out.below hb1)
  have HA1 := hide (HA.out.below hb1)
  clear hb1 HB HR HA
  go_wp2_with fail
  refine (HN.out _).mono ?_
  rintro e w2 ⟨rfl, hw⟩
  obtain rfl := hw.symm
  clear hw
  obtain ⟨a0, a1⟩ := HA1.out.two
  have HA2 := hide (HA1.out.below (one_below w1 (.cells #[.int .u64 (r : Int), .int .i64 n] 24)))
  obtain ⟨a2, a3⟩ := HA2.out.two
  have HR2 := hide (HR1.out.below (one_below w1 (.cells #[.int .u64 (r : Int), .int .i64 n] 24)))
  have HB2 := hide (bnext HB1.out (one_below w1 (.cells #[.int .u64 (r : Int), .int .i64 n] 24)))
  have HY2 := hide (Box.new w1 #[.int .u64 (r : Int), .int .i64 n] 24)
  have HXR := hide HR1.out.lt
  go_wp2_with fail
  generalize w1.alloc (.cells #[.int .u64 (r : Int), .int .i64 n] 24) = w2 at *
  clear a0 a1 a2 a3 HA1 HB1 HR1 HA2
  generalize w1.heap.size = X at *
  refine (KC _).out.mono ?_
  rintro e w3 ⟨rfl, hb3⟩
  have HB3 := hide (bnext HB2.out hb3)
  have HR3 := hide (HR2.out.below hb3)
  have HY3 := hide (HY2.out.below hb3)
  clear hb3 HB2 HR2 HY2
  obtain ⟨y0, y1⟩ := HY3.out.two
  have f0 := HY3.out.free
  have HY4 := hide (HY3.out.put0 (.int .u64 ((r : Int) + 1)))
  have HR4 := hide (HR3.out.other ⟨X, 0, none⟩ (.int .u64 ((r : Int) + 1)) (show u.heap.size + 1 ≠ X by have := HXR.out; omega))
  have HB4 := hide (HB3.out.setCell (p := ⟨X, 0, none⟩) (show u.heap.size ≤ X by have := HXR.out; omega) (.int .u64 ((r : Int) + 1)))
  go_wp2_with fail
  clear y0 y1 f0 HY3 HR3 HB3
  generalize w3.setCell ⟨X, 0, none⟩ (.int .u64 ((r : Int) + 1)) = w4 at *
  obtain ⟨y0, y1⟩ := HY4.out.two
  refine (KM2 _).out.mono ?_
  rintro e w5 ⟨rfl, hb5⟩
  have HB5 := hide (bnext HB4.out hb5)
  have HR5 := hide (HR4.out.below hb5)
  have HY5 := hide (HY4.out.below hb5)
  clear hb5 HB4 HR4 HY4 y0 y1
  obtain ⟨y0, y1⟩ := HY5.out.two
  obtain ⟨r0, r1⟩ := HR5.out.two
  have f0 := HR5.out.free
  go_wp2_with fail
  change bodyPost Try.prog _ _ _ _ (put2 w5 (u.heap.size + 1) (.int .u64 0) (.int .i64 0))
  have HZ := hide (HR5.out.put2 (.int .u64 0) (.int .i64 0))
  have HW := hide (put2_below HB5.out (Nat.le_succ _) (.int .u64 0) (.int .i64 0))
  generalize put2 w5 (u.heap.size + 1) (.int .u64 0) (.int .i64 0) = w9 at *
  clear r0 r1 f0
  obtain ⟨r0, r1⟩ := HZ.out.two
  exact bodyPost_ret (v := .tuple #[.agg #[.int .u64 0, .int .i64 0], .int .i64 9]) (by simp [results, Try.results12, go_sem, r0, r1]) rfl ⟨rfl, HW.out⟩
theorem next_any (b : Bl) (n : Int) (u : World) (hb : b.Ok) (hI : I64 n) : Calls Try.prog 12 #[.agg #[.int .u64 (b.r : Int), .int .i64 b.n], .int .i64 n] u fun e v => e = .returned (.tuple #[.agg #[.int .u64 (((next b n).1.r : Nat) : Int), .int .i64 (next b n).1.n], .int .i64 (((next b n).2 : Nat) : Int)]) ∧ Below u.heap.size u v := by
  obtain ⟨r, m⟩ := b
  have KM := fun u => hide (may_any ⟨r, m⟩ u hb)
  cases hm : may ⟨r, m⟩ with
  | false =>
    have hnx : next ⟨r, m⟩ n = (noBl, 2) := by
      unfold next
      rw [hm, if_pos (Bool.false_and _)]
    rw [hm] at KM
    rw [hnx]
    exact nextX r m n u KM
  | true =>
    rw [hm] at KM
    cases hn : decide (0 ≤ n ∧ n < 7) with
    | false =>
      have hnx : next ⟨r, m⟩ n = (noBl, 2) := by
        unfold next
        rw [hm, show node n = false from hn, if_pos (Bool.and_false _)]
      rw [hnx]
      exact nextY r m n u hn KM
    | true =>
      have hb' := (may_iff _).1 hm
      have hn' := of_decide_eq_true hn
      have hnx : next ⟨r, m⟩ n = if may (least ⟨r, m⟩ n) = true then (least ⟨r, m⟩ n, 0) else (noBl, 9) := by
        unfold next
        rw [hm, show node n = true from hn]
        rfl
      by_cases h0 : r = 0
      · rw [least_zero h0] at hnx
        have hmay : may ⟨1, n⟩ = true := (may_iff _).2 ⟨hn', (by decide : (1 : Nat) ≤ 281474976710656)⟩
        subst h0
        rw [hmay, if_pos rfl] at hnx
        rw [hnx]
        have hok : Bl.Ok ⟨1, n⟩ := ⟨(by decide : (1 : Nat) < 18446744073709551616), hI⟩
        have hab : above ⟨1, n⟩ ⟨0, m⟩ = true := (above_iff _ _).2 (Or.inl Nat.zero_lt_one)
        have KC := fun u => hide (cmp_any ⟨1, n⟩ ⟨0, m⟩ u)
        rw [(cmpB_one _ _).2 hab] at KC
        have KM2 := fun u => hide (may_any ⟨1, n⟩ u hok)
        rw [hmay] at KM2
        exact nextA m n u hn 1 (by decide) KM KC KM2
      · have h1 : 1 ≤ r := by omega
        have h2 : r ≤ 281474976710656 := hb'.2
        have hok : Bl.Ok ⟨r, n⟩ := ⟨hb.1, hI⟩
        have KC := fun u => hide (cmp_any ⟨r, n⟩ ⟨r, m⟩ u)
        by_cases hlt : m < n
        · rw [least_same h1 hlt] at hnx
          have hmay : may ⟨r, n⟩ = true := (may_iff _).2 ⟨hn', h2⟩
          rw [hmay, if_pos rfl] at hnx
          rw [hnx]
          have hab : above ⟨r, n⟩ ⟨r, m⟩ = true := (above_iff _ _).2 (Or.inr ⟨rfl, hlt⟩)
          rw [(cmpB_one _ _).2 hab] at KC
          have KM2 := fun u => hide (may_any ⟨r, n⟩ u hok)
          rw [hmay] at KM2
          exact nextB r m n u h1 (by omega) hn 1 (by decide) KM KC KM2
        · rw [least_more h1 hlt] at hnx
          have hab : above ⟨r, n⟩ ⟨r, m⟩ = false := (above_not _ _).2 (by show ¬ (r < r ∨ r = r ∧ m < n); omega)
          have hle := (cmpB_le ⟨r, n⟩ ⟨r, m⟩).2 hab
          have KM2 := fun u => hide (may_any ⟨r + 1, n⟩ u ⟨(show r + 1 < 18446744073709551616 by omega), hI⟩)
          by_cases hlt2 : r + 1 ≤ 281474976710656
          · have hmay : may ⟨r + 1, n⟩ = true := (may_iff _).2 ⟨hn', hlt2⟩
            rw [hmay, if_pos rfl] at hnx
            rw [hnx]
            rw [hmay] at KM2
            exact nextC r m n u h1 (by omega) hn _ hle KM KC KM2
          · have hmay : may ⟨r + 1, n⟩ = false := by
              cases hh : may ⟨r + 1, n⟩ with
              | false => rfl
              | true => exact absurd ((may_iff _).1 hh).2 hlt2
            rw [hmay, if_neg (by simp)] at hnx
            rw [hnx]
            rw [hmay] at KM2
            exact nextD r m n u h1 (by omega) hn _ hle KM KC KM2
end Go.Proofs.Ytmpabcojdkpiaaa
