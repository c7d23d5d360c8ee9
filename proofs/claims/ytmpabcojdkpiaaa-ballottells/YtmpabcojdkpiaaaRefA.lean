/- The document's own functions: May, Above, Next. -/
import Derived.Test.YtmpabcojdkpiaaaCon
import Derived.Test.YtmpabcojdkpiaaaBox
namespace Go.Proofs.Ytmpabcojdkpiaaa
open Go Go.RowKit

theorem bool_is {a b : Bool} (h : a = b) : Ending.returned (.bool a) = Ending.returned (.bool b) := by rw [h]
set_option maxHeartbeats 1000000 in
theorem rMay (b : Bl) (u : World) (hb : b.Ok) : Calls Try.prog 10 #[.agg #[.int .u64 (b.r : Int), .int .i64 b.n]] u fun e v => e = .returned (.bool (may b)) ∧ Below u.heap.size u v := by
  obtain ⟨r, n⟩ := b
  obtain ⟨h1, h2, h3⟩ := hb
  have HM : Hid (may ⟨r, n⟩ = decide ((0 ≤ n ∧ n < 7) ∧ r ≤ 281474976710656)) := rfl
  generalize may ⟨r, n⟩ = M at *
  simp only at h1 h2 h3 ⊢
  go_enter Try.func10, Try.ntmps10
  by_cases c1 : 0 ≤ n
  · by_cases c2 : n < 7
    · go_wp2
      go_ret
      refine ⟨bool_is ?_, one_below u _⟩
      rw [HM.out]
      exact decide_eq_decide.2 (by omega)
    · go_wp2
      go_ret
      refine ⟨bool_is ?_, one_below u _⟩
      rw [HM.out]
      exact (decide_eq_false_iff_not.2 (by omega)).symm
  · go_wp2
    go_ret
    refine ⟨bool_is ?_, one_below u _⟩
    rw [HM.out]
    exact (decide_eq_false_iff_not.2 (by omega)).symm
set_option maxHeartbeats 1000000 in
theorem rAbove (a b : Bl) (u : World) (ha : a.Ok) (hb : b.Ok) : Calls Try.prog 8 #[.agg #[.int .u64 (a.r : Int), .int .i64 a.n], .agg #[.int .u64 (b.r : Int), .int .i64 b.n]] u fun e v => e = .returned (.bool (above a b)) ∧ Below u.heap.size u v := by
  obtain ⟨r, n⟩ := a
  obtain ⟨s, m⟩ := b
  obtain ⟨h1, h2, h3⟩ := ha
  obtain ⟨k1, k2, k3⟩ := hb
  have HM : Hid (above ⟨r, n⟩ ⟨s, m⟩ = decide (s < r ∨ r = s ∧ m < n)) := rfl
  generalize above ⟨r, n⟩ ⟨s, m⟩ = M at *
  simp only at h1 h2 h3 k1 k2 k3 ⊢
  go_enter Try.func8, Try.ntmps8
  by_cases c1 : s < r
  · go_wp2
    go_ret
    refine ⟨bool_is ?_, two_below u _ _⟩
    rw [HM.out]
    exact (decide_eq_true (Or.inl c1)).symm
  · by_cases c2 : r = s
    · subst c2
      go_wp2
      go_ret
      refine ⟨bool_is ?_, two_below u _ _⟩
      rw [HM.out]
      exact decide_eq_decide.2 (by simp)
    · go_wp2
      go_ret
      refine ⟨bool_is ?_, two_below u _ _⟩
      rw [HM.out]
      exact (decide_eq_false_iff_not.2 (by omega)).symm
/-- The least one: of Round 0; of the same Round; of the next one. -/
theorem least_zero {b : Bl} {n : Int} (h : b.r = 0) : least b n = ⟨1, n⟩ := by
  unfold least
  rw [h, if_pos]
  · rfl
  · rw [above_iff, h]; exact Or.inl (show 0 < max 0 1 by decide)
theorem least_same {b : Bl} {n : Int} (h : 1 ≤ b.r) (hn : b.n < n) : least b n = ⟨b.r, n⟩ := by
  unfold least
  rw [show max b.r 1 = b.r by omega, if_pos]
  rw [above_iff]
  exact Or.inr ⟨rfl, hn⟩
theorem least_more {b : Bl} {n : Int} (h : 1 ≤ b.r) (hn : ¬ b.n < n) : least b n = ⟨b.r + 1, n⟩ := by
  unfold least
  rw [show max b.r 1 = b.r by omega, if_neg]
  rw [above_iff]
  show ¬ (b.r < b.r ∨ b.r = b.r ∧ b.n < n)
  omega
set_option maxHeartbeats 1000000 in
theorem rNextA (m n : Int) (u : World) (KA : ∀ v, Hid (Calls Try.prog 8 #[.agg #[.int .u64 1, .int .i64 n], .agg #[.int .u64 0, .int .i64 m]] v fun e v' => e = .returned (.bool true) ∧ Below v.heap.size v v')) (KM : ∀ v, Hid (Calls Try.prog 10 #[.agg #[.int .u64 1, .int .i64 n]] v fun e v' => e = .returned (.bool true) ∧ Below v.heap.size v v')) : Calls Try.prog 13 #[.agg #[.int .u64 0, .int .i64 m], .int .i64 n] u fun e v => e = .returned (.tuple #[.agg #[.int .u64 1, .int .i64 n], .int .i64 0]) ∧ Below u.heap.size u v := by
  go_enter Try.func13, Try.ntmps13
  go_wp2_with fail
  have HB := hide (three_below u (.cells #[.int .u64 0, .int .i64 m] 24) (.cells #[.int .u64 0, .int .i64 0] 24) (.cells #[.int .u64 1, .int .i64 n] 24))
  have HR := hide ((Box.new (u.alloc (.cells #[.int .u64 0, .int .i64 m] 24)) #[.int .u64 0, .int .i64 0] 24).below (one_below _ (.cells #[.int .u64 1, .int .i64 n] 24)))
  have HY := hide (Box.new ((u.alloc (.cells #[.int .u64 0, .int .i64 m] 24)).alloc (.cells #[.int .u64 0, .int .i64 0] 24)) #[.int .u64 1, .int .i64 n] 24)
  rw [one_size, one_size] at HY
  rw [one_size] at HR
  generalize ((u.alloc (.cells #[.int .u64 0, .int .i64 m] 24)).alloc (.cells #[.int .u64 0, .int .i64 0] 24)).alloc (.cells #[.int .u64 1, .int .i64 n] 24) = w0 at *
  refine (KA _).out.mono ?_
  rintro e w1 ⟨rfl, hb1⟩
  have HB1 := hide (bnext HB.out hb1)
  have HR1 := hide (HR.out.below hb1)
  have HY1 := hide (HY.out.below hb1)
  clear hb1 HB HR HY
  obtain ⟨y0, y1⟩ := HY1.out.two
  go_wp2_with fail
  refine (KM _).out.mono ?_
  rintro e w2 ⟨rfl, hb2⟩
  have HB2 := hide (bnext HB1.out hb2)
  have HR2 := hide (HR1.out.below hb2)
  have HY2 := hide (HY1.out.below hb2)
  clear hb2 HB1 HR1 HY1 y0 y1
  obtain ⟨y0, y1⟩ := HY2.out.two
  obtain ⟨r0, r1⟩ := HR2.out.two
  have f0 := HR2.out.free
  go_wp2_with fail
  change bodyPost Try.prog _ _ _ _ (put2 w2 (u.heap.size + 1) (.int .u64 1) (.int .i64 n))
  have HZ := hide (HR2.out.put2 (.int .u64 1) (.int .i64 n))
  have HW := hide (put2_below HB2.out (Nat.le_succ _) (.int .u64 1) (.int .i64 n))
  generalize put2 w2 (u.heap.size + 1) (.int .u64 1) (.int .i64 n) = w3 at *
  clear r0 r1 f0
  obtain ⟨r0, r1⟩ := HZ.out.two
  exact bodyPost_ret (v := .tuple #[.agg #[.int .u64 1, .int .i64 n], .int .i64 0]) (by simp [results, Try.results13, go_sem, r0, r1]) rfl ⟨rfl, HW.out⟩
set_option maxHeartbeats 1000000 in
theorem rNextB (r : Nat) (m n : Int) (u : World) (hr : 1 ≤ r) (hr2 : r < 18446744073709551615) (KA : ∀ v, Hid (Calls Try.prog 8 #[.agg #[.int .u64 (r : Int), .int .i64 n], .agg #[.int .u64 (r : Int), .int .i64 m]] v fun e v' => e = .returned (.bool true) ∧ Below v.heap.size v v')) (KM : ∀ v, Hid (Calls Try.prog 10 #[.agg #[.int .u64 (r : Int), .int .i64 n]] v fun e v' => e = .returned (.bool true) ∧ Below v.heap.size v v')) : Calls Try.prog 13 #[.agg #[.int .u64 (r : Int), .int .i64 m], .int .i64 n] u fun e v => e = .returned (.tuple #[.agg #[.int .u64 (r : Int), .int .i64 n], .int .i64 0]) ∧ Below u.heap.size u v := by
  go_enter Try.func13, Try.ntmps13
  go_wp2_with fail
  have HB := hide (three_below u (.cells #[.int .u64 (r : Int), .int .i64 m] 24) (.cells #[.int .u64 0, .int .i64 0] 24) (.cells #[.int .u64 (r : Int), .int .i64 n] 24))
  have HR := hide ((Box.new (u.alloc (.cells #[.int .u64 (r : Int), .int .i64 m] 24)) #[.int .u64 0, .int .i64 0] 24).below (one_below _ (.cells #[.int .u64 (r : Int), .int .i64 n] 24)))
  have HY := hide (Box.new ((u.alloc (.cells #[.int .u64 (r : Int), .int .i64 m] 24)).alloc (.cells #[.int .u64 0, .int .i64 0] 24)) #[.int .u64 (r : Int), .int .i64 n] 24)
  rw [one_size, one_size] at HY
  rw [one_size] at HR
  generalize ((u.alloc (.cells #[.int .u64 (r : Int), .int .i64 m] 24)).alloc (.cells #[.int .u64 0, .int .i64 0] 24)).alloc (.cells #[.int .u64 (r : Int), .int .i64 n] 24) = w0 at *
  refine (KA _).out.mono ?_
  rintro e w1 ⟨rfl, hb1⟩
  have HB1 := hide (bnext HB.out hb1)
  have HR1 := hide (HR.out.below hb1)
  have HY1 := hide (HY.out.below hb1)
  clear hb1 HB HR HY
  obtain ⟨y0, y1⟩ := HY1.out.two
  go_wp2_with fail
  refine (KM _).out.mono ?_
  rintro e w2 ⟨rfl, hb2⟩
  have HB2 := hide (bnext HB1.out hb2)
  have HR2 := hide (HR1.out.below hb2)
  have HY2 := hide (HY1.out.below hb2)
  clear hb2 HB1 HR1 HY1 y0 y1
  obtain ⟨y0, y1⟩ := HY2.out.two
  obtain ⟨r0, r1⟩ := HR2.out.two
  have f0 := HR2.out.free
  go_wp2_with fail
  change bodyPost Try.prog _ _ _ _ (put2 w2 (u.heap.size + 1) (.int .u64 (r : Int)) (.int .i64 n))
  have HZ := hide (HR2.out.put2 (.int .u64 (r : Int)) (.int .i64 n))
  have HW := hide (put2_below HB2.out (Nat.le_succ _) (.int .u64 (r : Int)) (.int .i64 n))
  generalize put2 w2 (u.heap.size + 1) (.int .u64 (r : Int)) (.int .i64 n) = w3 at *
  clear r0 r1 f0
  obtain ⟨r0, r1⟩ := HZ.out.two
  exact bodyPost_ret (v := .tuple #[.agg #[.int .u64 (r : Int), .int .i64 n], .int .i64 0]) (by simp [results, Try.results13, go_sem, r0, r1]) rfl ⟨rfl, HW.out⟩
set_option maxHeartbeats 1000000 in
theorem rNextC (r : Nat) (m n : Int) (u : World) (hr : 1 ≤ r) (hr2 : r < 18446744073709551615) (KA : ∀ v, Hid (Calls Try.prog 8 #[.agg #[.int .u64 (r : Int), .int .i64 n], .agg #[.int .u64 (r : Int), .int .i64 m]] v fun e v' => e = .returned (.bool false) ∧ Below v.heap.size v v')) (KM : ∀ v, Hid (Calls Try.prog 10 #[.agg #[.int .u64 ((r : Int) + 1), .int .i64 n]] v fun e v' => e = .returned (.bool true) ∧ Below v.heap.size v v')) : Calls Try.prog 13 #[.agg #[.int .u64 (r : Int), .int .i64 m], .int .i64 n] u fun e v => e = .returned (.tuple #[.agg #[.int .u64 ((r : Int) + 1), .int .i64 n], .int .i64 0]) ∧ Below u.heap.size u v := by
  go_enter Try.func13, Try.ntmps13
  go_wp2_with fail
  have HB := hide (three_below u (.cells #[.int .u64 (r : Int), .int .i64 m] 24) (.cells #[.int .u64 0, .int .i64 0] 24) (.cells #[.int .u64 (r : Int), .int .i64 n] 24))
  have HR := hide ((Box.new (u.alloc (.cells #[.int .u64 (r : Int), .int .i64 m] 24)) #[.int .u64 0, .int .i64 0] 24).below (one_below _ (.cells #[.int .u64 (r : Int), .int .i64 n] 24)))
  have HY := hide (Box.new ((u.alloc (.cells #[.int .u64 (r : Int), .int .i64 m] 24)).alloc (.cells #[.int .u64 0, .int .i64 0] 24)) #[.int .u64 (r : Int), .int .i64 n] 24)
  rw [one_size, one_size] at HY
  rw [one_size] at HR
  generalize ((u.alloc (.cells #[.int .u64 (r : Int), .int .i64 m] 24)).alloc (.cells #[.int .u64 0, .int .i64 0] 24)).alloc (.cells #[.int .u64 (r : Int), .int .i64 n] 24) = w0 at *
  refine (KA _).out.mono ?_
  rintro e w1 ⟨rfl, hb1⟩
  have HB1 := hide (bnext HB.out hb1)
  have HR1 := hide (HR.out.below hb1)
  have HY1 := hide (HY.out.below hb1)
  clear hb1 HB HR HY
  obtain ⟨y0, y1⟩ := HY1.out.two
  have f0 := HY1.out.free
  have HY1' := hide (HY1.out.put0 (.int .u64 ((r : Int) + 1)))
  have HR1' := hide (HR1.out.other ⟨u.heap.size + 1 + 1, 0, none⟩ (.int .u64 ((r : Int) + 1)) (by simp))
  have HB1' := hide (HB1.out.setCell (p := ⟨u.heap.size + 1 + 1, 0, none⟩) (show u.heap.size ≤ u.heap.size + 1 + 1 by omega) (.int .u64 ((r : Int) + 1)))
  go_wp2_with fail
  clear y0 y1 f0 HY1 HR1 HB1
  generalize w1.setCell ⟨u.heap.size + 1 + 1, 0, none⟩ (.int .u64 ((r : Int) + 1)) = w1' at *
  have HY1 := HY1'
  have HR1 := HR1'
  have HB1 := HB1'
  obtain ⟨y0, y1⟩ := HY1.out.two
  clear HY1' HR1' HB1'
  refine (KM _).out.mono ?_
  rintro e w2 ⟨rfl, hb2⟩
  have HB2 := hide (bnext HB1.out hb2)
  have HR2 := hide (HR1.out.below hb2)
  have HY2 := hide (HY1.out.below hb2)
  clear hb2 HB1 HR1 HY1 y0 y1
  obtain ⟨y0, y1⟩ := HY2.out.two
  obtain ⟨r0, r1⟩ := HR2.out.two
  have f0 := HR2.out.free
  go_wp2_with fail
  change bodyPost Try.prog _ _ _ _ (put2 w2 (u.heap.size + 1) (.int .u64 ((r : Int) + 1)) (.int .i64 n))
  have HZ := hide (HR2.out.put2 (.int .u64 ((r : Int) + 1)) (.int .i64 n))
  have HW := hide (put2_below HB2.out (Nat.le_succ _) (.int .u64 ((r : Int) + 1)) (.int .i64 n))
  generalize put2 w2 (u.heap.size + 1) (.int .u64 ((r : Int) + 1)) (.int .i64 n) = w3 at *
  clear r0 r1 f0
  obtain ⟨r0, r1⟩ := HZ.out.two
  exact bodyPost_ret (v := .tuple #[.agg #[.int .u64 ((r : Int) + 1), .int .i64 n], .int .i64 0]) (by simp [results, Try.results13, go_sem, r0, r1]) rfl ⟨rfl, HW.out⟩
set_option maxHeartbeats 1000000 in
theorem rNextD (r : Nat) (m n : Int) (u : World) (hr : 1 ≤ r) (hr2 : r < 18446744073709551615) (KA : ∀ v, Hid (Calls Try.prog 8 #[.agg #[.int .u64 (r : Int), .int .i64 n], .agg #[.int .u64 (r : Int), .int .i64 m]] v fun e v' => e = .returned (.bool false) ∧ Below v.heap.size v v')) (KM : ∀ v, Hid (Calls Try.prog 10 #[.agg #[.int .u64 ((r : Int) + 1), .int .i64 n]] v fun e v' => e = .returned (.bool false) ∧ Below v.heap.size v v')) : Calls Try.prog 13 #[.agg #[.int .u64 (r : Int), .int .i64 m], .int .i64 n] u fun e v => e = .returned (.tuple #[.agg #[.int .u64 0, .int .i64 0], .int .i64 9]) ∧ Below u.heap.size u v := by
  go_enter Try.func13, Try.ntmps13
  go_wp2_with fail
  have HB := hide (three_below u (.cells #[.int .u64 (r : Int), .int .i64 m] 24) (.cells #[.int .u64 0, .int .i64 0] 24) (.cells #[.int .u64 (r : Int), .int .i64 n] 24))
  have HR := hide ((Box.new (u.alloc (.cells #[.int .u64 (r : Int), .int .i64 m] 24)) #[.int .u64 0, .int .i64 0] 24).below (one_below _ (.cells #[.int .u64 (r : Int), .int .i64 n] 24)))
  have HY := hide (Box.new ((u.alloc (.cells #[.int .u64 (r : Int), .int .i64 m] 24)).alloc (.cells #[.int .u64 0, .int .i64 0] 24)) #[.int .u64 (r : Int), .int .i64 n] 24)
  rw [one_size, one_size] at HY
  rw [one_size] at HR
  generalize ((u.alloc (.cells #[.int .u64 (r : Int), .int .i64 m] 24)).alloc (.cells #[.int .u64 0, .int .i64 0] 24)).alloc (.cells #[.int .u64 (r : Int), .int .i64 n] 24) = w0 at *
  refine (KA _).out.mono ?_
  rintro e w1 ⟨rfl, hb1⟩
  have HB1 := hide (bnext HB.out hb1)
  have HR1 := hide (HR.out.below hb1)
  have HY1 := hide (HY.out.below hb1)
  clear hb1 HB HR HY
  obtain ⟨y0, y1⟩ := HY1.out.two
  have f0 := HY1.out.free
  have HY1' := hide (HY1.out.put0 (.int .u64 ((r : Int) + 1)))
  have HR1' := hide (HR1.out.other ⟨u.heap.size + 1 + 1, 0, none⟩ (.int .u64 ((r : Int) + 1)) (by simp))
  have HB1' := hide (HB1.out.setCell (p := ⟨u.heap.size + 1 + 1, 0, none⟩) (show u.heap.size ≤ u.heap.size + 1 + 1 by omega) (.int .u64 ((r : Int) + 1)))
  go_wp2_with fail
  clear y0 y1 f0 HY1 HR1 HB1
  generalize w1.setCell ⟨u.heap.size + 1 + 1, 0, none⟩ (.int .u64 ((r : Int) + 1)) = w1' at *
  have HY1 := HY1'
  have HR1 := HR1'
  have HB1 := HB1'
  obtain ⟨y0, y1⟩ := HY1.out.two
  clear HY1' HR1' HB1'
  refine (KM _).out.mono ?_
  rintro e w2 ⟨rfl, hb2⟩
  have HB2 := hide (bnext HB1.out hb2)
  have HR2 := hide (HR1.out.below hb2)
  have HY2 := hide (HY1.out.below hb2)
  clear hb2 HB1 HR1 HY1 y0 y1
  obtain ⟨y0, y1⟩ := HY2.out.two
  obtain ⟨r0, r1⟩ := HR2.out.two
  have f0 := HR2.out.free
  go_wp2_with fail
  change bodyPost Try.prog _ _ _ _ (put2 w2 (u.heap.size + 1) (.int .u64 0) (.int .i64 0))
  have HZ := hide (HR2.out.put2 (.int .u64 0) (.int .i64 0))
  have HW := hide (put2_below HB2.out (Nat.le_succ _) (.int .u64 0) (.int .i64 0))
  generalize put2 w2 (u.heap.size + 1) (.int .u64 0) (.int .i64 0) = w3 at *
  clear r0 r1 f0
  obtain ⟨r0, r1⟩ := HZ.out.two
  exact bodyPost_ret (v := .tuple #[.agg #[.int .u64 0, .int .i64 0], .int .i64 9]) (by simp [results, Try.results13, go_sem, r0, r1]) rfl ⟨rfl, HW.out⟩
theorem rNext (b : Bl) (n : Int) (u : World) (hb : b.Ok) (hm : may b = true) (hn : node n = true) : Calls Try.prog 13 #[.agg #[.int .u64 (b.r : Int), .int .i64 b.n], .int .i64 n] u fun e v => e = .returned (.tuple #[.agg #[.int .u64 (((next b n).1.r : Nat) : Int), .int .i64 (next b n).1.n], .int .i64 (((next b n).2 : Nat) : Int)]) ∧ Below u.heap.size u v := by
  have hb' := (may_iff b).1 hm
  have hn' := (node_iff n).1 hn
  have hnI : I64 n := by unfold I64; omega
  have hnx : next b n = if may (least b n) = true then (least b n, 0) else (noBl, 9) := by
    unfold next
    rw [hm, hn]
    rfl
  obtain ⟨r, m⟩ := b
  by_cases h0 : r = 0
  · rw [least_zero h0] at hnx
    have hmay : may ⟨1, n⟩ = true := (may_iff _).2 ⟨hn', (by decide : (1 : Nat) ≤ 281474976710656)⟩
    subst h0
    rw [hmay, if_pos rfl] at hnx
    rw [hnx]
    have hok : Bl.Ok ⟨1, n⟩ := ⟨(by decide : (1 : Nat) < 18446744073709551616), hnI⟩
    have hab : above ⟨1, n⟩ ⟨0, m⟩ = true := (above_iff _ _).2 (Or.inl Nat.zero_lt_one)
    have KA := fun u => hide (rAbove ⟨1, n⟩ ⟨0, m⟩ u hok hb)
    rw [hab] at KA
    have KM := fun u => hide (rMay ⟨1, n⟩ u hok)
    rw [hmay] at KM
    exact rNextA m n u KA KM
  · have h1 : 1 ≤ r := by omega
    have h2 : r ≤ 281474976710656 := hb'.2
    have hok : Bl.Ok ⟨r, n⟩ := ⟨hb.1, hnI⟩
    have KA := fun u => hide (rAbove ⟨r, n⟩ ⟨r, m⟩ u hok hb)
    by_cases hlt : m < n
    · rw [least_same h1 hlt] at hnx
      have hmay : may ⟨r, n⟩ = true := (may_iff _).2 ⟨hn', h2⟩
      rw [hmay, if_pos rfl] at hnx
      rw [hnx]
      have hab : above ⟨r, n⟩ ⟨r, m⟩ = true := (above_iff _ _).2 (Or.inr ⟨rfl, hlt⟩)
      rw [hab] at KA
      have KM := fun u => hide (rMay ⟨r, n⟩ u hok)
      rw [hmay] at KM
      exact rNextB r m n u h1 (by omega) KA KM
    · rw [least_more h1 hlt] at hnx
      have hab : above ⟨r, n⟩ ⟨r, m⟩ = false := (above_not _ _).2 (by show ¬ (r < r ∨ r = r ∧ m < n); omega)
      rw [hab] at KA
      have KM := fun u => hide (rMay ⟨r + 1, n⟩ u ⟨(show r + 1 < 18446744073709551616 by omega), hnI⟩)
      by_cases hlt2 : r + 1 ≤ 281474976710656
      · have hmay : may ⟨r + 1, n⟩ = true := (may_iff _).2 ⟨hn', hlt2⟩
        rw [hmay, if_pos rfl] at hnx
        rw [hnx]
        rw [hmay] at KM
        exact rNextC r m n u h1 (by omega) KA KM
      · have hmay : may ⟨r + 1, n⟩ = false := by
          cases hh : may ⟨r + 1, n⟩ with
          | false => rfl
          | true => exact absurd ((may_iff _).1 hh).2 hlt2
        rw [hmay, if_neg (by simp)] at hnx
        rw [hnx]
        rw [hmay] at KM
        exact rNextD r m n u h1 (by omega) KA KM
end Go.Proofs.Ytmpabcojdkpiaaa
