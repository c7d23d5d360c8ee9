/- The number at the front of bytes, by the program. -/
import Derived.Test.YtodndkmpjpiidaaWrite
import Derived.OwnWalk
namespace Go.Proofs.Ytodndkmpjpiidaa
open Go Go.RowKit

/-- The bits of a group. -/
theorem group_bits (c : Nat) (hc : c < 256) : bits .andNot .u8 (c : Int) 128 = ((c % 128 : Nat) : Int) := by
  have h := u8_andNot_nat c 128 hc (by decide)
  have k : ∀ z, z < 256 → z &&& (255 - 128) = z % 128 := by decide +kernel
  rw [k c hc] at h
  exact h
theorem pow27 (k : Nat) : ((2 : Int) ^ (7 * k)) = ((128 ^ k : Nat) : Int) := by
  have e2 : (2 : Nat) ^ (7 * k) = 128 ^ k := by rw [Nat.pow_mul]
  rw [← e2]; exact (Int.natCast_pow 2 (7 * k)).symm
theorem u64_small (g : Nat) (h : g < 128) : IntKind.u64.wrap (g : Int) = (g : Int) := by rw [u64w]; omega
/-- A group in its place. -/
theorem place (acc g k : Nat) (ha : acc < 128 ^ k) (hg : g < 128) (hk : k < 9 ∨ (k = 9 ∧ g ≤ 1)) :
    IntKind.u64.wrap ((g : Int) * 2 ^ (7 * k)) = ((g * 128 ^ k : Nat) : Int) ∧ ((g * 128 ^ k : Nat) : Int) / 2 ^ (7 * k) = (g : Int) ∧
    bits .or .u64 (acc : Int) ((g * 128 ^ k : Nat) : Int) = ((acc + g * 128 ^ k : Nat) : Int) ∧ acc + g * 128 ^ k < 128 ^ (k + 1) := by
  have hp : 0 < 128 ^ k := Nat.pow_pos (by decide)
  have hlt : g * 128 ^ k + 128 ^ k ≤ 128 ^ (k + 1) := by
    rw [pow128, ← Nat.succ_mul]; exact Nat.mul_le_mul_right _ (by omega)
  have hb : g * 128 ^ k + 128 ^ k ≤ 18446744073709551616 := by
    rcases hk with hi | ⟨rfl, h1⟩
    · have : 128 ^ (k + 1) ≤ 128 ^ 9 := Nat.pow_le_pow_right (by decide) (by omega)
      rw [pow9] at this; omega
    · rw [pow9]; omega
  refine ⟨?_, ?_, ?_, by omega⟩
  · rw [u64w, pow27, ← Int.natCast_mul]; omega
  · rw [pow27, ← Int.natCast_ediv, Nat.mul_div_cancel _ hp]
  · have e2 : (2 : Nat) ^ (7 * k) = 128 ^ k := by rw [Nat.pow_mul]
    have h := u64_or_nat acc (g * 128 ^ k) (by omega) (by omega)
    have h2 := Nat.two_pow_add_eq_or_of_lt (i := 7 * k) (b := acc) (by rw [e2]; exact ha) g
    rw [e2, Nat.mul_comm (128 ^ k)] at h2
    rw [h, Nat.or_comm, ← h2, Nat.add_comm]
/-- A tenth group that is too great. -/
theorem place_not (g k : Nat) (hg : g < 128) (hk : k = 9) (h1 : 1 < g) :
    ∃ P D : Nat, IntKind.u64.wrap ((g : Int) * 2 ^ (7 * k)) = (P : Int) ∧ (P : Int) / 2 ^ (7 * k) = (D : Int) ∧ ¬ ((D : Int) = (g : Int)) := by
  subst hk
  refine ⟨g % 2 * 9223372036854775808, g % 2, ?_, ?_, by omega⟩
  · rw [u64w, pow27, pow9]; omega
  · rw [pow27, pow9]; omega
/-- The fault where no number stands. -/
def flt (n : Nat) : Int := if n = 0 then 8 else 0
theorem flt_zero : flt 0 = 8 := rfl
theorem flt_succ (n : Nat) : flt (n + 1) = 0 := rfl
theorem ret_three {R : Nat × Nat} {a b c : Int} (h : a = (R.1 : Int)) (k : b = (R.2 : Int)) (m : c = flt R.2) :
    Ending.returned (.tuple #[.int .u64 a, .int .i64 b, .int .i64 c]) = .returned (.tuple #[.int .u64 ((R.1 : Nat) : Int), .int .i64 ((R.2 : Nat) : Int), .int .i64 (flt R.2)]) := by rw [h, k, m]
theorem ret_none {R : Nat × Nat} (h : (0, 0) = R) : Ending.returned (.tuple #[.int .u64 0, .int .i64 0, .int .i64 8]) = .returned (.tuple #[.int .u64 ((R.1 : Nat) : Int), .int .i64 ((R.2 : Nat) : Int), .int .i64 (flt R.2)]) := by rw [← h]; rfl

set_option maxRecDepth 10000 in
set_option maxHeartbeats 1000000 in
theorem wNumber1 (s : ByteArray) (w : World) (hs : s.size ≤ maxLen) (hten : (s.size : Int) ≤ 10) :
    Calls Try.prog 35 #[.string s] w fun e w' => e = .returned (.tuple #[.int .u64 (((rd (bytesOf s)).1 : Nat) : Int), .int .i64 (((rd (bytesOf s)).2 : Nat) : Int), .int .i64 (flt (rd (bytesOf s)).2)]) ∧ w' = w := by
  unfold maxLen at hs
  generalize hR : rd (bytesOf s) = R
  have HR := hide hR
  clear hR
  go_enter Try.func35, Try.ntmps35
  go_wp2_with fail
  go_loop [2, 5, 6, 7, 11] (fun x _ _ _ i => ∃ k acc : Nat, k ≤ 10 ∧ k ≤ s.size ∧ i = .int .i64 (k : Int) ∧ x = .int .u64 (acc : Int) ∧ acc < 128 ^ k ∧ rdF ((bytesOf s).drop k) k acc = R) (fun _ _ _ _ i => 10 - (intOf i).toNat)
  case atStart => exact ⟨0, 0, by omega, by omega, rfl, rfl, by decide, HR.out⟩
  case round =>
    obtain ⟨k, acc, hk, hks, rfl, rfl, hacc, hrd⟩ := hrel
    by_cases hlt : k < s.size
    · have h10 : k < 10 := by omega
      rw [bytesOf_drop s k hlt] at hrd
      have hc := s[k].toNat_lt
      have hg := group_bits s[k].toNat hc
      have hW := u64_small (s[k].toNat % 128) (Nat.mod_lt _ (by decide))
      have hgl : s[k].toNat % 128 < 128 := Nat.mod_lt _ (by decide)
      have hgc : s[k].toNat < 128 → s[k].toNat % 128 = s[k].toNat := fun h => Nat.mod_eq_of_lt h
      unfold rdF at hrd
      rw [if_neg (by omega)] at hrd
      by_cases h9 : k = 9 ∧ 1 < s[k].toNat % 128
      · obtain ⟨P, D, hP, hD, hne⟩ := place_not _ k hgl h9.1 h9.2
        rw [if_pos ⟨h9.1, by omega⟩] at hrd
        have HRd := hide hrd
        generalize s[k].toNat % 128 = g at *
        clear hrd hacc h9 hgl hgc
        go_wp2
        go_ret3
        exact ⟨ret_none HRd.out, rfl⟩
      · have hk9 : k < 9 ∨ (k = 9 ∧ s[k].toNat % 128 ≤ 1) := by omega
        obtain ⟨hP, hD, hor, hac⟩ := place acc _ k hacc hgl hk9
        by_cases hs : s[k].toNat < 128
        · rw [if_neg (by rw [hgc hs] at h9; exact h9), if_pos hs] at hrd
          have hs' : (((s[k].toNat : Nat) : Int) < 128) := by omega
          by_cases h0 : s[k].toNat = 0 ∧ 0 < k
          · rw [if_pos h0] at hrd
            have HRd := hide hrd
            have h01 : ((s[k].toNat % 128 : Nat) : Int) = 0 := by omega
            have h02 : (0 : Int) < (k : Int) := by omega
            clear hrd hac hor hacc h0 hs hk9 h9 hgc hgl
            generalize s[k].toNat % 128 = g at *
            go_wp2
            go_ret3
            exact ⟨ret_none HRd.out, rfl⟩
          · rw [if_neg h0] at hrd
            by_cases h00 : s[k].toNat = 0
            · have hk0 : k = 0 := by omega
              have ha0 : acc = 0 := by rw [hk0] at hacc; simpa using hacc
              have HRd : Hid ((0, 1) = R) := by unfold Hid; rw [← hrd, h00, hk0, ha0]
              have HZ : Hid (s[k].toNat % 128 = 0) := by unfold Hid; omega
              have HK0 := hide hk0
              have h02 : ¬ ((0 : Int) < (k : Int)) := by omega
              have HA0 := hide ha0
              generalize s[k].toNat % 128 = g at *
              have hPP : g * 128 ^ k = 0 := by rw [HZ.out]; simp
              generalize g * 128 ^ k = P at *
              have HOr := hide (And.intro hor hPP)
              clear hrd hac hor hacc h0 hs hk9 h9 hgc hgl hk0 ha0 hPP h00
              go_wp2
              all_goals
                first
                | exact absurd HZ.out (by omega)
                | (go_ret3
                   exact ⟨ret_three (by rw [← HRd.out, HOr.out.1, HA0.out, HOr.out.2]) (by rw [← HRd.out, HK0.out]; rfl) (by rw [← HRd.out]; rfl), rfl⟩)
            · have h01 : ¬ (((s[k].toNat % 128 : Nat) : Int) = 0) := by omega
              have HRd := hide hrd
              generalize s[k].toNat % 128 = g at *
              generalize g * 128 ^ k = P at *
              clear hrd hac hacc h0 hs hk9 h9 hgc hgl
              have HOr := hide hor
              clear hor
              go_wp2
              all_goals
                go_ret3
                exact ⟨ret_three (by rw [← HRd.out]; exact HOr.out) (by rw [← HRd.out]; first | rfl | omega) (by rw [← HRd.out]; rfl), rfl⟩
        · have hs' : ¬ (((s[k].toNat : Nat) : Int) < 128) := by omega
          have HRd : Hid (rdF ((bytesOf s).drop (k + 1)) (k + 1) (acc + s[k].toNat % 128 * 128 ^ k) = R) := by
            unfold Hid
            by_cases e9 : k = 9
            · rw [if_pos ⟨e9, by omega⟩] at hrd
              rw [← hrd]
              exact rdF_ten _ _ _ (by omega)
            · rw [if_neg (fun h => e9 h.1), if_neg hs] at hrd
              exact hrd
          have HAc := hide hac
          clear hrd hacc hk9 h9 hgc hgl hac
          generalize s[k].toNat % 128 = g at *
          generalize g * 128 ^ k = P at *
          have HOr := hide hor
          clear hor
          go_wp2
          go_round
          case rel => exact ⟨k + 1, acc + P, by omega, by omega, by go_num, congrArg _ HOr.out, HAc.out, HRd.out⟩
          case measure => simp [intOf]; omega
    · have HRd := hide (Eq.trans (by rw [List.drop_eq_nil_of_le (by rw [bytesOf_length]; omega)]) hrd)
      have hke : k = s.size := by omega
      clear hrd hacc
      subst hke
      go_wp2
      go_ret3
      exact ⟨ret_none HRd.out, rfl⟩
set_option maxRecDepth 10000 in
set_option maxHeartbeats 1000000 in
theorem wNumber2 (s : ByteArray) (w : World) (hs : s.size ≤ maxLen) (hten : ¬ ((s.size : Int) ≤ 10)) :
    Calls Try.prog 35 #[.string s] w fun e w' => e = .returned (.tuple #[.int .u64 (((rd (bytesOf s)).1 : Nat) : Int), .int .i64 (((rd (bytesOf s)).2 : Nat) : Int), .int .i64 (flt (rd (bytesOf s)).2)]) ∧ w' = w := by
  unfold maxLen at hs
  generalize hR : rd (bytesOf s) = R
  have HR := hide hR
  clear hR
  go_enter Try.func35, Try.ntmps35
  go_wp2_with fail
  go_loop [2, 5, 6, 7, 11] (fun x _ _ _ i => ∃ k acc : Nat, k ≤ 10 ∧ k ≤ s.size ∧ i = .int .i64 (k : Int) ∧ x = .int .u64 (acc : Int) ∧ acc < 128 ^ k ∧ rdF ((bytesOf s).drop k) k acc = R) (fun _ _ _ _ i => 10 - (intOf i).toNat)
  case atStart => exact ⟨0, 0, by omega, by omega, rfl, rfl, by decide, HR.out⟩
  case round =>
    obtain ⟨k, acc, hk, hks, rfl, rfl, hacc, hrd⟩ := hrel
    by_cases h10 : k < 10
    · have hlt : k < s.size := by omega
      rw [bytesOf_drop s k hlt] at hrd
      have hc := s[k].toNat_lt
      have hg := group_bits s[k].toNat hc
      have hW := u64_small (s[k].toNat % 128) (Nat.mod_lt _ (by decide))
      have hgl : s[k].toNat % 128 < 128 := Nat.mod_lt _ (by decide)
      have hgc : s[k].toNat < 128 → s[k].toNat % 128 = s[k].toNat := fun h => Nat.mod_eq_of_lt h
      unfold rdF at hrd
      rw [if_neg (by omega)] at hrd
      by_cases h9 : k = 9 ∧ 1 < s[k].toNat % 128
      · obtain ⟨P, D, hP, hD, hne⟩ := place_not _ k hgl h9.1 h9.2
        rw [if_pos ⟨h9.1, by omega⟩] at hrd
        have HRd := hide hrd
        generalize s[k].toNat % 128 = g at *
        clear hrd hacc h9 hgl hgc
        go_wp2
        go_ret3
        exact ⟨ret_none HRd.out, rfl⟩
      · have hk9 : k < 9 ∨ (k = 9 ∧ s[k].toNat % 128 ≤ 1) := by omega
        obtain ⟨hP, hD, hor, hac⟩ := place acc _ k hacc hgl hk9
        by_cases hs : s[k].toNat < 128
        · rw [if_neg (by rw [hgc hs] at h9; exact h9), if_pos hs] at hrd
          have hs' : (((s[k].toNat : Nat) : Int) < 128) := by omega
          by_cases h0 : s[k].toNat = 0 ∧ 0 < k
          · rw [if_pos h0] at hrd
            have HRd := hide hrd
            have h01 : ((s[k].toNat % 128 : Nat) : Int) = 0 := by omega
            have h02 : (0 : Int) < (k : Int) := by omega
            clear hrd hac hor hacc h0 hs hk9 h9 hgc hgl
            generalize s[k].toNat % 128 = g at *
            go_wp2
            go_ret3
            exact ⟨ret_none HRd.out, rfl⟩
          · rw [if_neg h0] at hrd
            by_cases h00 : s[k].toNat = 0
            · have hk0 : k = 0 := by omega
              have ha0 : acc = 0 := by rw [hk0] at hacc; simpa using hacc
              have HRd : Hid ((0, 1) = R) := by unfold Hid; rw [← hrd, h00, hk0, ha0]
              have HZ : Hid (s[k].toNat % 128 = 0) := by unfold Hid; omega
              have HK0 := hide hk0
              have h02 : ¬ ((0 : Int) < (k : Int)) := by omega
              have HA0 := hide ha0
              generalize s[k].toNat % 128 = g at *
              have hPP : g * 128 ^ k = 0 := by rw [HZ.out]; simp
              generalize g * 128 ^ k = P at *
              have HOr := hide (And.intro hor hPP)
              clear hrd hac hor hacc h0 hs hk9 h9 hgc hgl hk0 ha0 hPP h00
              go_wp2
              all_goals
                first
                | exact absurd HZ.out (by omega)
                | (go_ret3
                   exact ⟨ret_three (by rw [← HRd.out, HOr.out.1, HA0.out, HOr.out.2]) (by rw [← HRd.out, HK0.out]; rfl) (by rw [← HRd.out]; rfl), rfl⟩)
            · have h01 : ¬ (((s[k].toNat % 128 : Nat) : Int) = 0) := by omega
              have HRd := hide hrd
              generalize s[k].toNat % 128 = g at *
              generalize g * 128 ^ k = P at *
              clear hrd hac hacc h0 hs hk9 h9 hgc hgl
              have HOr := hide hor
              clear hor
              go_wp2
              all_goals
                go_ret3
                exact ⟨ret_three (by rw [← HRd.out]; exact HOr.out) (by rw [← HRd.out]; first | rfl | omega) (by rw [← HRd.out]; rfl), rfl⟩
        · have hs' : ¬ (((s[k].toNat : Nat) : Int) < 128) := by omega
          have HRd : Hid (rdF ((bytesOf s).drop (k + 1)) (k + 1) (acc + s[k].toNat % 128 * 128 ^ k) = R) := by
            unfold Hid
            by_cases e9 : k = 9
            · rw [if_pos ⟨e9, by omega⟩] at hrd
              rw [← hrd]
              exact rdF_ten _ _ _ (by omega)
            · rw [if_neg (fun h => e9 h.1), if_neg hs] at hrd
              exact hrd
          have HAc := hide hac
          clear hrd hacc hk9 h9 hgc hgl hac
          generalize s[k].toNat % 128 = g at *
          generalize g * 128 ^ k = P at *
          have HOr := hide hor
          clear hor
          go_wp2
          go_round
          case rel => exact ⟨k + 1, acc + P, by omega, by omega, by go_num, congrArg _ HOr.out, HAc.out, HRd.out⟩
          case measure => simp [intOf]; omega
    · have HRd := hide ((rdF_ten _ k acc (by omega)).symm.trans hrd)
      have hke : k = 10 := by omega
      clear hrd hacc
      subst hke
      go_wp2
      go_ret3
      exact ⟨ret_none HRd.out, rfl⟩
theorem wNumber_any (s : ByteArray) (w : World) (hs : s.size ≤ maxLen) :
    Calls Try.prog 35 #[.string s] w fun e w' => e = .returned (.tuple #[.int .u64 (((rd (bytesOf s)).1 : Nat) : Int), .int .i64 (((rd (bytesOf s)).2 : Nat) : Int), .int .i64 (flt (rd (bytesOf s)).2)]) ∧ w' = w := by
  by_cases h : (s.size : Int) ≤ 10
  · exact wNumber1 s w hs h
  · exact wNumber2 s w hs h
end Go.Proofs.Ytodndkmpjpiidaa
