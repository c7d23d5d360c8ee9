/- Whole numbers, and how long a text is, by the program. -/
import Derived.Test.YtodndkmpjpiidaaNum
import Derived.Test.YtodndkmpjpiidaaRefRead
namespace Go.Proofs.Ytodndkmpjpiidaa
open Go Go.RowKit

set_option maxHeartbeats 1000000 in
theorem wWhole_any (x : Nat) (w : World) (hx : x < 18446744073709551616) :
    Calls Try.prog 38 #[.int .u64 (x : Int)] w fun e w' => e = .returned (.int .i64 (zag x)) ∧ w' = w := by
  have ht := turned_i64 (x / 2) (by omega)
  by_cases hp : x % 2 = 1
  · have hz : zag x = -((x / 2 : Nat) : Int) - 1 := by unfold zag; rw [if_pos hp]
    have hp' : (x : Int) % 2 = 1 := by omega
    have HT := hide (And.intro ht hz)
    clear ht hz hp
    go_enter Try.func38, Try.ntmps38
    go_wp2
    go_ret
    exact ⟨ret_i64 (by rw [HT.out.2, ← HT.out.1]; rfl), rfl⟩
  · have hz : zag x = ((x / 2 : Nat) : Int) := by unfold zag; rw [if_neg hp]
    have hp' : ¬ ((x : Int) % 2 = 1) := by omega
    have HZ := hide hz
    clear ht hz hp
    go_enter Try.func38, Try.ntmps38
    go_wp2
    go_ret
    exact ⟨ret_i64 (by rw [HZ.out]; omega), rfl⟩

/-- How long what stands at the front is, how many bytes that number has, and the fault. -/
def cnt3 (s : ByteArray) (most : Int) : Nat × Nat × Nat :=
  if (rd (bytesOf s)).2 = 0 then (0, 0, 8)
  else if most < 0 ∨ most < ((rd (bytesOf s)).1 : Int) then (0, 0, 4)
  else if s.size - (rd (bytesOf s)).2 < (rd (bytesOf s)).1 then (0, 0, 8)
  else ((rd (bytesOf s)).1, (rd (bytesOf s)).2, 0)
set_option maxRecDepth 10000 in
set_option maxHeartbeats 2000000 in
theorem wCount_any (s : ByteArray) (most : Int) (w : World) (hs : s.size ≤ maxLen) (hm : most ≤ 9223372036854775807) :
    Calls Try.prog 40 #[.string s, .int .i64 most] w fun e w' => e = .returned (.tuple #[.int .i64 (((cnt3 s most).1 : Nat) : Int), .int .i64 (((cnt3 s most).2.1 : Nat) : Int), .int .i64 (((cnt3 s most).2.2 : Nat) : Int)]) ∧ w' = w := by
  have HN := hide (fun u => wNumber_any s u hs)
  have hlen := rd_len s
  have hlt := rd_lt s
  unfold maxLen at hs
  unfold cnt3
  generalize rd (bytesOf s) = R at *
  obtain ⟨x, n⟩ := R
  simp only at *
  by_cases hn : n = 0
  · rw [if_pos hn]
    subst hn
    rw [flt_zero] at HN
    go_enter Try.func40, Try.ntmps40
    go_wp2_with fail
    refine (HN.out _).mono ?_
    rintro e w1 ⟨rfl, rfl⟩
    go_wp2
    go_ret3
    exact ⟨rfl, rfl⟩
  · rw [if_neg hn]
    have hf : flt n = 0 := by unfold flt; rw [if_neg hn]
    rw [hf] at HN
    by_cases hx : most < 0 ∨ most < (x : Int)
    · rw [if_pos hx]
      by_cases hm0 : most < 0
      · clear hx
        go_enter Try.func40, Try.ntmps40
        go_wp2_with fail
        refine (HN.out _).mono ?_
        rintro e w1 ⟨rfl, rfl⟩
        go_wp2
        go_ret3
        exact ⟨rfl, rfl⟩
      · have hx2 : most < (x : Int) := by omega
        clear hx
        go_enter Try.func40, Try.ntmps40
        go_wp2_with fail
        refine (HN.out _).mono ?_
        rintro e w1 ⟨rfl, rfl⟩
        go_wp2
        go_ret3
        exact ⟨rfl, rfl⟩
    · rw [if_neg hx]
      have hm0 : ¬ most < 0 := by omega
      have hx2 : ¬ most < (x : Int) := by omega
      clear hx
      by_cases hl : s.size - n < x
      · rw [if_pos hl]
        have hl2 : (s.size : Int) - (n : Int) < (x : Int) := by omega
        clear hl
        go_enter Try.func40, Try.ntmps40
        go_wp2_with fail
        refine (HN.out _).mono ?_
        rintro e w1 ⟨rfl, rfl⟩
        go_wp2
        go_ret3
        exact ⟨rfl, rfl⟩
      · rw [if_neg hl]
        have hl2 : ¬ ((s.size : Int) - (n : Int) < (x : Int)) := by omega
        clear hl
        go_enter Try.func40, Try.ntmps40
        go_wp2_with fail
        refine (HN.out _).mono ?_
        rintro e w1 ⟨rfl, rfl⟩
        go_wp2
        go_ret3
        exact ⟨rfl, rfl⟩
end Go.Proofs.Ytodndkmpjpiidaa
