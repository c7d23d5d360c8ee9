/- The program's inTurn, Cmp. -/
import Derived.Test.YtmpabcojdkpiaaaMeA
namespace Go.Proofs.Ytmpabcojdkpiaaa
open Go Go.RowKit

theorem cmpB_turns (a b : Bl) : cmpB a b = if cmpI a.r b.r = 0 then cmpI a.n b.n else cmpI a.r b.r := by
  unfold cmpB cmpI above
  simp only [decide_eq_true_iff]
  repeat' split
  all_goals omega
theorem cmpB_first {a b : Bl} (h : cmpI a.r b.r ≠ 0) : cmpB a b = cmpI a.r b.r := by rw [cmpB_turns, if_neg h]
theorem cmpB_second {a b : Bl} (h : cmpI a.r b.r = 0) : cmpB a b = cmpI a.n b.n := by rw [cmpB_turns, if_pos h]
set_option maxHeartbeats 1000000 in
theorem inTurn_any (a b : Bl) (X : Nat) (u : World) (hX : Box u X #[.func (.func 20) #[] #[], .func (.func 21) #[] #[]] 48) : Calls Try.prog 19 #[.agg #[.int .u64 (a.r : Int), .int .i64 a.n], .agg #[.int .u64 (b.r : Int), .int .i64 b.n], .slice (some ⟨X, 0, none⟩) 2 2] u fun e v => e = .returned (.int .i64 (cmpB a b)) ∧ Below u.heap.size u v := by
  have HX := hide hX
  clear hX
  go_enter Try.func19, Try.ntmps19
  go_wp2_with fail
  have HB := hide (two_below u (.cells #[.int .u64 (a.r : Int), .int .i64 a.n] 47) (.cells #[.int .u64 (b.r : Int), .int .i64 b.n] 47))
  have HP := hide ((Box.new u #[.int .u64 (a.r : Int), .int .i64 a.n] 47).below (one_below _ (.cells #[.int .u64 (b.r : Int), .int .i64 b.n] 47)))
  have HQ := hide (Box.new (u.alloc (.cells #[.int .u64 (a.r : Int), .int .i64 a.n] 47)) #[.int .u64 (b.r : Int), .int .i64 b.n] 47)
  have HX0 := hide (HX.out.below HB.out)
  rw [one_size] at HQ
  generalize (u.alloc (.cells #[.int .u64 (a.r : Int), .int .i64 a.n] 47)).alloc (.cells #[.int .u64 (b.r : Int), .int .i64 b.n] 47) = w0 at *
  go_loopw [8, 9, 12] (fun _ _ k w => ∃ x : Nat, x ≤ 2 ∧ k = .int .i64 (x : Int) ∧ (1 ≤ x → cmpI a.r b.r = 0) ∧ (2 ≤ x → cmpI a.n b.n = 0) ∧ Below w0.heap.size w0 w) (fun _ _ k _ => 2 - (intOf k).toNat)
  case atStart => exact ⟨0, Nat.zero_le _, rfl, fun h => by omega, fun h => by omega, Below.refl _ _⟩
  case round =>
    obtain ⟨x, hx, rfl, h1, h2, hb⟩ := hrel
    have HB1 := hide (bnext HB.out hb)
    have HP1 := hide (HP.out.below hb)
    have HQ1 := hide (HQ.out.below hb)
    have HX1 := hide (HX0.out.below hb)
    have Hb := hide hb
    clear hb
    obtain ⟨p0, p1⟩ := HP1.out.two
    obtain ⟨q0, q1⟩ := HQ1.out.two
    obtain ⟨x0, x1⟩ := HX1.out.two
    rcases (by omega : x = 0 ∨ x = 1 ∨ x = 2) with rfl | rfl | rfl
    · clear h1 h2
      go_wp2_with fail
      refine (byRound_any a b _).mono ?_
      rintro e w1 ⟨rfl, hb1⟩
      have HB2 := hide (bnext Hb.out hb1)
      have HB3 := hide (bnext HB1.out hb1)
      clear p0 p1 q0 q1 x0 x1 hb1
      by_cases hz : cmpI a.r b.r = 0
      · have HZ := hide hz
        rw [hz]
        clear hz
        go_wp2
        go_round
        case rel => exact ⟨1, by omega, by go_num, fun _ => HZ.out, fun h => by omega, HB2.out⟩
        case measure => simp [intOf]
      · have HE := hide (cmpB_first hz)
        generalize cmpI a.r b.r = C at *
        go_wp2
        go_ret
        exact ⟨by rw [HE.out]; rfl, HB3.out⟩
    · have h1' := h1 (Nat.le_refl _)
      clear h1 h2
      have HE := hide (cmpB_second h1')
      have H1 := hide h1'
      clear h1'
      go_wp2_with fail
      refine (byNode_any a b _).mono ?_
      rintro e w1 ⟨rfl, hb1⟩
      have HB2 := hide (bnext Hb.out hb1)
      have HB3 := hide (bnext HB1.out hb1)
      clear p0 p1 q0 q1 x0 x1 hb1
      by_cases hz : cmpI a.n b.n = 0
      · have HZ := hide hz
        rw [hz]
        clear hz
        go_wp2
        go_round
        case rel => exact ⟨2, by omega, by go_num, fun _ => H1.out, fun _ => HZ.out, HB2.out⟩
        case measure => simp [intOf]
      · generalize cmpI a.n b.n = C at *
        go_wp2
        go_ret
        exact ⟨by rw [HE.out]; rfl, HB3.out⟩
    · have h1' := h1 (by omega)
      have HE := hide ((cmpB_second h1').trans (h2 (Nat.le_refl _)))
      clear h1 h2 h1'
      clear p0 p1 q0 q1 x0 x1
      go_wp2
      go_ret
      exact ⟨by rw [HE.out]; rfl, HB1.out⟩
set_option maxHeartbeats 1000000 in
theorem cmp_any (a b : Bl) (u : World) : Calls Try.prog 11 #[.agg #[.int .u64 (a.r : Int), .int .i64 a.n], .agg #[.int .u64 (b.r : Int), .int .i64 b.n]] u fun e v => e = .returned (.int .i64 (cmpB a b)) ∧ Below u.heap.size u v := by
  go_enter Try.func11, Try.ntmps11
  go_wp2_with fail
  have HX := hide (Box.new ((u.alloc (.cells #[.int .u64 (a.r : Int), .int .i64 a.n] 24)).alloc (.cells #[.int .u64 (b.r : Int), .int .i64 b.n] 24)) #[.func (.func 20) #[] #[], .func (.func 21) #[] #[]] 48)
  rw [one_size, one_size] at HX
  have HB := hide (three_below u (.cells #[.int .u64 (a.r : Int), .int .i64 a.n] 24) (.cells #[.int .u64 (b.r : Int), .int .i64 b.n] 24) (.cells #[.func (.func 20) #[] #[], .func (.func 21) #[] #[]] 48))
  generalize ((u.alloc (.cells #[.int .u64 (a.r : Int), .int .i64 a.n] 24)).alloc (.cells #[.int .u64 (b.r : Int), .int .i64 b.n] 24)).alloc (.cells #[.func (.func 20) #[] #[], .func (.func 21) #[] #[]] 48) = w0 at *
  refine (inTurn_any a b _ _ HX.out).mono ?_
  rintro e w1 ⟨rfl, hb1⟩
  have HB1 := hide (bnext HB.out hb1)
  clear hb1
  go_wp2
  go_ret
  exact ⟨rfl, HB1.out⟩
end Go.Proofs.Ytmpabcojdkpiaaa
