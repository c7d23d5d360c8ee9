/- The program's Quorum. -/
import Derived.Test.YtmpabcojdkpiaaaMeC
namespace Go.Proofs.Ytmpabcojdkpiaaa
open Go Go.RowKit

set_option maxHeartbeats 1000000 in
theorem quorum_bad (a : Option Addr) (c : Nat) (l : List Int) (n : Int) (u : World) (hn : ¬ (1 ≤ n ∧ n ≤ 7)) : Calls Try.prog 15 #[.slice a l.length c, .int .i64 n] u fun e v => e = .returned (.tuple #[.bool (quorum l n).1, .int .i64 (((quorum l n).2 : Nat) : Int)]) ∧ Below u.heap.size u v := by
  rw [quorum_no hn]
  have HM := hide (majority_any n u)
  have hM : majority n = (0, 2) := by
    unfold majority
    rw [if_neg (fun h => hn ((size_iff n).1 h))]
  rw [hM] at HM
  clear hM hn
  go_enter Try.func15, Try.ntmps15
  go_wp2_with fail
  refine HM.out.mono ?_
  rintro e w1 ⟨rfl, hb⟩
  have HB := hide hb
  clear hb
  go_wp2
  go_ret2
  exact ⟨rfl, HB.out⟩
set_option maxHeartbeats 1000000 in
theorem quorum_good (a : Option Addr) (c : Nat) (l : List Int) (n : Nat) (u : World) (ha : IntsAt u a l) (hl : l.length ≤ 1000) (h1 : 1 ≤ n) (h7 : n ≤ 7) : Calls Try.prog 15 #[.slice a l.length c, .int .i64 (n : Int)] u fun e v => e = .returned (.tuple #[.bool (quorum l n).1, .int .i64 (((quorum l n).2 : Nat) : Int)]) ∧ Below u.heap.size u v := by
  have HA := hide ha
  have hM : majority n = (n / 2 + 1, 0) := by
    unfold majority
    rw [if_pos ((size_iff _).2 (by omega))]
    rfl
  have HM : Hid (Calls Try.prog 14 #[.int .i64 (n : Int)] u fun e v => e = .returned (.tuple #[.int .i64 ((n : Int) / 2 + 1), .int .i64 0]) ∧ Below u.heap.size u v) := by
    refine (majority_any n u).mono ?_
    rintro e v ⟨rfl, h⟩
    rw [hM]
    exact ⟨tup_eq (int_eq (show ((n / 2 + 1 : Nat) : Int) = (n : Int) / 2 + 1 by omega)) rfl, h⟩
  clear hM ha
  go_enter Try.func15, Try.ntmps15
  go_wp2_with fail
  refine HM.out.mono ?_
  rintro e w1 ⟨rfl, hb⟩
  have HB := hide hb
  clear hb HM
  go_wp2_with fail
  have HX := hide (Box.new w1 #[.int .i64 0, .int .i64 0, .int .i64 0, .int .i64 0, .int .i64 0, .int .i64 0, .int .i64 0] 50)
  have HB0 := hide (HB.out.trans ((one_below w1 (.cells #[.int .i64 0, .int .i64 0, .int .i64 0, .int .i64 0, .int .i64 0, .int .i64 0, .int .i64 0] 50)).mono HB.out.size))
  have HS := hide HB.out.size
  clear HB
  generalize w1.alloc (.cells #[.int .i64 0, .int .i64 0, .int .i64 0, .int .i64 0, .int .i64 0, .int .i64 0, .int .i64 0] 50) = w0 at *
  generalize w1.heap.size = X at *
  go_loopw [10, 21] (fun _ k w => ∃ j : Nat, j ≤ l.length ∧ k = .int .i64 (j : Int) ∧ (∀ x ∈ l.take j, 0 ≤ x ∧ x < (n : Int)) ∧ Box w X (rowM (l.take j)) 50 ∧ Below u.heap.size u w) (fun _ k _ => l.length - (intOf k).toNat)
  case atStart => exact ⟨0, Nat.zero_le _, rfl, fun x hm => by simp at hm, HX.out, HB0.out⟩
  case round =>
    obtain ⟨j, hj, rfl, hin, hbx, hb⟩ := hrel
    have HI := hide hin
    have HX1 := hide hbx
    have HB1 := hide hb
    clear hin hbx hb
    by_cases hlt : j < l.length
    · have hI := HA.out.old HB1.out
      obtain ⟨b, off, rfl, hdrop⟩ := hI.there (by omega)
      clear hdrop
      have c0 := hI.get hlt
      clear hI
      have HP := hide (fun x (hx : x < 7) hl => rowM_put l j hlt x hx hl)
      have HO := hide (fun h => quorum_out (l := l) (n := n) h j hlt)
      have HT1 := hide (fun h => take_in (l := l) (n := n) hlt HI.out h)
      obtain ⟨V, hVe⟩ : ∃ V, l[j] = V := ⟨_, rfl⟩
      rw [hVe] at c0 HO HT1 HP
      clear hVe
      go_wp2_with fail
      refine (isNode_any _ _ _).mono ?_
      rintro e w2 ⟨rfl, hw⟩
      obtain rfl := hw.symm
      clear hw c0
      by_cases hV : 0 ≤ V ∧ V < (n : Int)
      · rw [decide_eq_true hV]
        have HT2 := hide (HT1.out hV)
        obtain ⟨x, rfl⟩ := Int.eq_ofNat_of_zero_le hV.1
        have hx7 : x < 7 := by omega
        have HP1 := hide (HP.out x hx7 rfl)
        have c1 := HX1.out.get x (rowM_get (l.take j) x hx7)
        have f1 := HX1.out.free x
        clear hV HP HO HT1
        have HX2 : Hid (Box (wr.setCell ⟨X, x, none⟩ (.int .i64 1)) X (rowM (l.take (j + 1))) 50) := by
          show (wr.setCell ⟨X, x, none⟩ (.int .i64 1)).heap[X]? = _
          rw [heap_setAt HX1.out, HP1.out]
        have HB2 := hide (HB1.out.setCell (p := ⟨X, x, none⟩) HS.out (.int .i64 1))
        go_wp2
        go_round
        case rel => exact ⟨j + 1, hlt, by go_num, HT2.out, HX2.out, HB2.out⟩
        case measure => simp [intOf]; omega
      · rw [decide_eq_false hV]
        have HQ := hide (HO.out (by omega) hV)
        go_wp2
        go_ret2
        refine ⟨?_, HB1.out⟩
        rw [HQ.out]
        rfl
    · have hjl : j = l.length := by omega
      subst hjl
      rw [List.take_length] at HX1 HI
      have HQ := hide (quorum_in ⟨h1, h7⟩ HI.out)
      obtain ⟨y0, y1, y2, y3, y4, y5, y6⟩ := seven HX1.out
      go_wp2_with fail
      refine (sum_any l wr).mono ?_
      rintro e w2 ⟨rfl, hb⟩
      have HB2 := hide (HB1.out.trans (hb.mono HB1.out.size))
      clear hb y0 y1 y2 y3 y4 y5 y6
      go_wp2
      go_ret2
      refine ⟨?_, HB2.out⟩
      rw [HQ.out]
      rfl
end Go.Proofs.Ytmpabcojdkpiaaa
