/- The document's own checkpoints: Room, may. -/
import Derived.Test.YtiebhdgpnloieaaDoorRCon
import Derived.Test.YtiebhdgpnloieaaDoorCa
namespace Go.Proofs.YtiebhdgpnloieaaDoor
open Go Go.RowKit Frm
theorem rRoom_any (n : Int) (w : World) (hn : -9223372036854775808 ≤ n ∧ n ≤ 9223372036854775807) :
    Calls Tryd.prog 8 #[.int .i64 n] w fun e w' => e = .returned (.int .i64 (room n)) ∧ w' = w := by
  by_cases h1 : n < 4
  · have hr : room n = 0 := by unfold room; rw [if_pos (Or.inl h1)]
    rw [hr]
    have HN := hide hn
    clear hn hr
    go_enter Tryd.func8, Tryd.ntmps8
    go_wp2
    go_ret
    exact ⟨rfl, rfl⟩
  · have hm := tmod2 (n := n) (by omega)
    by_cases h3 : n % 2 = 0
    · by_cases h2 : 4096 < n
      · have hr : room n = 0 := by unfold room; rw [if_pos (Or.inr (Or.inl h2))]
        rw [hr]
        have HN := hide hn
        clear hn hr
        rw [h3] at hm
        go_enter Tryd.func8, Tryd.ntmps8
        go_wp2
        go_ret
        exact ⟨rfl, rfl⟩
      · have hr : room n = (n / 2 - 1) * 256 := by unfold room; rw [if_neg (by omega)]
        have hd := tdiv2 (n := n) (by omega)
        have hw1 : wrap64 (n / 2 - 1) = n / 2 - 1 := by unfold wrap64; omega
        have hw2 : wrap64 ((n / 2 - 1) * 256) = (n / 2 - 1) * 256 := by unfold wrap64; omega
        have hw3 : wrap64 (n / 2) = n / 2 := by unfold wrap64; omega
        rw [hr]
        have HN := hide hn
        clear hn hr
        rw [h3] at hm
        go_enter Tryd.func8, Tryd.ntmps8
        go_wp2
        go_ret
        exact ⟨rfl, rfl⟩
    · have hr : room n = 0 := by unfold room; rw [if_pos (Or.inr (Or.inr h3))]
      have h4 : n % 2 = 1 := by omega
      rw [hr]
      have HN := hide hn
      clear hn hr
      rw [h4] at hm
      go_enter Tryd.func8, Tryd.ntmps8
      go_wp2
      go_ret
      exact ⟨rfl, rfl⟩
theorem room_gt {n : Int} : 0 < room n ↔ room n ≠ 0 := by
  constructor
  · intro h; omega
  · intro h
    have := room_pos h
    omega
set_option maxHeartbeats 400000 in
theorem rMayC (p : Nat) (vS vL : Value) (st : St) (o n : Int) (w : World) (h : RAt w p vS vL st) (hl : st.sure.length ≤ 4096) (hn : -9223372036854775808 ≤ n ∧ n ≤ 9223372036854775807) :
    Calls Tryd.prog 45 #[.pointer (some ⟨p, 0, none⟩), .int .i64 o, .int .i64 n] w fun e w' => e = .returned (.bool (decide (st.mayC o n))) ∧ w' = w := by
  obtain ⟨a, c, rfl, _⟩ := slice_of h.sure
  have hc := h.cell0
  have KR := hide (rRoom_any n w hn)
  clear h
  by_cases h0 : room n = 0
  · have hd : decide (st.mayC o n) = false := decide_eq_false (fun h => h.1 h0)
    rw [hd]
    rw [h0] at KR
    have HN := hide hn
    clear hd h0 hn
    go_enter Tryd.func45, Tryd.ntmps45
    go_wp2_with fail
    refine KR.out.mono ?_
    rintro e w1 ⟨rfl, rfl⟩
    go_wp2
    go_ret
    exact ⟨rfl, rfl⟩
  · have h0g : 0 < room n := room_gt.2 h0
    have hr := room_pos h0
    have hn4 := hr.1
    have hnm := hr.2.1
    clear hr
    have HN := hide hn
    clear hn
    by_cases h1 : 0 ≤ o
    · by_cases h2 : o < (st.sure.length : Int)
      · have hw : wrap64 ((st.sure.length : Int) - o) = (st.sure.length : Int) - o := by unfold wrap64; omega
        by_cases h3 : n ≤ (st.sure.length : Int) - o
        · have hd : decide (st.mayC o n) = true := decide_eq_true ⟨h0, h1, by omega⟩
          rw [hd]
          have HL := hide hl
          clear hl hd h0
          generalize room n = rm at *
          go_enter Tryd.func45, Tryd.ntmps45
          go_wp2_with fail
          refine KR.out.mono ?_
          rintro e w1 ⟨rfl, rfl⟩
          go_wp2
          go_ret
          exact ⟨rfl, rfl⟩
        · have hd : decide (st.mayC o n) = false := decide_eq_false (fun h => h3 (by have := h.2.2; omega))
          rw [hd]
          have HD3 := hide (decide_eq_false h3)
          have HL := hide hl
          clear hl hd h0
          generalize room n = rm at *
          go_enter Tryd.func45, Tryd.ntmps45
          go_wp2_with fail
          refine KR.out.mono ?_
          rintro e w1 ⟨rfl, rfl⟩
          go_wp2
          go_ret
          exact ⟨by show Ending.returned (.bool (decide (n ≤ (st.sure.length : Int) - o))) = _; rw [HD3.out], rfl⟩
      · have hd : decide (st.mayC o n) = false := decide_eq_false (fun h => h2 (by have := h.2.2; omega))
        rw [hd]
        clear hd h0
        generalize room n = rm at *
        go_enter Tryd.func45, Tryd.ntmps45
        go_wp2_with fail
        refine KR.out.mono ?_
        rintro e w1 ⟨rfl, rfl⟩
        go_wp2
        go_ret
        exact ⟨rfl, rfl⟩
    · have hd : decide (st.mayC o n) = false := decide_eq_false (fun h => h1 h.2.1)
      rw [hd]
      clear hd h0
      generalize room n = rm at *
      go_enter Tryd.func45, Tryd.ntmps45
      go_wp2_with fail
      refine KR.out.mono ?_
      rintro e w1 ⟨rfl, rfl⟩
      go_wp2
      go_ret
      exact ⟨rfl, rfl⟩
theorem rd_mayC (p : Nat) (st : St) (F : Nat → Prop) (o n : Int) (w : World) (h : RD w p st F) (hl : st.sure.length ≤ 4096) (hn : -9223372036854775808 ≤ n ∧ n ≤ 9223372036854775807) :
    Calls Tryd.prog 45 #[.pointer (some ⟨p, 0, none⟩), .int .i64 o, .int .i64 n] w fun e w' => e = .returned (.bool (decide (st.mayC o n))) ∧ w' = w := by
  obtain ⟨vS, vL, rfl, h⟩ := h
  exact rMayC p vS vL st o n w h hl hn
end Go.Proofs.YtiebhdgpnloieaaDoor
