/- The program's disk: Size, fault, faultAt, burn, Fuse; New. -/
import Derived.Test.YtiebhdgpnloieaaDoorOwn
namespace Go.Proofs.YtiebhdgpnloieaaDoor
open Go Go.RowKit

set_option maxHeartbeats 400000 in
theorem pSize (p : Nat) (vS vL : Value) (x : Int) (st : St) (w : World) (h : PAt w p vS vL x st) :
    Calls Tryd.prog 41 #[.pointer (some ⟨p, 0, none⟩)] w fun e w' => e = .returned (.int .i64 (st.sure.length : Int)) ∧ w' = w := by
  obtain ⟨a, c, rfl, _⟩ := slice_of h.sure
  have hc := h.cell0
  clear h
  go_enter Tryd.func41, Tryd.ntmps41
  go_wp2
  go_ret
  exact ⟨rfl, rfl⟩
set_option maxHeartbeats 400000 in
theorem nSize (w : World) : Calls Tryd.prog 41 #[.pointer none] w fun e w' => e = .returned (.int .i64 0) ∧ w' = w := by
  go_enter Tryd.func41, Tryd.ntmps41
  go_wp2
  go_ret
  exact ⟨rfl, rfl⟩
/-- What fault tells. -/
def faultOf (left : Int) : Int := if left = 0 then 50 else 0
set_option maxHeartbeats 400000 in
theorem pFault (p : Nat) (vS vL : Value) (x : Int) (st : St) (w : World) (h : PAt w p vS vL x st) (hok : st.Ok) :
    Calls Tryd.prog 58 #[.pointer (some ⟨p, 0, none⟩)] w fun e w' => e = .returned (.int .i64 (faultOf st.left)) ∧ w' = w := by
  have KS := hide (pSize p vS vL x st w h)
  have hc := h.cell2
  have h1 := hok.some
  have hz : ¬ ((st.sure.length : Int) = 0) := by omega
  have hl := h.left
  by_cases h0 : x = 0
  · have hf : faultOf st.left = 50 := by unfold faultOf; rw [if_pos (by omega)]
    rw [hf]
    clear hf h hok h1 hl
    go_enter Tryd.func58, Tryd.ntmps58
    go_wp2_with fail
    refine KS.out.mono ?_
    rintro e w1 ⟨rfl, hw1⟩
    obtain rfl := hw1.symm
    go_wp2
    go_ret
    exact ⟨rfl, rfl⟩
  · have hf : faultOf st.left = 0 := by unfold faultOf; rw [if_neg (by omega)]
    rw [hf]
    clear hf h hok h1 hl
    go_enter Tryd.func58, Tryd.ntmps58
    go_wp2_with fail
    refine KS.out.mono ?_
    rintro e w1 ⟨rfl, hw1⟩
    obtain rfl := hw1.symm
    go_wp2
    go_ret
    exact ⟨rfl, rfl⟩
set_option maxHeartbeats 400000 in
theorem nFault (w : World) : Calls Tryd.prog 58 #[.pointer none] w fun e w' => e = .returned (.int .i64 1) ∧ w' = w := by
  go_enter Tryd.func58, Tryd.ntmps58
  go_wp2_with fail
  refine (nSize w).mono ?_
  rintro e w1 ⟨rfl, hw1⟩
  obtain rfl := hw1.symm
  go_wp2
  go_ret
  exact ⟨rfl, rfl⟩
/-- What faultAt tells. -/
def faultAtOf (st : St) (b : Int) : Int := if st.left = 0 then 50 else if ¬ (0 ≤ b ∧ b < (st.sure.length : Int)) then 5 else 0
set_option maxHeartbeats 400000 in
theorem pFaultAt (p : Nat) (vS vL : Value) (x : Int) (st : St) (b : Int) (w : World) (h : PAt w p vS vL x st) (hok : st.Ok) :
    Calls Tryd.prog 50 #[.pointer (some ⟨p, 0, none⟩), .int .i64 b] w fun e w' => e = .returned (.int .i64 (faultAtOf st b)) ∧ w' = w := by
  have KF := hide (pFault p vS vL x st w h hok)
  obtain ⟨a, c, rfl, _⟩ := slice_of h.sure
  have hc := h.cell0
  have hfew := hok.few
  clear h hok
  by_cases h0 : st.left = 0
  · have hf : faultAtOf st b = 50 := by unfold faultAtOf; rw [if_pos h0]
    have hg : faultOf st.left = 50 := by unfold faultOf; rw [if_pos h0]
    rw [hf]
    rw [hg] at KF
    clear hf hg h0
    go_enter Tryd.func50, Tryd.ntmps50
    go_wp2_with fail
    refine KF.out.mono ?_
    rintro e w1 ⟨rfl, hw1⟩
    obtain rfl := hw1.symm
    go_wp2
    go_ret
    exact ⟨rfl, rfl⟩
  · have hg : faultOf st.left = 0 := by unfold faultOf; rw [if_neg h0]
    rw [hg] at KF
    clear hg
    by_cases h1 : 0 ≤ b
    · by_cases h2 : b < (st.sure.length : Int)
      · have hf : faultAtOf st b = 0 := by unfold faultAtOf; rw [if_neg h0, if_neg (fun hh => hh ⟨h1, h2⟩)]
        rw [hf]
        clear hf h0
        go_enter Tryd.func50, Tryd.ntmps50
        go_wp2_with fail
        refine KF.out.mono ?_
        rintro e w1 ⟨rfl, hw1⟩
        obtain rfl := hw1.symm
        go_wp2
        go_ret
        exact ⟨rfl, rfl⟩
      · have hf : faultAtOf st b = 5 := by unfold faultAtOf; rw [if_neg h0, if_pos (fun hh => h2 hh.2)]
        rw [hf]
        clear hf h0
        go_enter Tryd.func50, Tryd.ntmps50
        go_wp2_with fail
        refine KF.out.mono ?_
        rintro e w1 ⟨rfl, hw1⟩
        obtain rfl := hw1.symm
        go_wp2
        go_ret
        exact ⟨rfl, rfl⟩
    · have hf : faultAtOf st b = 5 := by unfold faultAtOf; rw [if_neg h0, if_pos (fun hh => h1 hh.1)]
      rw [hf]
      clear hf h0
      go_enter Tryd.func50, Tryd.ntmps50
      go_wp2_with fail
      refine KF.out.mono ?_
      rintro e w1 ⟨rfl, hw1⟩
      obtain rfl := hw1.symm
      go_wp2
      go_ret
      exact ⟨rfl, rfl⟩
set_option maxHeartbeats 400000 in
theorem nFaultAt (b : Int) (w : World) : Calls Tryd.prog 50 #[.pointer none, .int .i64 b] w fun e w' => e = .returned (.int .i64 1) ∧ w' = w := by
  go_enter Tryd.func50, Tryd.ntmps50
  go_wp2_with fail
  refine (nFault w).mono ?_
  rintro e w1 ⟨rfl, hw1⟩
  obtain rfl := hw1.symm
  go_wp2
  go_ret
  exact ⟨rfl, rfl⟩
set_option maxHeartbeats 400000 in
theorem pBurn (p : Nat) (vS vL : Value) (x : Int) (st : St) (w : World) (h : PAt w p vS vL x st) :
    Calls Tryd.prog 51 #[.pointer (some ⟨p, 0, none⟩)] w fun e w' => (∃ v, e = .returned v) ∧ (∃ y, PAt w' p vS vL y ⟨st.sure, st.loose, counted st.left⟩) ∧ Loc (DF p vS vL) (DF p vS vL) w w' := by
  have hc := h.cell2
  have hf := h.free 2
  have H := hide h
  have hl := h.left
  have hi := h.fit
  by_cases h0 : 0 < x
  · have HX : Hid (counted st.left = max (x - 1) (-1)) := by unfold Hid counted; rw [if_pos (by omega)]; omega
    have HI := hide hi
    clear h hl
    go_enter Tryd.func51, Tryd.ntmps51
    go_wp2
    go_end0
    exact ⟨⟨_, rfl⟩, ⟨x - 1, by rw [HX.out]; exact H.out.setLeft (x - 1) (by omega)⟩, Loc.setCell w ⟨p, 2, none⟩ _ (Or.inl rfl)⟩
  · have HX : Hid (counted st.left = st.left) := by unfold Hid counted; rw [if_neg (by omega)]
    clear h hl hi
    go_enter Tryd.func51, Tryd.ntmps51
    go_wp2
    go_end0
    exact ⟨⟨_, rfl⟩, ⟨x, by rw [HX.out]; exact H.out⟩, Loc.refl _ _⟩
set_option maxHeartbeats 400000 in
theorem pFuse (p : Nat) (vS vL : Value) (x : Int) (st : St) (n : Int) (w : World) (h : PAt w p vS vL x st) (hok : st.Ok) (hn : -9223372036854775808 ≤ n ∧ n ≤ 9223372036854775807) :
    Calls Tryd.prog 18 #[.pointer (some ⟨p, 0, none⟩), .int .i64 n] w fun e w' => e = .returned (.int .i64 0) ∧ PAt w' p vS vL n (st.fuse n) ∧ Loc (DF p vS vL) (DF p vS vL) w w' := by
  have KS := hide (pSize p vS vL x st w h)
  have hc := h.cell2
  have hf := h.free 2
  have H := hide h
  have h1 := hok.some
  have hz : ¬ ((st.sure.length : Int) = 0) := by omega
  have HN := hide hn
  clear h hok h1 hn
  go_enter Tryd.func18, Tryd.ntmps18
  go_wp2_with fail
  refine KS.out.mono ?_
  rintro e w1 ⟨rfl, hw1⟩
  obtain rfl := hw1.symm
  go_wp2
  go_ret
  exact ⟨rfl, H.out.setLeft n HN.out, Loc.setCell w ⟨p, 2, none⟩ _ (Or.inl rfl)⟩
set_option maxHeartbeats 400000 in
theorem nFuse (n : Int) (w : World) : Calls Tryd.prog 18 #[.pointer none, .int .i64 n] w fun e w' => e = .returned (.int .i64 1) ∧ w' = w := by
  go_enter Tryd.func18, Tryd.ntmps18
  go_wp2_with fail
  refine (nSize w).mono ?_
  rintro e w1 ⟨rfl, hw1⟩
  obtain rfl := hw1.symm
  go_wp2
  go_ret
  exact ⟨rfl, rfl⟩
end Go.Proofs.YtiebhdgpnloieaaDoor
