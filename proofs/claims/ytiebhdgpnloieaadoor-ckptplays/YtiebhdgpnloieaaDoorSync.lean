/- The program's disk: Sync. -/
import Derived.Test.YtiebhdgpnloieaaDoorSettle
namespace Go.Proofs.YtiebhdgpnloieaaDoor
open Go Go.RowKit
theorem torn_256 {old new : ByteArray} (ho : old.size = 256) (hn : new.size = 256) : torn old new 256 = new := by
  rw [← torn_full (x := 256) ho rfl]
  apply ByteArray.ext
  have h2 : new.data.size = 256 := hn
  rw [ByteArray.data_extract, ← h2, Array.extract_size]
/-- A write, as a value. -/
theorem wcs (y : Nat × ByteArray) (h : y.2.size = 256) : (wc y).toArray.size = 257 := by rw [List.size_toArray, wc_length y h]
theorem wcone (y : Nat × ByteArray) : (wc y).toArray.all (·.oneCell') = true := all_oneCell_toArray (wc_one y)
set_option maxRecDepth 10000 in
set_option maxHeartbeats 2000000 in
theorem pSync (p : Nat) (vS vL : Value) (x : Int) (st : St) (w : World) (h : PAt w p vS vL x st) (hok : st.Ok) (hl : st.loose.length ≤ 10000) :
    Calls Tryd.prog 38 #[.pointer (some ⟨p, 0, none⟩)] w fun e w' => e = .returned (.int .i64 ((st.sync.1 : Nat) : Int)) ∧ ∃ vL' y, PAt w' p vS vL' y st.sync.2 ∧ Loc (DF p vS vL) (DF p vS vL') w w' := by
  have KF := hide (pFault p vS vL x st w h hok)
  have H := hide h
  have HOk := hide hok
  by_cases h0 : st.left = 0
  · have hw : st.sync = (50, st) := by unfold St.sync; rw [if_pos h0]
    have hf : faultOf st.left = 50 := by unfold faultOf; rw [if_pos h0]
    rw [hw]
    rw [hf] at KF
    clear hw hf h0 h hok
    go_enter Tryd.func38, Tryd.ntmps38
    go_wp2_with fail
    refine KF.out.mono ?_
    rintro e w1 ⟨rfl, hw1⟩
    obtain rfl := hw1.symm
    go_wp2
    go_ret
    exact ⟨rfl, vL, x, H.out, Loc.refl _ _⟩
  · have hw : st.sync = (0, ⟨laid st.sure st.loose, [], counted st.left⟩) := by unfold St.sync; rw [if_neg h0]
    have hf : faultOf st.left = 0 := by unfold faultOf; rw [if_neg h0]
    rw [hw]
    rw [hf] at KF
    have hc1 := h.cell1
    obtain ⟨aL, cL, rfl, _⟩ := slice_of h.loose
    clear hw hf h0 h hok
    have hzv := zv71
    have HZ0 := hide (w0_size 0)
    generalize w0 0 = Z0 at *
    go_enter Tryd.func38, Tryd.ntmps38
    go_wp2_with fail
    refine KF.out.mono ?_
    rintro e w1 ⟨rfl, hw1⟩
    obtain rfl := hw1.symm
    go_wp2_with fail
    clear hc1
    go_loopw [16] (fun i wr => ∃ k : Nat, k ≤ st.loose.length ∧ i = .int .i64 (k : Int) ∧ PAt wr p vS (.slice aL st.loose.length cL) x ⟨laid st.sure (st.loose.take k), st.loose, st.left⟩ ∧ Loc (DF p vS (.slice aL st.loose.length cL)) (DF p vS (.slice aL st.loose.length cL)) w wr) (fun i _ => st.loose.length - (intOf i).toNat)
    case atStart => exact ⟨0, Nat.zero_le _, rfl, H.out, Loc.refl _ _⟩
    case round =>
      obtain ⟨k, hk, rfl, hR, hLoc⟩ := hrel
      have HR := hide hR
      have HL := hide hLoc
      clear hLoc
      by_cases hlt : k < st.loose.length
      · obtain ⟨gL, rfl, hxL⟩ := row_cell hR.loose (by show 0 < st.loose.length; omega)
        clear hxL
        have hsz : ∀ w ∈ st.loose, w.2.size = 256 := fun w hw => (HOk.out.there w hw).2
        have HRg := hide (hR.write rfl hsz k hlt)
        have hth := HOk.out.there _ (List.getElem_mem hlt)
        have hWs : (wc st.loose[k]).length = 257 := wc_length _ hth.2
        have HWl : Hid ((Tryd.prog.info? 78).map (·.size) = some (wc st.loose[k]).length) := by unfold Hid; rw [hWs]; exact size71
        have HWs := hide (wcs st.loose[k] hth.2)
        have HWo := hide (wcone st.loose[k])
        have hU : Below wr.heap.size wr (wr.alloc (.cells (wc st.loose[k]).toArray 78)) := (Below.refl _ _).alloc (Nat.le_refl _) _
        have hll : (laid st.sure (st.loose.take k)).length = st.sure.length := laid_length _ _
        have hfull : ∀ s ∈ laid st.sure (st.loose.take k), s.size = 256 := laid_full _ _ HOk.out.full (fun y hy => hsz y (List.mem_of_mem_take hy))
        have HNext : Hid (laid st.sure (st.loose.take (k + 1)) = (laid st.sure (st.loose.take k)).set st.loose[k].1 (torn ((laid st.sure (st.loose.take k)).getD st.loose[k].1 noText) st.loose[k].2 256)) := by
          unfold Hid
          rw [torn_256 (getD_size hfull _ (by omega)) hth.2]
          exact laid_take _ _ _ hlt
        have KS := hide (pSettle p vS (.slice (some ⟨gL, 0, none⟩) st.loose.length cL) x ⟨laid st.sure (st.loose.take k), st.loose, st.left⟩ st.loose[k].1 st.loose[k].2 256 _ (hR.below hU) hfull (by show (laid _ _).length ≤ _; rw [hll]; exact HOk.out.few) (by show _ < (laid _ _).length; rw [hll]; exact hth.1) hth.2 (by decide))
        have L1 : Hid (Loc (DF p vS (.slice (some ⟨gL, 0, none⟩) st.loose.length cL)) (DF p vS (.slice (some ⟨gL, 0, none⟩) st.loose.length cL)) w (wr.alloc (.cells (wc st.loose[k]).toArray 78))) := HL.out.trans (Loc.of_below _ hU)
        have HA1 := hide (heap_alloc_last wr (.cells Z0 78))
        have HA2 := hide (World.setRow_alloc_new wr Z0 (wc st.loose[k]).toArray 78)
        have HG := hide (heap_alloc_last wr (.cells (wc st.loose[k]).toArray 78))
        clear hR hsz hth hWs hU hll hfull
        generalize hY : st.loose[k] = Y at *
        clear hY
        have hkz : (k : Int) < (st.loose.length : Int) := by omega
        go_upto_region 7 with (first
          | (with_reducible refine wpList_load_mid (by with_unfolding_all rfl) 78 (.tmp 18) (by with_unfolding_all rfl) gL (k * 257) (by with_unfolding_all rfl) (wc Y) _ HRg.out Tryd.underlying78 (by with_unfolding_all rfl) HWl.out ?_)
          | (with_reducible refine wpList_store_row (by with_unfolding_all rfl) 78 (.tmp 5) (.tmp 19) (by with_unfolding_all rfl) wr.heap.size (wc Y).toArray (by with_unfolding_all rfl) (by with_unfolding_all rfl) 78 Z0 HA1.out (by rw [HWs.out]; exact size71) (by rw [HWs.out, HZ0.out]) HWo.out ?_))
        rw [HA2.out]
        clear HA1 HA2 HRg HL HR
        generalize wr.alloc (.cells (wc Y).toArray 78) = U at *
        generalize wr.heap.size = g at *
        generalize hV : (wc (Y.1, Y.2)).toArray = V at *
        have hV2 : (wc Y).toArray = V := hV
        rw [hV2] at *
        clear hV hV2
        go_wp2_with (with_reducible refine wpList_load_row (by with_unfolding_all rfl) 78 (.tmp 5) (by with_unfolding_all rfl) g (by with_unfolding_all rfl) 78 V (0, 0) _ HG.out Tryd.underlying78 (by with_unfolding_all rfl) (by rw [HWs.out]; exact size71) ?_)
        refine KS.out.mono ?_
        rintro e w2 ⟨⟨v2, rfl⟩, h2, l2⟩
        have HE := hide (And.intro h2 (L1.out.trans l2))
        clear h2 l2
        go_wp2
        go_roundw
        case rel => exact ⟨k + 1, hlt, by go_num, by rw [HNext.out]; exact HE.out.1, HE.out.2⟩
        case measure => simp [intOf]; omega
      · have hke : k = st.loose.length := by omega
        subst hke
        rw [List.take_length] at hR HR
        have hf1 := hR.free 1
        have hc1 := hR.cell1
        clear hR
        have HN := hide HR.out.nothing
        go_wp2_with fail
        refine (pBurn p vS _ x _ _ HN.out.1).mono ?_
        rintro e w4 ⟨⟨v4, rfl⟩, ⟨y4, h4⟩, l4⟩
        have HE := hide (And.intro h4 ((HL.out.trans HN.out.2).trans l4))
        clear h4 l4
        go_wp2
        go_ret
        exact ⟨rfl, _, y4, HE.out.1, HE.out.2⟩
set_option maxHeartbeats 400000 in
theorem nSync (w : World) : Calls Tryd.prog 38 #[.pointer none] w fun e w' => e = .returned (.int .i64 1) ∧ w' = w := by
  go_enter Tryd.func38, Tryd.ntmps38
  go_wp2_with fail
  refine (nFault w).mono ?_
  rintro e w1 ⟨rfl, hw1⟩
  obtain rfl := hw1.symm
  go_wp2
  go_ret
  exact ⟨rfl, rfl⟩
end Go.Proofs.YtiebhdgpnloieaaDoor
