/- The program's disk: Crash. -/
import Derived.Test.YtiebhdgpnloieaaDoorSync
namespace Go.Proofs.YtiebhdgpnloieaaDoor
open Go Go.RowKit
theorem crashed_append (picks : List Int) : ∀ (l1 l2 : List (Nat × ByteArray)) (i : Nat) (s : List ByteArray), crashed s picks i (l1 ++ l2) = crashed (crashed s picks i l1) picks (i + l1.length) l2
  | [], _, _, _ => rfl
  | w :: l1, l2, i, s => by
    show crashed (s.set w.1 _) picks (i + 1) (l1 ++ l2) = _
    rw [crashed_append picks l1 l2, List.length_cons, show i + 1 + l1.length = i + (l1.length + 1) from by omega]
    rfl
theorem crashed_beyond (picks : List Int) : ∀ (l : List (Nat × ByteArray)) (i : Nat) (s : List ByteArray), picks.length ≤ i → (∀ t ∈ s, t.size = 256) → (∀ w ∈ l, w.1 < s.length ∧ w.2.size = 256) → crashed s picks i l = s
  | [], _, _, _, _, _ => rfl
  | w :: l, i, s, hi, h, hl => by
    have hw := hl w (by simp)
    have ho := getD_size h w.1 hw.1
    unfold crashed
    have e : s.set w.1 (torn (s.getD w.1 noText) w.2 (picks.getD i 0)) = s := by
      have e1 : torn (s.getD w.1 noText) w.2 (picks.getD i 0) = s.getD w.1 noText := by
        rw [List.getD_eq_getElem?_getD (l := picks), List.getElem?_eq_none hi]
        show torn (s.getD w.1 noText) w.2 0 = _
        unfold torn
        show w.2.extract 0 0 ++ (s.getD w.1 noText).extract 0 _ = _
        apply ByteArray.ext
        rw [ByteArray.data_append, ByteArray.data_extract, ByteArray.data_extract]
        simp
      rw [e1, List.getD_eq_getElem?_getD, List.getElem?_eq_getElem hw.1, Option.getD_some, List.set_getElem_self]
    rw [e]
    exact crashed_beyond picks l (i + 1) s (by omega) h (fun x hx => hl x (List.mem_cons_of_mem _ hx))
/-- Behind as many writes as there are picks nothing more is turned. -/
theorem crashed_min (picks : List Int) (l : List (Nat × ByteArray)) (s : List ByteArray) (h : ∀ t ∈ s, t.size = 256) (hl : ∀ w ∈ l, w.1 < s.length ∧ w.2.size = 256) (m : Nat) (hm : m = l.length ∨ (m = picks.length ∧ m ≤ l.length)) : crashed s picks 0 (l.take m) = crashed s picks 0 l := by
  rcases hm with h1 | ⟨h1, h2⟩
  · rw [h1, List.take_length]
  · have e := crashed_append picks (l.take m) (l.drop m) 0 s
    rw [List.take_append_drop, List.length_take, Nat.zero_add, Nat.min_eq_left h2] at e
    rw [e, crashed_beyond picks (l.drop m) m _ (by omega) (crashed_full picks _ _ _ h (fun x hx => hl x (List.mem_of_mem_take hx))) (fun x hx => by rw [crashed_length]; exact hl x (List.mem_of_mem_drop hx))]
set_option maxRecDepth 10000 in
set_option maxHeartbeats 2000000 in
theorem pCrash (p : Nat) (vS vL : Value) (x : Int) (st : St) (aP : Option Addr) (cP : Nat) (picks : List Int) (w : World) (h : PAt w p vS vL x st) (hok : st.Ok) (hl : st.loose.length ≤ 10000) (hP : IntsAt w aP picks) (hap : Apart aP picks (DF p vS vL)) (hpl : picks.length ≤ 140737488351232) (hpi : ∀ y ∈ picks, -9223372036854775808 ≤ y ∧ y ≤ 9223372036854775807) :
    Calls Tryd.prog 19 #[.pointer (some ⟨p, 0, none⟩), .slice aP picks.length cP] w fun e w' => e = .returned (.int .i64 0) ∧ ∃ vL' y, PAt w' p vS vL' y (st.crash picks) ∧ Loc (DF p vS vL) (DF p vS vL') w w' := by
  have KZ := hide (pSize p vS vL x st w h)
  have h1 := hok.some
  have hz : ¬ ((st.sure.length : Int) = 0) := by omega
  have H := hide h
  have HOk := hide hok
  have HP := hide hP
  have HAp := hide hap
  have HPi := hide hpi
  have hc1 := h.cell1
  obtain ⟨aL, cL, rfl, hcL⟩ := slice_of h.loose
  have hzb : ((st.sure.length : Int) == 0) = false := by simpa using hz
  clear hz
  have hzv := zv71
  have HZ0 := hide (w0_size 0)
  generalize w0 0 = Z0 at *
  clear h hok hP hap hpi h1
  by_cases hem : st.loose.length ≤ picks.length
  · have hez : ((st.loose.length : Int) ≤ (picks.length : Int)) := by omega
    have hcz : ((st.loose.length : Int) ≤ (cL : Int)) := by omega
    go_enter Tryd.func19, Tryd.ntmps19
    go_wp2_with fail
    refine KZ.out.mono ?_
    rintro e w1 ⟨rfl, hw1⟩
    obtain rfl := hw1.symm
    go_wp2_with fail
    go_region
    all_goals
      clear hc1
      have HPd := hide H.out.drew
      go_wp2_with fail
      go_loopw [24] (fun i wr => ∃ k : Nat, k ≤ st.loose.length ∧ i = .int .i64 (k : Int) ∧ PAt wr p vS (.slice aL st.loose.length cL) x ⟨crashed st.sure picks 0 (st.loose.take k), st.loose, st.left⟩ ∧ Loc (DF p vS (.slice aL st.loose.length cL)) (DF p vS (.slice aL st.loose.length cL)) w wr) (fun i _ => st.loose.length - (intOf i).toNat)
      case atStart => exact ⟨0, Nat.zero_le _, rfl, HPd.out, (Loc.refl _ _).drew⟩
      case round =>
        obtain ⟨k, hk, rfl, hR, hLoc⟩ := hrel
        have HR := hide hR
        have HL := hide hLoc
        clear hLoc
        by_cases hlt : k < st.loose.length
        · have hll0 : k < st.loose.length := by omega
          have hpp0 : k < picks.length := by omega
          obtain ⟨gL, rfl, hxL⟩ := row_cell hR.loose (by show 0 < st.loose.length; omega)
          clear hxL
          have hsz : ∀ w ∈ st.loose, w.2.size = 256 := fun w hw => (HOk.out.there w hw).2
          have HRg := hide (hR.write rfl hsz k hll0)
          have hth := HOk.out.there _ (List.getElem_mem hll0)
          have hWs : (wc st.loose[k]).length = 257 := wc_length _ hth.2
          have HWl : Hid ((Tryd.prog.info? 78).map (·.size) = some (wc st.loose[k]).length) := by unfold Hid; rw [hWs]; exact size71
          have HWs := hide (wcs st.loose[k] hth.2)
          have HWo := hide (wcone st.loose[k])
          have hU : Below wr.heap.size wr (wr.alloc (.cells (wc st.loose[k]).toArray 78)) := (Below.refl _ _).alloc (Nat.le_refl _) _
          have hcl : (crashed st.sure picks 0 (st.loose.take k)).length = st.sure.length := crashed_length _ _ _ _
          have hfull : ∀ s ∈ crashed st.sure picks 0 (st.loose.take k), s.size = 256 := crashed_full picks _ _ _ HOk.out.full (fun y hy => HOk.out.there y (List.mem_of_mem_take hy))
          have hpk : picks.getD k 0 = picks[k] := by rw [List.getD_eq_getElem?_getD, List.getElem?_eq_getElem hpp0, Option.getD_some]
          have HNext := hide (crashed_take picks st.loose st.sure k hll0)
          rw [hpk] at HNext
          have KS := hide (pSettle p vS (.slice (some ⟨gL, 0, none⟩) st.loose.length cL) x ⟨crashed st.sure picks 0 (st.loose.take k), st.loose, st.left⟩ st.loose[k].1 st.loose[k].2 picks[k] _ (hR.below hU).drew hfull (by show (crashed _ _ _ _).length ≤ _; rw [hcl]; exact HOk.out.few) (by show _ < (crashed _ _ _ _).length; rw [hcl]; exact hth.1) hth.2 (HPi.out _ (List.getElem_mem hpp0)))
          have L1 : Hid (Loc (DF p vS (.slice (some ⟨gL, 0, none⟩) st.loose.length cL)) (DF p vS (.slice (some ⟨gL, 0, none⟩) st.loose.length cL)) w (wr.alloc (.cells (wc st.loose[k]).toArray 78)).drew) := (HL.out.trans (Loc.of_below _ hU)).drew
          have HA1 := hide (heap_alloc_last wr (.cells Z0 78))
          have HA2 := hide (World.setRow_alloc_new wr Z0 (wc st.loose[k]).toArray 78)
          have HG : Hid ((wr.alloc (.cells (wc st.loose[k]).toArray 78)).drew.heap[wr.heap.size]? = some (.cells (wc st.loose[k]).toArray 78 (0, 0))) := heap_alloc_last wr (.cells (wc st.loose[k]).toArray 78)
          obtain ⟨bP, oP, rfl, hcP⟩ : ∃ b off, aP = some ⟨b, off, none⟩ ∧ ∀ j (hj : j < picks.length), (wr.alloc (.cells (wc st.loose[k]).toArray 78)).cell? ⟨b, off + j, none⟩ = some (.int .i64 picks[j]) := by
            rcases (HP.out.loc HL.out HAp.out) with h1 | ⟨b, off, h1, h2⟩
            · rw [h1] at hpp0; exact absurd hpp0 (by simp)
            · exact ⟨b, off, h1, fun j hj => (hU.cell (p := ⟨b, off + j, none⟩) (World.block_lt_of_cell? _ _ (h2 j hj))).trans (h2 j hj)⟩
          have e5 := hcP k hpp0
          clear hR hsz hth hWs hU hcl hfull hcP hpk
          generalize hY : st.loose[k] = Y at *
          clear hY
          generalize picks[k] = y at *
          have hkz : (k : Int) < (st.loose.length : Int) := by omega
          have hkp : (k : Int) < (picks.length : Int) := by omega
          go_upto_region 6 with (first
            | (with_reducible refine wpList_load_mid (by with_unfolding_all rfl) 78 (.tmp 27) (by with_unfolding_all rfl) gL (k * 257) (by with_unfolding_all rfl) (wc Y) _ HRg.out Tryd.underlying78 (by with_unfolding_all rfl) HWl.out ?_)
            | (with_reducible refine wpList_store_row (by with_unfolding_all rfl) 78 (.tmp 6) (.tmp 28) (by with_unfolding_all rfl) wr.heap.size (wc Y).toArray (by with_unfolding_all rfl) (by with_unfolding_all rfl) 78 Z0 HA1.out (by rw [HWs.out]; exact size71) (by rw [HWs.out, HZ0.out]) HWo.out ?_))
          rw [HA2.out]
          simp only [Act.put]
          clear HA1 HA2 HRg HL HR HWl
          generalize wr.alloc (.cells (wc Y).toArray 78) = U at *
          generalize wr.heap.size = g at *
          generalize hV : (wc (Y.1, Y.2)).toArray = V at *
          have hV2 : (wc Y).toArray = V := hV
          rw [hV2] at *
          clear hV hV2
          refine wp_region_any (by kernel_rfl) ?_
          change wpAny _ _ _ _ _ _ _ (World.drew _)
          refine takeW 0 29 (v := ?v0_1) rfl rfl (by kernel_rfl) (by kernel_rfl) (by kernel_rfl) (fun _ _ _ h => h) (Or.inl ⟨by rfl, ?hy0_1⟩) ?_
          case hy0_1 => (intro w; go_simp; first | done | with_reducible rfl)
          simp only [List.setIfInBounds_toArray, List.set_cons_succ, List.set_cons_zero]
          refine takeW 2 31 (v := ?v2_2) rfl rfl (by kernel_rfl) (by kernel_rfl) (by kernel_rfl) (fun _ _ _ h => h) (Or.inl ⟨by rfl, ?hy2_2⟩) ?_
          case hy2_2 => (intro w; go_simp; first | done | with_reducible rfl)
          simp only [List.setIfInBounds_toArray, List.set_cons_succ, List.set_cons_zero]
          refine takeW 3 32 (v := ?v3_3) rfl rfl (by kernel_rfl) (by kernel_rfl) (by kernel_rfl) (fun _ _ _ h => h) (Or.inl ⟨by rfl, ?hy3_3⟩) ?_
          case hy3_3 => (intro w; go_simp; first | done | with_reducible rfl)
          simp only [List.setIfInBounds_toArray, List.set_cons_succ, List.set_cons_zero]
          refine takeW 4 33 (v := ?v4_4) rfl rfl (by kernel_rfl) (by kernel_rfl) (by kernel_rfl) (fun _ _ _ h => h) (Or.inl ⟨by rfl, ?hy4_4⟩) ?_
          case hy4_4 => (intro w; go_simp; first | done | with_reducible rfl)
          simp only [List.setIfInBounds_toArray, List.set_cons_succ, List.set_cons_zero]
          refine wpAny_ready (rs := [1, 5]) (by kernel_rfl) (by simp) ?_
          refine AllReady.cons rfl (fun K hK => ?_) (AllReady.cons rfl (fun K hK => ?_) AllReady.nil)
          · refine step_of_wp rfl (wp_load_row 78 (.tmp 6) rfl g rfl 78 V (0, 0) _ HG.out Tryd.underlying78 rfl (by rw [HWs.out]; exact size71) ?_)
            refine K_put (K := K) 30 rfl ?_
            refine hK _ _ ?_
            clear hK K
            simp only [List.setIfInBounds_toArray, List.set_cons_succ, List.set_cons_zero]
            refine wpAny_ready (rs := [5]) (by kernel_rfl) (by simp) ?_
            refine AllReady.cons rfl (fun K hK => ?_) AllReady.nil
            go_simp
            refine hK _ _ ?_
            clear hK K
            refine wpAny_ready (rs := [6]) (by kernel_rfl) (by simp) ?_
            refine AllReady.cons rfl (fun K hK => ?_) AllReady.nil
            go_simp
            refine KS.out.mono ?_
            rintro e w2 ⟨⟨v2, rfl⟩, h2, l2⟩
            have HE := hide (And.intro h2 (L1.out.trans l2))
            clear h2 l2
            go_wp2_with fail
            refine wpAny_done (by kernel_rfl) ?_ _
            go_wp2
            go_roundw
            case rel => exact ⟨k + 1, hlt, by go_num, by rw [HNext.out]; exact HE.out.1, HE.out.2⟩
            case measure => simp [intOf]; omega
          · go_simp
            refine hK _ _ ?_
            clear hK K
            refine wpAny_ready (rs := [1]) (by kernel_rfl) (by simp) ?_
            refine AllReady.cons rfl (fun K hK => ?_) AllReady.nil
            refine step_of_wp rfl (wp_load_row 78 (.tmp 6) rfl g rfl 78 V (0, 0) _ HG.out Tryd.underlying78 rfl (by rw [HWs.out]; exact size71) ?_)
            refine K_put (K := K) 30 rfl ?_
            refine hK _ _ ?_
            clear hK K
            simp only [List.setIfInBounds_toArray, List.set_cons_succ, List.set_cons_zero]
            refine wpAny_ready (rs := [6]) (by kernel_rfl) (by simp) ?_
            refine AllReady.cons rfl (fun K hK => ?_) AllReady.nil
            go_simp
            refine KS.out.mono ?_
            rintro e w2 ⟨⟨v2, rfl⟩, h2, l2⟩
            have HE := hide (And.intro h2 (L1.out.trans l2))
            clear h2 l2
            go_wp2_with fail
            refine wpAny_done (by kernel_rfl) ?_ _
            go_wp2
            go_roundw
            case rel => exact ⟨k + 1, hlt, by go_num, by rw [HNext.out]; exact HE.out.1, HE.out.2⟩
            case measure => simp [intOf]; omega
        · have hke : k = st.loose.length := by omega
          subst hke
          have hR2 := HR.out
          rw [crashed_min picks st.loose st.sure HOk.out.full HOk.out.there _ (Or.inl rfl)] at hR2
          have HR2 := hide hR2
          have hf1 := hR2.free 1
          have hc1 := hR2.cell1
          have hf2 := hR2.free 2
          have hc2 := hR2.cell2
          clear hR hR2
          have h1 := hide HR2.out.nothing
          have HE := hide (h1.out.1.setLeft (-1) (by decide))
          have HLE := hide ((HL.out.trans h1.out.2).trans (Loc.setCell _ ⟨p, 2, none⟩ (.int .i64 (-1)) (Or.inl rfl)))
          go_wp2
          go_ret
          exact ⟨rfl, _, ⟨_, HE.out⟩, HLE.out⟩
  · have hez : ¬ ((st.loose.length : Int) ≤ (picks.length : Int)) := by omega
    have hcz : ((picks.length : Int) ≤ (cL : Int)) := by omega
    go_enter Tryd.func19, Tryd.ntmps19
    go_wp2_with fail
    refine KZ.out.mono ?_
    rintro e w1 ⟨rfl, hw1⟩
    obtain rfl := hw1.symm
    go_wp2_with fail
    go_region
    all_goals
      clear hc1
      have HPd := hide H.out.drew
      go_wp2_with fail
      go_loopw [24] (fun i wr => ∃ k : Nat, k ≤ picks.length ∧ i = .int .i64 (k : Int) ∧ PAt wr p vS (.slice aL st.loose.length cL) x ⟨crashed st.sure picks 0 (st.loose.take k), st.loose, st.left⟩ ∧ Loc (DF p vS (.slice aL st.loose.length cL)) (DF p vS (.slice aL st.loose.length cL)) w wr) (fun i _ => picks.length - (intOf i).toNat)
      case atStart => exact ⟨0, Nat.zero_le _, rfl, HPd.out, (Loc.refl _ _).drew⟩
      case round =>
        obtain ⟨k, hk, rfl, hR, hLoc⟩ := hrel
        have HR := hide hR
        have HL := hide hLoc
        clear hLoc
        by_cases hlt : k < picks.length
        · have hll0 : k < st.loose.length := by omega
          have hpp0 : k < picks.length := by omega
          obtain ⟨gL, rfl, hxL⟩ := row_cell hR.loose (by show 0 < st.loose.length; omega)
          clear hxL
          have hsz : ∀ w ∈ st.loose, w.2.size = 256 := fun w hw => (HOk.out.there w hw).2
          have HRg := hide (hR.write rfl hsz k hll0)
          have hth := HOk.out.there _ (List.getElem_mem hll0)
          have hWs : (wc st.loose[k]).length = 257 := wc_length _ hth.2
          have HWl : Hid ((Tryd.prog.info? 78).map (·.size) = some (wc st.loose[k]).length) := by unfold Hid; rw [hWs]; exact size71
          have HWs := hide (wcs st.loose[k] hth.2)
          have HWo := hide (wcone st.loose[k])
          have hU : Below wr.heap.size wr (wr.alloc (.cells (wc st.loose[k]).toArray 78)) := (Below.refl _ _).alloc (Nat.le_refl _) _
          have hcl : (crashed st.sure picks 0 (st.loose.take k)).length = st.sure.length := crashed_length _ _ _ _
          have hfull : ∀ s ∈ crashed st.sure picks 0 (st.loose.take k), s.size = 256 := crashed_full picks _ _ _ HOk.out.full (fun y hy => HOk.out.there y (List.mem_of_mem_take hy))
          have hpk : picks.getD k 0 = picks[k] := by rw [List.getD_eq_getElem?_getD, List.getElem?_eq_getElem hpp0, Option.getD_some]
          have HNext := hide (crashed_take picks st.loose st.sure k hll0)
          rw [hpk] at HNext
          have KS := hide (pSettle p vS (.slice (some ⟨gL, 0, none⟩) st.loose.length cL) x ⟨crashed st.sure picks 0 (st.loose.take k), st.loose, st.left⟩ st.loose[k].1 st.loose[k].2 picks[k] _ (hR.below hU).drew hfull (by show (crashed _ _ _ _).length ≤ _; rw [hcl]; exact HOk.out.few) (by show _ < (crashed _ _ _ _).length; rw [hcl]; exact hth.1) hth.2 (HPi.out _ (List.getElem_mem hpp0)))
          have L1 : Hid (Loc (DF p vS (.slice (some ⟨gL, 0, none⟩) st.loose.length cL)) (DF p vS (.slice (some ⟨gL, 0, none⟩) st.loose.length cL)) w (wr.alloc (.cells (wc st.loose[k]).toArray 78)).drew) := (HL.out.trans (Loc.of_below _ hU)).drew
          have HA1 := hide (heap_alloc_last wr (.cells Z0 78))
          have HA2 := hide (World.setRow_alloc_new wr Z0 (wc st.loose[k]).toArray 78)
          have HG : Hid ((wr.alloc (.cells (wc st.loose[k]).toArray 78)).drew.heap[wr.heap.size]? = some (.cells (wc st.loose[k]).toArray 78 (0, 0))) := heap_alloc_last wr (.cells (wc st.loose[k]).toArray 78)
          obtain ⟨bP, oP, rfl, hcP⟩ : ∃ b off, aP = some ⟨b, off, none⟩ ∧ ∀ j (hj : j < picks.length), (wr.alloc (.cells (wc st.loose[k]).toArray 78)).cell? ⟨b, off + j, none⟩ = some (.int .i64 picks[j]) := by
            rcases (HP.out.loc HL.out HAp.out) with h1 | ⟨b, off, h1, h2⟩
            · rw [h1] at hpp0; exact absurd hpp0 (by simp)
            · exact ⟨b, off, h1, fun j hj => (hU.cell (p := ⟨b, off + j, none⟩) (World.block_lt_of_cell? _ _ (h2 j hj))).trans (h2 j hj)⟩
          have e5 := hcP k hpp0
          clear hR hsz hth hWs hU hcl hfull hcP hpk
          generalize hY : st.loose[k] = Y at *
          clear hY
          generalize picks[k] = y at *
          have hkz : (k : Int) < (picks.length : Int) := by omega
          have hkp : (k : Int) < (picks.length : Int) := by omega
          go_upto_region 6 with (first
            | (with_reducible refine wpList_load_mid (by with_unfolding_all rfl) 78 (.tmp 27) (by with_unfolding_all rfl) gL (k * 257) (by with_unfolding_all rfl) (wc Y) _ HRg.out Tryd.underlying78 (by with_unfolding_all rfl) HWl.out ?_)
            | (with_reducible refine wpList_store_row (by with_unfolding_all rfl) 78 (.tmp 6) (.tmp 28) (by with_unfolding_all rfl) wr.heap.size (wc Y).toArray (by with_unfolding_all rfl) (by with_unfolding_all rfl) 78 Z0 HA1.out (by rw [HWs.out]; exact size71) (by rw [HWs.out, HZ0.out]) HWo.out ?_))
          rw [HA2.out]
          simp only [Act.put]
          clear HA1 HA2 HRg HL HR HWl
          generalize wr.alloc (.cells (wc Y).toArray 78) = U at *
          generalize wr.heap.size = g at *
          generalize hV : (wc (Y.1, Y.2)).toArray = V at *
          have hV2 : (wc Y).toArray = V := hV
          rw [hV2] at *
          clear hV hV2
          refine wp_region_any (by kernel_rfl) ?_
          change wpAny _ _ _ _ _ _ _ (World.drew _)
          refine takeW 0 29 (v := ?v0_5) rfl rfl (by kernel_rfl) (by kernel_rfl) (by kernel_rfl) (fun _ _ _ h => h) (Or.inl ⟨by rfl, ?hy0_5⟩) ?_
          case hy0_5 => (intro w; go_simp; first | done | with_reducible rfl)
          simp only [List.setIfInBounds_toArray, List.set_cons_succ, List.set_cons_zero]
          refine takeW 2 31 (v := ?v2_6) rfl rfl (by kernel_rfl) (by kernel_rfl) (by kernel_rfl) (fun _ _ _ h => h) (Or.inl ⟨by rfl, ?hy2_6⟩) ?_
          case hy2_6 => (intro w; go_simp; first | done | with_reducible rfl)
          simp only [List.setIfInBounds_toArray, List.set_cons_succ, List.set_cons_zero]
          refine takeW 3 32 (v := ?v3_7) rfl rfl (by kernel_rfl) (by kernel_rfl) (by kernel_rfl) (fun _ _ _ h => h) (Or.inl ⟨by rfl, ?hy3_7⟩) ?_
          case hy3_7 => (intro w; go_simp; first | done | with_reducible rfl)
          simp only [List.setIfInBounds_toArray, List.set_cons_succ, List.set_cons_zero]
          refine takeW 4 33 (v := ?v4_8) rfl rfl (by kernel_rfl) (by kernel_rfl) (by kernel_rfl) (fun _ _ _ h => h) (Or.inl ⟨by rfl, ?hy4_8⟩) ?_
          case hy4_8 => (intro w; go_simp; first | done | with_reducible rfl)
          simp only [List.setIfInBounds_toArray, List.set_cons_succ, List.set_cons_zero]
          refine wpAny_ready (rs := [1, 5]) (by kernel_rfl) (by simp) ?_
          refine AllReady.cons rfl (fun K hK => ?_) (AllReady.cons rfl (fun K hK => ?_) AllReady.nil)
          · refine step_of_wp rfl (wp_load_row 78 (.tmp 6) rfl g rfl 78 V (0, 0) _ HG.out Tryd.underlying78 rfl (by rw [HWs.out]; exact size71) ?_)
            refine K_put (K := K) 30 rfl ?_
            refine hK _ _ ?_
            clear hK K
            simp only [List.setIfInBounds_toArray, List.set_cons_succ, List.set_cons_zero]
            refine wpAny_ready (rs := [5]) (by kernel_rfl) (by simp) ?_
            refine AllReady.cons rfl (fun K hK => ?_) AllReady.nil
            go_simp
            refine hK _ _ ?_
            clear hK K
            refine wpAny_ready (rs := [6]) (by kernel_rfl) (by simp) ?_
            refine AllReady.cons rfl (fun K hK => ?_) AllReady.nil
            go_simp
            refine KS.out.mono ?_
            rintro e w2 ⟨⟨v2, rfl⟩, h2, l2⟩
            have HE := hide (And.intro h2 (L1.out.trans l2))
            clear h2 l2
            go_wp2_with fail
            refine wpAny_done (by kernel_rfl) ?_ _
            go_wp2
            go_roundw
            case rel => exact ⟨k + 1, hlt, by go_num, by rw [HNext.out]; exact HE.out.1, HE.out.2⟩
            case measure => simp [intOf]; omega
          · go_simp
            refine hK _ _ ?_
            clear hK K
            refine wpAny_ready (rs := [1]) (by kernel_rfl) (by simp) ?_
            refine AllReady.cons rfl (fun K hK => ?_) AllReady.nil
            refine step_of_wp rfl (wp_load_row 78 (.tmp 6) rfl g rfl 78 V (0, 0) _ HG.out Tryd.underlying78 rfl (by rw [HWs.out]; exact size71) ?_)
            refine K_put (K := K) 30 rfl ?_
            refine hK _ _ ?_
            clear hK K
            simp only [List.setIfInBounds_toArray, List.set_cons_succ, List.set_cons_zero]
            refine wpAny_ready (rs := [6]) (by kernel_rfl) (by simp) ?_
            refine AllReady.cons rfl (fun K hK => ?_) AllReady.nil
            go_simp
            refine KS.out.mono ?_
            rintro e w2 ⟨⟨v2, rfl⟩, h2, l2⟩
            have HE := hide (And.intro h2 (L1.out.trans l2))
            clear h2 l2
            go_wp2_with fail
            refine wpAny_done (by kernel_rfl) ?_ _
            go_wp2
            go_roundw
            case rel => exact ⟨k + 1, hlt, by go_num, by rw [HNext.out]; exact HE.out.1, HE.out.2⟩
            case measure => simp [intOf]; omega
        · have hke : k = picks.length := by omega
          subst hke
          have hR2 := HR.out
          rw [crashed_min picks st.loose st.sure HOk.out.full HOk.out.there _ (Or.inr ⟨rfl, by omega⟩)] at hR2
          have HR2 := hide hR2
          have hf1 := hR2.free 1
          have hc1 := hR2.cell1
          have hf2 := hR2.free 2
          have hc2 := hR2.cell2
          clear hR hR2
          have h1 := hide HR2.out.nothing
          have HE := hide (h1.out.1.setLeft (-1) (by decide))
          have HLE := hide ((HL.out.trans h1.out.2).trans (Loc.setCell _ ⟨p, 2, none⟩ (.int .i64 (-1)) (Or.inl rfl)))
          go_wp2
          go_ret
          exact ⟨rfl, _, ⟨_, HE.out⟩, HLE.out⟩
set_option maxHeartbeats 400000 in
theorem nCrash (w : World) : Calls Tryd.prog 19 #[.pointer none, .slice none 0 0] w fun e w' => e = .returned (.int .i64 1) ∧ w' = w := by
  go_enter Tryd.func19, Tryd.ntmps19
  go_wp2_with fail
  refine (nSize w).mono ?_
  rintro e w1 ⟨rfl, hw1⟩
  obtain rfl := hw1.symm
  go_wp2
  go_ret
  exact ⟨rfl, rfl⟩
end Go.Proofs.YtiebhdgpnloieaaDoor
