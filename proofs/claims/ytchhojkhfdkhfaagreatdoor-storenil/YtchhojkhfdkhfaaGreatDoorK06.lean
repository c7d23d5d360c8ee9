/- The program's disk: settle. The program's disk: Sync. The program's disk: Crash. The program's disk: Loose. The program's disk: Sure, by the library's own builder. The program's disk meets the contracts. The program's checkpoints: its small functions. -/
import Derived.Test.YtchhojkhfdkhfaaGreatDoorK04
import Derived.Test.YtchhojkhfdkhfaaGreatDoorK05
import Derived.Shelf.Strings.Builder2
import Derived.Test.YtchhojkhfdkhfaaGreatDoorK00
import Derived.Laws.BitsAllLaws
namespace Go.Proofs.YtchhojkhfdkhfaaGreatDoor
set_option maxRecDepth 20000
open Go Go.RowKit
/-- Cells are copied into the midst of a row. -/
theorem own_copy {w : World} {e : TypeId} {size n g c : Nat} {xs cs : List Value} {cur : Array Value} {i : Nat} (h : w.ownsRow 0 e size (.slice (some ⟨g, 0, none⟩) n c) n xs) (hg : w.heap[g]? = some (.cells cur e (0, 0))) (hi : i + cs.length ≤ n * size) :
    (w.setRow g (cur.toList.take i ++ cs ++ cur.toList.drop (i + cs.length)).toArray).ownsRow 0 e size (.slice (some ⟨g, 0, none⟩) n c) n (xs.take i ++ cs ++ xs.drop (i + cs.length)) := by
  have hl := h.1
  rcases h.2 with ⟨h1, _⟩ | ⟨g', cap, cur', h1, h2, h3, h4, h5, h6, h7⟩
  · cases h1
  · cases h1
    rw [hg] at h3
    cases h3
    have hle : n * size ≤ cur.size := by rw [h6]; exact Nat.mul_le_mul_right _ h4
    refine ⟨?_, Or.inr ⟨g, c, _, rfl, Nat.zero_le _, setRow_heap w g _ _ _ _ hg, h4, h5, ?_, ?_⟩⟩
    · simp only [List.length_append, List.length_take, List.length_drop]
      omega
    · simp only [List.size_toArray, List.length_append, List.length_take, List.length_drop, Array.length_toList]
      omega
    · have ht : (cur.toList.take i).length = i := by rw [List.length_take, Array.length_toList]; omega
      show (cur.toList.take i ++ cs ++ cur.toList.drop (i + cs.length)).take (n * size) = _
      rw [← h7, List.take_append, List.take_append, ht, List.length_append, ht, List.take_take, List.take_take, List.drop_take, List.take_of_length_le (l := cs) (by omega)]
      congr 2
      rw [show min (n * size) i = i from by omega, show min i (n * size) = i from by omega]
/-- The block of what is sure. -/
theorem own_block {w : World} {e : TypeId} {size n g c : Nat} {xs : List Value} (h : w.ownsRow 0 e size (.slice (some ⟨g, 0, none⟩) n c) n xs) : ∃ cur, w.heap[g]? = some (.cells cur e (0, 0)) ∧ n * size ≤ cur.size := by
  rcases h.2 with ⟨h1, _⟩ | ⟨g', cap, cur', h1, h2, h3, h4, h5, h6, h7⟩
  · cases h1
  · cases h1
    exact ⟨cur', h3, by rw [h6]; exact Nat.mul_le_mul_right _ h4⟩
theorem Loc.setRow {F : Nat → Prop} (u : World) (g : Nat) (cs : Array Value) (hg : F g) : Loc F F u (u.setRow g cs) :=
  ⟨rfl, rfl, rfl, by rw [setRow_size]; exact Nat.le_refl _, fun k _ hF => setRow_other u g k cs (fun e => hF (e ▸ hg)), fun _ h => Or.inl h⟩
/-- As many bytes of a write as are copied into its block. -/
theorem PAt.settled {u : World} {p gS n c : Nat} {vL : Value} {x : Int} {st : St} {cur : Array Value} (h : PAt u p (.slice (some ⟨gS, 0, none⟩) n c) vL x st) (hn : n = st.sure.length) (hs : ∀ s ∈ st.sure, s.size = 256) (hg : u.heap[gS]? = some (.cells cur 90 (0, 0))) (b : Nat) (d : ByteArray) (y : Int) (q : Nat) (hb : b < st.sure.length) (hd : d.size = 256) (hq : max (min y 256) 0 = (q : Int)) :
    PAt (u.setRow gS (cur.toList.take (b * 256) ++ (tc d).take q ++ cur.toList.drop (b * 256 + ((tc d).take q).length)).toArray) p (.slice (some ⟨gS, 0, none⟩) n c) vL x ⟨st.sure.set b (torn (st.sure.getD b noText) d y), st.loose, st.left⟩ := by
  subst hn
  have n0 : gS ≠ p := fun e => h.ne0 (by rw [e]; rfl)
  have n2 : vL.ownBlock ≠ some gS := h.ne2 rfl
  have hql : ((tc d).take q).length = q := by rw [List.length_take, tc_length]; omega
  refine ⟨(setRow_other u gS p _ (fun e => n0 e.symm)).trans h.head, ?_, own_same h.loose (fun k hk => setRow_other u gS k _ (fun e => n2 (e ▸ hk))), h.left, h.fit⟩
  show World.ownsRow _ 0 90 256 _ (st.sure.set b (torn (st.sure.getD b noText) d y)).length (sc (st.sure.set b (torn (st.sure.getD b noText) d y)))
  rw [List.length_set, ← sc_copy st.sure hs b hb d y q hq]
  have := own_copy (cs := (tc d).take q) (i := b * 256) h.sure hg (by rw [hql]; omega)
  rw [hql] at this ⊢
  exact this
theorem copy61 (u : World) (gS b g : Nat) (cur : Array Value) (m : Nat) (d : ByteArray) (q : Nat) (hd : d.size = 256) (hq : q ≤ 256) (hg : u.heap[gS]? = some (.cells cur 90 (0, 0))) (hc : b * 256 + 256 ≤ cur.size) (hw : u.heap[g]? = some (.cells (wc (m, d)).toArray 96 (0, 0))) (ty : TypeId) :
    (Builtin.copy_ #[77, 77] ty #[.slice (some ⟨gS, b * 256, none⟩) 256 256, .slice (some ⟨g, 1, none⟩) q 256]).run Tryz.prog u = .ok (goInt q) (u.setRow gS (cur.toList.take (b * 256) ++ (tc d).take q ++ cur.toList.drop (b * 256 + ((tc d).take q).length)).toArray) := by
  have hql : ((tc d).take q).length = q := by rw [List.length_take, tc_length]; omega
  have h := run_copy_row (P := Tryz.prog) u 77 77 ty 5 gS (b * 256) 256 256 ⟨g, 1, none⟩ q 256 cur 90 ((tc d).take q) Tryz.underlying77 size5 hg (by rw [hql]; exact (Nat.min_eq_left hq).symm) (fun j v hv => by
    rw [Addr.add_mid, cell_of_row _ _ _ _ _ _ hw, List.getElem?_toArray, Nat.add_comm]
    show (wc (m, d))[j + 1]? = some v
    have hj : j < ((tc d).take q).length := (List.getElem?_eq_some_iff.1 hv).1
    rw [List.getElem?_take_of_lt (by omega)] at hv
    exact hv) (by rw [hql]; omega) (fun v hv => tc_one d v (List.mem_of_mem_take hv))
  rw [h]
  congr 2
  rw [hql]
set_option maxRecDepth 10000 in
set_option maxHeartbeats 1000000 in
theorem pSettle (p : Nat) (vS vL : Value) (x : Int) (st : St) (b : Nat) (d : ByteArray) (y : Int) (w : World) (h : PAt w p vS vL x st) (hs : ∀ s ∈ st.sure, s.size = 256) (hf : st.sure.length ≤ 4096) (hb : b < st.sure.length) (hd : d.size = 256) (hy : -9223372036854775808 ≤ y ∧ y ≤ 9223372036854775807) :
    Calls Tryz.prog 59 #[.pointer (some ⟨p, 0, none⟩), .agg (wc (b, d)).toArray, .int .i64 y] w fun e w' => (∃ v, e = .returned v) ∧ PAt w' p vS vL x ⟨st.sure.set b (torn (st.sure.getD b noText) d y), st.loose, st.left⟩ ∧ Loc (DF p vS vL) (DF p vS vL) w w' := by
  obtain ⟨q, hq⟩ : ∃ q : Nat, max (min y 256) 0 = (q : Int) := ⟨(max (min y 256) 0).toNat, by omega⟩
  obtain ⟨aS, cS, rfl, _⟩ := slice_of h.sure
  obtain ⟨gS, rfl, hxS⟩ := row_cell h.sure (by omega)
  clear hxS
  have hU : Below w.heap.size w (w.alloc (.cells (wc (b, d)).toArray 96)) := (Below.refl _ _).alloc (Nat.le_refl _) _
  have hP := h.below hU
  obtain ⟨cur, hg, hcs⟩ := own_block hP.sure
  have hG : (w.alloc (.cells (wc (b, d)).toArray 96)).heap[w.heap.size]? = some (.cells (wc (b, d)).toArray 96 (0, 0)) := heap_alloc_last w _
  have hcp := copy61 (w.alloc (.cells (wc (b, d)).toArray 96)).drew gS b w.heap.size cur b d q hd (by omega) hg (by omega) hG
  have HS := hide (hP.drew.settled rfl hs hg b d y q hb hd hq)
  have L0 : Hid (Loc (DF p (.slice (some ⟨gS, 0, none⟩) st.sure.length cS) vL) (DF p (.slice (some ⟨gS, 0, none⟩) st.sure.length cS) vL) w (w.alloc (.cells (wc (b, d)).toArray 96)).drew) := (Loc.of_below _ hU).drew
  have hc0 := hP.cell0
  have hcb : (w.alloc (.cells (wc (b, d)).toArray 96)).cell? ⟨w.heap.size, 0, none⟩ = some (.int .i64 (b : Int)) := by rw [cell_of_row _ _ _ _ _ _ hG]; rfl
  clear h hP hU hG hg
  generalize hW : (wc (b, d)).toArray = W at *
  clear hW
  have HNew := hide (Loc.setRow (F := DF p (.slice (some ⟨gS, 0, none⟩) st.sure.length cS) vL) (w.alloc (.cells W 96)).drew gS (cur.toList.take (b * 256) ++ (tc d).take q ++ cur.toList.drop (b * 256 + ((tc d).take q).length)).toArray (Or.inr (Or.inl rfl)))
  generalize (cur.toList.take (b * 256) ++ (tc d).take q ++ cur.toList.drop (b * 256 + ((tc d).take q).length)).toArray = N at *
  have hbz : (b : Int) < (st.sure.length : Int) := by omega
  go_enter Tryz.func59, Tryz.ntmps59
  go_upto_region 1 with fail
  generalize w.alloc (.cells W 96) = U at *
  generalize w.heap.size = g at *
  by_cases h0 : y < 0
  · have hq0 : q = 0 := by omega
    subst hq0
    have hy2 : ¬ (0 ≤ y) := by omega
    clear hq hy
    go_wp2_with fail
    go_region
    all_goals
      go_wp2
      go_end0
      exact ⟨⟨_, rfl⟩, HS.out, L0.out.trans HNew.out⟩
  · by_cases h1 : y ≤ 256
    · have hqy : y = (q : Int) := by omega
      subst hqy
      have hq2 : (q : Int) ≤ 256 := by omega
      have hq1 : (0 : Int) ≤ (q : Int) := by omega
      clear hq h0
      go_wp2_with fail
      go_region
      all_goals
        go_wp2
        go_end0
        exact ⟨⟨_, rfl⟩, HS.out, L0.out.trans HNew.out⟩
    · have hq0 : q = 256 := by omega
      subst hq0
      have hy2 : (256 : Int) < y := by omega
      have hy3 : (0 : Int) ≤ y := by omega
      clear hq hy
      go_wp2_with fail
      go_region
      all_goals
        go_wp2
        go_end0
        exact ⟨⟨_, rfl⟩, HS.out, L0.out.trans HNew.out⟩
end Go.Proofs.YtchhojkhfdkhfaaGreatDoor
namespace Go.Proofs.YtchhojkhfdkhfaaGreatDoor
open Go Go.RowKit
theorem torn_256 {old new : ByteArray} (ho : old.size = 256) (hn : new.size = 256) : torn old new 256 = new := by
  rw [← torn_full (x := 256) ho rfl]
  apply ByteArray.ext
  have h2 : new.data.size = 256 := hn
  rw [ByteArray.data_extract, ← h2, Array.extract_size]
/-- A write, as a value. -/
theorem wcs (y : Nat × ByteArray) (h : y.2.size = 256) : (wc y).toArray.size = 257 := by rw [List.size_toArray, wc_length y h]
theorem wcone (y : Nat × ByteArray) : (wc y).toArray.all (·.oneCell') = true := all_oneCell_toArray (wc_one y)
set_option maxRecDepth 10000 in
set_option maxHeartbeats 2000000 in
theorem pSync (p : Nat) (vS vL : Value) (x : Int) (st : St) (w : World) (h : PAt w p vS vL x st) (hok : st.Ok) (hl : st.loose.length ≤ 10000) :
    Calls Tryz.prog 54 #[.pointer (some ⟨p, 0, none⟩)] w fun e w' => e = .returned (.int .i64 ((st.sync.1 : Nat) : Int)) ∧ ∃ vL' y, PAt w' p vS vL' y st.sync.2 ∧ Loc (DF p vS vL) (DF p vS vL') w w' := by
  have KF := hide (pFault p vS vL x st w h hok)
  have H := hide h
  have HOk := hide hok
  by_cases h0 : st.left = 0
  · have hw : st.sync = (50, st) := by unfold St.sync; rw [if_pos h0]
    have hf : faultOf st.left = 50 := by unfold faultOf; rw [if_pos h0]
    rw [hw]
    rw [hf] at KF
    clear hw hf h0 h hok
    go_enter Tryz.func54, Tryz.ntmps54
    go_wp2_with fail
    refine KF.out.mono ?_
    rintro e w1 ⟨rfl, hw1⟩
    obtain rfl := hw1.symm
    go_wp2
    go_ret
    exact ⟨rfl, vL, x, H.out, Loc.refl _ _⟩
  · have hw : st.sync = (0, ⟨laid st.sure st.loose, [], counted st.left⟩) := by unfold St.sync; rw [if_neg h0]
    have hf : faultOf st.left = 0 := by unfold faultOf; rw [if_neg h0]
    rw [hw]
    rw [hf] at KF
    have hc1 := h.cell1
    obtain ⟨aL, cL, rfl, _⟩ := slice_of h.loose
    clear hw hf h0 h hok
    have hzv := zv71
    have HZ0 := hide (w0_size 0)
    generalize w0 0 = Z0 at *
    go_enter Tryz.func54, Tryz.ntmps54
    go_wp2_with fail
    refine KF.out.mono ?_
    rintro e w1 ⟨rfl, hw1⟩
    obtain rfl := hw1.symm
    go_wp2_with fail
    clear hc1
    go_loopw [16] (fun i wr => ∃ k : Nat, k ≤ st.loose.length ∧ i = .int .i64 (k : Int) ∧ PAt wr p vS (.slice aL st.loose.length cL) x ⟨laid st.sure (st.loose.take k), st.loose, st.left⟩ ∧ Loc (DF p vS (.slice aL st.loose.length cL)) (DF p vS (.slice aL st.loose.length cL)) w wr) (fun i _ => st.loose.length - (intOf i).toNat)
    case atStart => exact ⟨0, Nat.zero_le _, rfl, H.out, Loc.refl _ _⟩
    case round =>
      obtain ⟨k, hk, rfl, hR, hLoc⟩ := hrel
      have HR := hide hR
      have HL := hide hLoc
      clear hLoc
      by_cases hlt : k < st.loose.length
      · obtain ⟨gL, rfl, hxL⟩ := row_cell hR.loose (by show 0 < st.loose.length; omega)
        clear hxL
        have hsz : ∀ w ∈ st.loose, w.2.size = 256 := fun w hw => (HOk.out.there w hw).2
        have HRg := hide (hR.write rfl hsz k hlt)
        have hth := HOk.out.there _ (List.getElem_mem hlt)
        have hWs : (wc st.loose[k]).length = 257 := wc_length _ hth.2
        have HWl : Hid ((Tryz.prog.info? 96).map (·.size) = some (wc st.loose[k]).length) := by unfold Hid; rw [hWs]; exact size71
        have HWs := hide (wcs st.loose[k] hth.2)
        have HWo := hide (wcone st.loose[k])
        have hU : Below wr.heap.size wr (wr.alloc (.cells (wc st.loose[k]).toArray 96)) := (Below.refl _ _).alloc (Nat.le_refl _) _
        have hll : (laid st.sure (st.loose.take k)).length = st.sure.length := laid_length _ _
        have hfull : ∀ s ∈ laid st.sure (st.loose.take k), s.size = 256 := laid_full _ _ HOk.out.full (fun y hy => hsz y (List.mem_of_mem_take hy))
        have HNext : Hid (laid st.sure (st.loose.take (k + 1)) = (laid st.sure (st.loose.take k)).set st.loose[k].1 (torn ((laid st.sure (st.loose.take k)).getD st.loose[k].1 noText) st.loose[k].2 256)) := by
          unfold Hid
          rw [torn_256 (getD_size hfull _ (by omega)) hth.2]
          exact laid_take _ _ _ hlt
        have KS := hide (pSettle p vS (.slice (some ⟨gL, 0, none⟩) st.loose.length cL) x ⟨laid st.sure (st.loose.take k), st.loose, st.left⟩ st.loose[k].1 st.loose[k].2 256 _ (hR.below hU) hfull (by show (laid _ _).length ≤ _; rw [hll]; exact HOk.out.few) (by show _ < (laid _ _).length; rw [hll]; exact hth.1) hth.2 (by decide))
        have L1 : Hid (Loc (DF p vS (.slice (some ⟨gL, 0, none⟩) st.loose.length cL)) (DF p vS (.slice (some ⟨gL, 0, none⟩) st.loose.length cL)) w (wr.alloc (.cells (wc st.loose[k]).toArray 96))) := HL.out.trans (Loc.of_below _ hU)
        have HA1 := hide (heap_alloc_last wr (.cells Z0 96))
        have HA2 := hide (World.setRow_alloc_new wr Z0 (wc st.loose[k]).toArray 96)
        have HG := hide (heap_alloc_last wr (.cells (wc st.loose[k]).toArray 96))
        clear hR hsz hth hWs hU hll hfull
        generalize hY : st.loose[k] = Y at *
        clear hY
        have hkz : (k : Int) < (st.loose.length : Int) := by omega
        go_upto_region 7 with (first
          | (with_reducible refine wpList_load_mid (by with_unfolding_all rfl) 96 (.tmp 18) (by with_unfolding_all rfl) gL (k * 257) (by with_unfolding_all rfl) (wc Y) _ HRg.out Tryz.underlying96 (by with_unfolding_all rfl) HWl.out ?_)
          | (with_reducible refine wpList_store_row (by with_unfolding_all rfl) 96 (.tmp 5) (.tmp 19) (by with_unfolding_all rfl) wr.heap.size (wc Y).toArray (by with_unfolding_all rfl) (by with_unfolding_all rfl) 96 Z0 HA1.out (by rw [HWs.out]; exact size71) (by rw [HWs.out, HZ0.out]) HWo.out ?_))
        rw [HA2.out]
        clear HA1 HA2 HRg HL HR
        generalize wr.alloc (.cells (wc Y).toArray 96) = U at *
        generalize wr.heap.size = g at *
        generalize hV : (wc (Y.1, Y.2)).toArray = V at *
        have hV2 : (wc Y).toArray = V := hV
        rw [hV2] at *
        clear hV hV2
        go_wp2_with (with_reducible refine wpList_load_row (by with_unfolding_all rfl) 96 (.tmp 5) (by with_unfolding_all rfl) g (by with_unfolding_all rfl) 96 V (0, 0) _ HG.out Tryz.underlying96 (by with_unfolding_all rfl) (by rw [HWs.out]; exact size71) ?_)
        refine KS.out.mono ?_
        rintro e w2 ⟨⟨v2, rfl⟩, h2, l2⟩
        have HE := hide (And.intro h2 (L1.out.trans l2))
        clear h2 l2
        go_wp2
        go_roundw
        case rel => exact ⟨k + 1, hlt, by go_num, by rw [HNext.out]; exact HE.out.1, HE.out.2⟩
        case measure => simp [intOf]; omega
      · have hke : k = st.loose.length := by omega
        subst hke
        rw [List.take_length] at hR HR
        have hf1 := hR.free 1
        have hc1 := hR.cell1
        clear hR
        have HN := hide HR.out.nothing
        go_wp2_with fail
        refine (pBurn p vS _ x _ _ HN.out.1).mono ?_
        rintro e w4 ⟨⟨v4, rfl⟩, ⟨y4, h4⟩, l4⟩
        have HE := hide (And.intro h4 ((HL.out.trans HN.out.2).trans l4))
        clear h4 l4
        go_wp2
        go_ret
        exact ⟨rfl, _, y4, HE.out.1, HE.out.2⟩
set_option maxHeartbeats 400000 in
theorem nSync (w : World) : Calls Tryz.prog 54 #[.pointer none] w fun e w' => e = .returned (.int .i64 1) ∧ w' = w := by
  go_enter Tryz.func54, Tryz.ntmps54
  go_wp2_with fail
  refine (nFault w).mono ?_
  rintro e w1 ⟨rfl, hw1⟩
  obtain rfl := hw1.symm
  go_wp2
  go_ret
  exact ⟨rfl, rfl⟩
end Go.Proofs.YtchhojkhfdkhfaaGreatDoor
namespace Go.Proofs.YtchhojkhfdkhfaaGreatDoor
open Go Go.RowKit
theorem crashed_append (picks : List Int) : ∀ (l1 l2 : List (Nat × ByteArray)) (i : Nat) (s : List ByteArray), crashed s picks i (l1 ++ l2) = crashed (crashed s picks i l1) picks (i + l1.length) l2
  | [], _, _, _ => rfl
  | w :: l1, l2, i, s => by
    show crashed (s.set w.1 _) picks (i + 1) (l1 ++ l2) = _
    rw [crashed_append picks l1 l2, List.length_cons, show i + 1 + l1.length = i + (l1.length + 1) from by omega]
    rfl
theorem crashed_beyond (picks : List Int) : ∀ (l : List (Nat × ByteArray)) (i : Nat) (s : List ByteArray), picks.length ≤ i → (∀ t ∈ s, t.size = 256) → (∀ w ∈ l, w.1 < s.length ∧ w.2.size = 256) → crashed s picks i l = s
  | [], _, _, _, _, _ => rfl
  | w :: l, i, s, hi, h, hl => by
    have hw := hl w (by simp)
    have ho := getD_size h w.1 hw.1
    unfold crashed
    have e : s.set w.1 (torn (s.getD w.1 noText) w.2 (picks.getD i 0)) = s := by
      have e1 : torn (s.getD w.1 noText) w.2 (picks.getD i 0) = s.getD w.1 noText := by
        rw [List.getD_eq_getElem?_getD (l := picks), List.getElem?_eq_none hi]
        show torn (s.getD w.1 noText) w.2 0 = _
        unfold torn
        show w.2.extract 0 0 ++ (s.getD w.1 noText).extract 0 _ = _
        apply ByteArray.ext
        rw [ByteArray.data_append, ByteArray.data_extract, ByteArray.data_extract]
        simp
      rw [e1, List.getD_eq_getElem?_getD, List.getElem?_eq_getElem hw.1, Option.getD_some, List.set_getElem_self]
    rw [e]
    exact crashed_beyond picks l (i + 1) s (by omega) h (fun x hx => hl x (List.mem_cons_of_mem _ hx))
/-- Behind as many writes as there are picks nothing more is turned. -/
theorem crashed_min (picks : List Int) (l : List (Nat × ByteArray)) (s : List ByteArray) (h : ∀ t ∈ s, t.size = 256) (hl : ∀ w ∈ l, w.1 < s.length ∧ w.2.size = 256) (m : Nat) (hm : m = l.length ∨ (m = picks.length ∧ m ≤ l.length)) : crashed s picks 0 (l.take m) = crashed s picks 0 l := by
  rcases hm with h1 | ⟨h1, h2⟩
  · rw [h1, List.take_length]
  · have e := crashed_append picks (l.take m) (l.drop m) 0 s
    rw [List.take_append_drop, List.length_take, Nat.zero_add, Nat.min_eq_left h2] at e
    rw [e, crashed_beyond picks (l.drop m) m _ (by omega) (crashed_full picks _ _ _ h (fun x hx => hl x (List.mem_of_mem_take hx))) (fun x hx => by rw [crashed_length]; exact hl x (List.mem_of_mem_drop hx))]
set_option maxRecDepth 10000 in
set_option maxHeartbeats 2000000 in
theorem pCrash (p : Nat) (vS vL : Value) (x : Int) (st : St) (aP : Option Addr) (cP : Nat) (picks : List Int) (w : World) (h : PAt w p vS vL x st) (hok : st.Ok) (hl : st.loose.length ≤ 10000) (hP : IntsAt w aP picks) (hap : Apart aP picks (DF p vS vL)) (hpl : picks.length ≤ 140737488351232) (hpi : ∀ y ∈ picks, -9223372036854775808 ≤ y ∧ y ≤ 9223372036854775807) :
    Calls Tryz.prog 26 #[.pointer (some ⟨p, 0, none⟩), .slice aP picks.length cP] w fun e w' => e = .returned (.int .i64 0) ∧ ∃ vL' y, PAt w' p vS vL' y (st.crash picks) ∧ Loc (DF p vS vL) (DF p vS vL') w w' := by
  have KZ := hide (pSize p vS vL x st w h)
  have h1 := hok.some
  have hz : ¬ ((st.sure.length : Int) = 0) := by omega
  have H := hide h
  have HOk := hide hok
  have HP := hide hP
  have HAp := hide hap
  have HPi := hide hpi
  have hc1 := h.cell1
  obtain ⟨aL, cL, rfl, hcL⟩ := slice_of h.loose
  have hzb : ((st.sure.length : Int) == 0) = false := by simpa using hz
  clear hz
  have hzv := zv71
  have HZ0 := hide (w0_size 0)
  generalize w0 0 = Z0 at *
  clear h hok hP hap hpi h1
  by_cases hem : st.loose.length ≤ picks.length
  · have hez : ((st.loose.length : Int) ≤ (picks.length : Int)) := by omega
    have hcz : ((st.loose.length : Int) ≤ (cL : Int)) := by omega
    go_enter Tryz.func26, Tryz.ntmps26
    go_wp2_with fail
    refine KZ.out.mono ?_
    rintro e w1 ⟨rfl, hw1⟩
    obtain rfl := hw1.symm
    go_wp2_with fail
    go_region
    all_goals
      clear hc1
      have HPd := hide H.out.drew
      go_wp2_with fail
      go_loopw [24] (fun i wr => ∃ k : Nat, k ≤ st.loose.length ∧ i = .int .i64 (k : Int) ∧ PAt wr p vS (.slice aL st.loose.length cL) x ⟨crashed st.sure picks 0 (st.loose.take k), st.loose, st.left⟩ ∧ Loc (DF p vS (.slice aL st.loose.length cL)) (DF p vS (.slice aL st.loose.length cL)) w wr) (fun i _ => st.loose.length - (intOf i).toNat)
      case atStart => exact ⟨0, Nat.zero_le _, rfl, HPd.out, (Loc.refl _ _).drew⟩
      case round =>
        obtain ⟨k, hk, rfl, hR, hLoc⟩ := hrel
        have HR := hide hR
        have HL := hide hLoc
        clear hLoc
        by_cases hlt : k < st.loose.length
        · have hll0 : k < st.loose.length := by omega
          have hpp0 : k < picks.length := by omega
          obtain ⟨gL, rfl, hxL⟩ := row_cell hR.loose (by show 0 < st.loose.length; omega)
          clear hxL
          have hsz : ∀ w ∈ st.loose, w.2.size = 256 := fun w hw => (HOk.out.there w hw).2
          have HRg := hide (hR.write rfl hsz k hll0)
          have hth := HOk.out.there _ (List.getElem_mem hll0)
          have hWs : (wc st.loose[k]).length = 257 := wc_length _ hth.2
          have HWl : Hid ((Tryz.prog.info? 96).map (·.size) = some (wc st.loose[k]).length) := by unfold Hid; rw [hWs]; exact size71
          have HWs := hide (wcs st.loose[k] hth.2)
          have HWo := hide (wcone st.loose[k])
          have hU : Below wr.heap.size wr (wr.alloc (.cells (wc st.loose[k]).toArray 96)) := (Below.refl _ _).alloc (Nat.le_refl _) _
          have hcl : (crashed st.sure picks 0 (st.loose.take k)).length = st.sure.length := crashed_length _ _ _ _
          have hfull : ∀ s ∈ crashed st.sure picks 0 (st.loose.take k), s.size = 256 := crashed_full picks _ _ _ HOk.out.full (fun y hy => HOk.out.there y (List.mem_of_mem_take hy))
          have hpk : picks.getD k 0 = picks[k] := by rw [List.getD_eq_getElem?_getD, List.getElem?_eq_getElem hpp0, Option.getD_some]
          have HNext := hide (crashed_take picks st.loose st.sure k hll0)
          rw [hpk] at HNext
          have KS := hide (pSettle p vS (.slice (some ⟨gL, 0, none⟩) st.loose.length cL) x ⟨crashed st.sure picks 0 (st.loose.take k), st.loose, st.left⟩ st.loose[k].1 st.loose[k].2 picks[k] _ (hR.below hU).drew hfull (by show (crashed _ _ _ _).length ≤ _; rw [hcl]; exact HOk.out.few) (by show _ < (crashed _ _ _ _).length; rw [hcl]; exact hth.1) hth.2 (HPi.out _ (List.getElem_mem hpp0)))
          have L1 : Hid (Loc (DF p vS (.slice (some ⟨gL, 0, none⟩) st.loose.length cL)) (DF p vS (.slice (some ⟨gL, 0, none⟩) st.loose.length cL)) w (wr.alloc (.cells (wc st.loose[k]).toArray 96)).drew) := (HL.out.trans (Loc.of_below _ hU)).drew
          have HA1 := hide (heap_alloc_last wr (.cells Z0 96))
          have HA2 := hide (World.setRow_alloc_new wr Z0 (wc st.loose[k]).toArray 96)
          have HG : Hid ((wr.alloc (.cells (wc st.loose[k]).toArray 96)).drew.heap[wr.heap.size]? = some (.cells (wc st.loose[k]).toArray 96 (0, 0))) := heap_alloc_last wr (.cells (wc st.loose[k]).toArray 96)
          obtain ⟨bP, oP, rfl, hcP⟩ : ∃ b off, aP = some ⟨b, off, none⟩ ∧ ∀ j (hj : j < picks.length), (wr.alloc (.cells (wc st.loose[k]).toArray 96)).cell? ⟨b, off + j, none⟩ = some (.int .i64 picks[j]) := by
            rcases (HP.out.loc HL.out HAp.out) with h1 | ⟨b, off, h1, h2⟩
            · rw [h1] at hpp0; exact absurd hpp0 (by simp)
            · exact ⟨b, off, h1, fun j hj => (hU.cell (p := ⟨b, off + j, none⟩) (World.block_lt_of_cell? _ _ (h2 j hj))).trans (h2 j hj)⟩
          have e5 := hcP k hpp0
          clear hR hsz hth hWs hU hcl hfull hcP hpk
          generalize hY : st.loose[k] = Y at *
          clear hY
          generalize picks[k] = y at *
          have hkz : (k : Int) < (st.loose.length : Int) := by omega
          have hkp : (k : Int) < (picks.length : Int) := by omega
          go_upto_region 6 with (first
            | (with_reducible refine wpList_load_mid (by with_unfolding_all rfl) 96 (.tmp 27) (by with_unfolding_all rfl) gL (k * 257) (by with_unfolding_all rfl) (wc Y) _ HRg.out Tryz.underlying96 (by with_unfolding_all rfl) HWl.out ?_)
            | (with_reducible refine wpList_store_row (by with_unfolding_all rfl) 96 (.tmp 6) (.tmp 28) (by with_unfolding_all rfl) wr.heap.size (wc Y).toArray (by with_unfolding_all rfl) (by with_unfolding_all rfl) 96 Z0 HA1.out (by rw [HWs.out]; exact size71) (by rw [HWs.out, HZ0.out]) HWo.out ?_))
          rw [HA2.out]
          simp only [Act.put]
          clear HA1 HA2 HRg HL HR HWl
          generalize wr.alloc (.cells (wc Y).toArray 96) = U at *
          generalize wr.heap.size = g at *
          generalize hV : (wc (Y.1, Y.2)).toArray = V at *
          have hV2 : (wc Y).toArray = V := hV
          rw [hV2] at *
          clear hV hV2
          refine wp_region_any (by kernel_rfl) ?_
          change wpAny _ _ _ _ _ _ _ (World.drew _)
          refine takeW 0 29 (v := ?v0_1) rfl rfl (by kernel_rfl) (by kernel_rfl) (by kernel_rfl) (fun _ _ _ h => h) (Or.inl ⟨by rfl, ?hy0_1⟩) ?_
          case hy0_1 => (intro w; go_simp; first | done | with_reducible rfl)
          simp only [List.setIfInBounds_toArray, List.set_cons_succ, List.set_cons_zero]
          refine takeW 2 31 (v := ?v2_2) rfl rfl (by kernel_rfl) (by kernel_rfl) (by kernel_rfl) (fun _ _ _ h => h) (Or.inl ⟨by rfl, ?hy2_2⟩) ?_
          case hy2_2 => (intro w; go_simp; first | done | with_reducible rfl)
          simp only [List.setIfInBounds_toArray, List.set_cons_succ, List.set_cons_zero]
          refine takeW 3 32 (v := ?v3_3) rfl rfl (by kernel_rfl) (by kernel_rfl) (by kernel_rfl) (fun _ _ _ h => h) (Or.inl ⟨by rfl, ?hy3_3⟩) ?_
          case hy3_3 => (intro w; go_simp; first | done | with_reducible rfl)
          simp only [List.setIfInBounds_toArray, List.set_cons_succ, List.set_cons_zero]
          refine takeW 4 33 (v := ?v4_4) rfl rfl (by kernel_rfl) (by kernel_rfl) (by kernel_rfl) (fun _ _ _ h => h) (Or.inl ⟨by rfl, ?hy4_4⟩) ?_
          case hy4_4 => (intro w; go_simp; first | done | with_reducible rfl)
          simp only [List.setIfInBounds_toArray, List.set_cons_succ, List.set_cons_zero]
          refine wpAny_ready (rs := [1, 5]) (by kernel_rfl) (by simp) ?_
          refine AllReady.cons rfl (fun K hK => ?_) (AllReady.cons rfl (fun K hK => ?_) AllReady.nil)
          · refine step_of_wp rfl (wp_load_row 96 (.tmp 6) rfl g rfl 96 V (0, 0) _ HG.out Tryz.underlying96 rfl (by rw [HWs.out]; exact size71) ?_)
            refine K_put (K := K) 30 rfl ?_
            refine hK _ _ ?_
            clear hK K
            simp only [List.setIfInBounds_toArray, List.set_cons_succ, List.set_cons_zero]
            refine wpAny_ready (rs := [5]) (by kernel_rfl) (by simp) ?_
            refine AllReady.cons rfl (fun K hK => ?_) AllReady.nil
            go_simp
            refine hK _ _ ?_
            clear hK K
            refine wpAny_ready (rs := [6]) (by kernel_rfl) (by simp) ?_
            refine AllReady.cons rfl (fun K hK => ?_) AllReady.nil
            go_simp
            refine KS.out.mono ?_
            rintro e w2 ⟨⟨v2, rfl⟩, h2, l2⟩
            have HE := hide (And.intro h2 (L1.out.trans l2))
            clear h2 l2
            go_wp2_with fail
            refine wpAny_done (by kernel_rfl) ?_ _
            go_wp2
            go_roundw
            case rel => exact ⟨k + 1, hlt, by go_num, by rw [HNext.out]; exact HE.out.1, HE.out.2⟩
            case measure => simp [intOf]; omega
          · go_simp
            refine hK _ _ ?_
            clear hK K
            refine wpAny_ready (rs := [1]) (by kernel_rfl) (by simp) ?_
            refine AllReady.cons rfl (fun K hK => ?_) AllReady.nil
            refine step_of_wp rfl (wp_load_row 96 (.tmp 6) rfl g rfl 96 V (0, 0) _ HG.out Tryz.underlying96 rfl (by rw [HWs.out]; exact size71) ?_)
            refine K_put (K := K) 30 rfl ?_
            refine hK _ _ ?_
            clear hK K
            simp only [List.setIfInBounds_toArray, List.set_cons_succ, List.set_cons_zero]
            refine wpAny_ready (rs := [6]) (by kernel_rfl) (by simp) ?_
            refine AllReady.cons rfl (fun K hK => ?_) AllReady.nil
            go_simp
            refine KS.out.mono ?_
            rintro e w2 ⟨⟨v2, rfl⟩, h2, l2⟩
            have HE := hide (And.intro h2 (L1.out.trans l2))
            clear h2 l2
            go_wp2_with fail
            refine wpAny_done (by kernel_rfl) ?_ _
            go_wp2
            go_roundw
            case rel => exact ⟨k + 1, hlt, by go_num, by rw [HNext.out]; exact HE.out.1, HE.out.2⟩
            case measure => simp [intOf]; omega
        · have hke : k = st.loose.length := by omega
          subst hke
          have hR2 := HR.out
          rw [crashed_min picks st.loose st.sure HOk.out.full HOk.out.there _ (Or.inl rfl)] at hR2
          have HR2 := hide hR2
          have hf1 := hR2.free 1
          have hc1 := hR2.cell1
          have hf2 := hR2.free 2
          have hc2 := hR2.cell2
          clear hR hR2
          have h1 := hide HR2.out.nothing
          have HE := hide (h1.out.1.setLeft (-1) (by decide))
          have HLE := hide ((HL.out.trans h1.out.2).trans (Loc.setCell _ ⟨p, 2, none⟩ (.int .i64 (-1)) (Or.inl rfl)))
          go_wp2
          go_ret
          exact ⟨rfl, _, ⟨_, HE.out⟩, HLE.out⟩
  · have hez : ¬ ((st.loose.length : Int) ≤ (picks.length : Int)) := by omega
    have hcz : ((picks.length : Int) ≤ (cL : Int)) := by omega
    go_enter Tryz.func26, Tryz.ntmps26
    go_wp2_with fail
    refine KZ.out.mono ?_
    rintro e w1 ⟨rfl, hw1⟩
    obtain rfl := hw1.symm
    go_wp2_with fail
    go_region
    all_goals
      clear hc1
      have HPd := hide H.out.drew
      go_wp2_with fail
      go_loopw [24] (fun i wr => ∃ k : Nat, k ≤ picks.length ∧ i = .int .i64 (k : Int) ∧ PAt wr p vS (.slice aL st.loose.length cL) x ⟨crashed st.sure picks 0 (st.loose.take k), st.loose, st.left⟩ ∧ Loc (DF p vS (.slice aL st.loose.length cL)) (DF p vS (.slice aL st.loose.length cL)) w wr) (fun i _ => picks.length - (intOf i).toNat)
      case atStart => exact ⟨0, Nat.zero_le _, rfl, HPd.out, (Loc.refl _ _).drew⟩
      case round =>
        obtain ⟨k, hk, rfl, hR, hLoc⟩ := hrel
        have HR := hide hR
        have HL := hide hLoc
        clear hLoc
        by_cases hlt : k < picks.length
        · have hll0 : k < st.loose.length := by omega
          have hpp0 : k < picks.length := by omega
          obtain ⟨gL, rfl, hxL⟩ := row_cell hR.loose (by show 0 < st.loose.length; omega)
          clear hxL
          have hsz : ∀ w ∈ st.loose, w.2.size = 256 := fun w hw => (HOk.out.there w hw).2
          have HRg := hide (hR.write rfl hsz k hll0)
          have hth := HOk.out.there _ (List.getElem_mem hll0)
          have hWs : (wc st.loose[k]).length = 257 := wc_length _ hth.2
          have HWl : Hid ((Tryz.prog.info? 96).map (·.size) = some (wc st.loose[k]).length) := by unfold Hid; rw [hWs]; exact size71
          have HWs := hide (wcs st.loose[k] hth.2)
          have HWo := hide (wcone st.loose[k])
          have hU : Below wr.heap.size wr (wr.alloc (.cells (wc st.loose[k]).toArray 96)) := (Below.refl _ _).alloc (Nat.le_refl _) _
          have hcl : (crashed st.sure picks 0 (st.loose.take k)).length = st.sure.length := crashed_length _ _ _ _
          have hfull : ∀ s ∈ crashed st.sure picks 0 (st.loose.take k), s.size = 256 := crashed_full picks _ _ _ HOk.out.full (fun y hy => HOk.out.there y (List.mem_of_mem_take hy))
          have hpk : picks.getD k 0 = picks[k] := by rw [List.getD_eq_getElem?_getD, List.getElem?_eq_getElem hpp0, Option.getD_some]
          have HNext := hide (crashed_take picks st.loose st.sure k hll0)
          rw [hpk] at HNext
          have KS := hide (pSettle p vS (.slice (some ⟨gL, 0, none⟩) st.loose.length cL) x ⟨crashed st.sure picks 0 (st.loose.take k), st.loose, st.left⟩ st.loose[k].1 st.loose[k].2 picks[k] _ (hR.below hU).drew hfull (by show (crashed _ _ _ _).length ≤ _; rw [hcl]; exact HOk.out.few) (by show _ < (crashed _ _ _ _).length; rw [hcl]; exact hth.1) hth.2 (HPi.out _ (List.getElem_mem hpp0)))
          have L1 : Hid (Loc (DF p vS (.slice (some ⟨gL, 0, none⟩) st.loose.length cL)) (DF p vS (.slice (some ⟨gL, 0, none⟩) st.loose.length cL)) w (wr.alloc (.cells (wc st.loose[k]).toArray 96)).drew) := (HL.out.trans (Loc.of_below _ hU)).drew
          have HA1 := hide (heap_alloc_last wr (.cells Z0 96))
          have HA2 := hide (World.setRow_alloc_new wr Z0 (wc st.loose[k]).toArray 96)
          have HG : Hid ((wr.alloc (.cells (wc st.loose[k]).toArray 96)).drew.heap[wr.heap.size]? = some (.cells (wc st.loose[k]).toArray 96 (0, 0))) := heap_alloc_last wr (.cells (wc st.loose[k]).toArray 96)
          obtain ⟨bP, oP, rfl, hcP⟩ : ∃ b off, aP = some ⟨b, off, none⟩ ∧ ∀ j (hj : j < picks.length), (wr.alloc (.cells (wc st.loose[k]).toArray 96)).cell? ⟨b, off + j, none⟩ = some (.int .i64 picks[j]) := by
            rcases (HP.out.loc HL.out HAp.out) with h1 | ⟨b, off, h1, h2⟩
            · rw [h1] at hpp0; exact absurd hpp0 (by simp)
            · exact ⟨b, off, h1, fun j hj => (hU.cell (p := ⟨b, off + j, none⟩) (World.block_lt_of_cell? _ _ (h2 j hj))).trans (h2 j hj)⟩
          have e5 := hcP k hpp0
          clear hR hsz hth hWs hU hcl hfull hcP hpk
          generalize hY : st.loose[k] = Y at *
          clear hY
          generalize picks[k] = y at *
          have hkz : (k : Int) < (picks.length : Int) := by omega
          have hkp : (k : Int) < (picks.length : Int) := by omega
          go_upto_region 6 with (first
            | (with_reducible refine wpList_load_mid (by with_unfolding_all rfl) 96 (.tmp 27) (by with_unfolding_all rfl) gL (k * 257) (by with_unfolding_all rfl) (wc Y) _ HRg.out Tryz.underlying96 (by with_unfolding_all rfl) HWl.out ?_)
            | (with_reducible refine wpList_store_row (by with_unfolding_all rfl) 96 (.tmp 6) (.tmp 28) (by with_unfolding_all rfl) wr.heap.size (wc Y).toArray (by with_unfolding_all rfl) (by with_unfolding_all rfl) 96 Z0 HA1.out (by rw [HWs.out]; exact size71) (by rw [HWs.out, HZ0.out]) HWo.out ?_))
          rw [HA2.out]
          simp only [Act.put]
          clear HA1 HA2 HRg HL HR HWl
          generalize wr.alloc (.cells (wc Y).toArray 96) = U at *
          generalize wr.heap.size = g at *
          generalize hV : (wc (Y.1, Y.2)).toArray = V at *
          have hV2 : (wc Y).toArray = V := hV
          rw [hV2] at *
          clear hV hV2
          refine wp_region_any (by kernel_rfl) ?_
          change wpAny _ _ _ _ _ _ _ (World.drew _)
          refine takeW 0 29 (v := ?v0_5) rfl rfl (by kernel_rfl) (by kernel_rfl) (by kernel_rfl) (fun _ _ _ h => h) (Or.inl ⟨by rfl, ?hy0_5⟩) ?_
          case hy0_5 => (intro w; go_simp; first | done | with_reducible rfl)
          simp only [List.setIfInBounds_toArray, List.set_cons_succ, List.set_cons_zero]
          refine takeW 2 31 (v := ?v2_6) rfl rfl (by kernel_rfl) (by kernel_rfl) (by kernel_rfl) (fun _ _ _ h => h) (Or.inl ⟨by rfl, ?hy2_6⟩) ?_
          case hy2_6 => (intro w; go_simp; first | done | with_reducible rfl)
          simp only [List.setIfInBounds_toArray, List.set_cons_succ, List.set_cons_zero]
          refine takeW 3 32 (v := ?v3_7) rfl rfl (by kernel_rfl) (by kernel_rfl) (by kernel_rfl) (fun _ _ _ h => h) (Or.inl ⟨by rfl, ?hy3_7⟩) ?_
          case hy3_7 => (intro w; go_simp; first | done | with_reducible rfl)
          simp only [List.setIfInBounds_toArray, List.set_cons_succ, List.set_cons_zero]
          refine takeW 4 33 (v := ?v4_8) rfl rfl (by kernel_rfl) (by kernel_rfl) (by kernel_rfl) (fun _ _ _ h => h) (Or.inl ⟨by rfl, ?hy4_8⟩) ?_
          case hy4_8 => (intro w; go_simp; first | done | with_reducible rfl)
          simp only [List.setIfInBounds_toArray, List.set_cons_succ, List.set_cons_zero]
          refine wpAny_ready (rs := [1, 5]) (by kernel_rfl) (by simp) ?_
          refine AllReady.cons rfl (fun K hK => ?_) (AllReady.cons rfl (fun K hK => ?_) AllReady.nil)
          · refine step_of_wp rfl (wp_load_row 96 (.tmp 6) rfl g rfl 96 V (0, 0) _ HG.out Tryz.underlying96 rfl (by rw [HWs.out]; exact size71) ?_)
            refine K_put (K := K) 30 rfl ?_
            refine hK _ _ ?_
            clear hK K
            simp only [List.setIfInBounds_toArray, List.set_cons_succ, List.set_cons_zero]
            refine wpAny_ready (rs := [5]) (by kernel_rfl) (by simp) ?_
            refine AllReady.cons rfl (fun K hK => ?_) AllReady.nil
            go_simp
            refine hK _ _ ?_
            clear hK K
            refine wpAny_ready (rs := [6]) (by kernel_rfl) (by simp) ?_
            refine AllReady.cons rfl (fun K hK => ?_) AllReady.nil
            go_simp
            refine KS.out.mono ?_
            rintro e w2 ⟨⟨v2, rfl⟩, h2, l2⟩
            have HE := hide (And.intro h2 (L1.out.trans l2))
            clear h2 l2
            go_wp2_with fail
            refine wpAny_done (by kernel_rfl) ?_ _
            go_wp2
            go_roundw
            case rel => exact ⟨k + 1, hlt, by go_num, by rw [HNext.out]; exact HE.out.1, HE.out.2⟩
            case measure => simp [intOf]; omega
          · go_simp
            refine hK _ _ ?_
            clear hK K
            refine wpAny_ready (rs := [1]) (by kernel_rfl) (by simp) ?_
            refine AllReady.cons rfl (fun K hK => ?_) AllReady.nil
            refine step_of_wp rfl (wp_load_row 96 (.tmp 6) rfl g rfl 96 V (0, 0) _ HG.out Tryz.underlying96 rfl (by rw [HWs.out]; exact size71) ?_)
            refine K_put (K := K) 30 rfl ?_
            refine hK _ _ ?_
            clear hK K
            simp only [List.setIfInBounds_toArray, List.set_cons_succ, List.set_cons_zero]
            refine wpAny_ready (rs := [6]) (by kernel_rfl) (by simp) ?_
            refine AllReady.cons rfl (fun K hK => ?_) AllReady.nil
            go_simp
            refine KS.out.mono ?_
            rintro e w2 ⟨⟨v2, rfl⟩, h2, l2⟩
            have HE := hide (And.intro h2 (L1.out.trans l2))
            clear h2 l2
            go_wp2_with fail
            refine wpAny_done (by kernel_rfl) ?_ _
            go_wp2
            go_roundw
            case rel => exact ⟨k + 1, hlt, by go_num, by rw [HNext.out]; exact HE.out.1, HE.out.2⟩
            case measure => simp [intOf]; omega
        · have hke : k = picks.length := by omega
          subst hke
          have hR2 := HR.out
          rw [crashed_min picks st.loose st.sure HOk.out.full HOk.out.there _ (Or.inr ⟨rfl, by omega⟩)] at hR2
          have HR2 := hide hR2
          have hf1 := hR2.free 1
          have hc1 := hR2.cell1
          have hf2 := hR2.free 2
          have hc2 := hR2.cell2
          clear hR hR2
          have h1 := hide HR2.out.nothing
          have HE := hide (h1.out.1.setLeft (-1) (by decide))
          have HLE := hide ((HL.out.trans h1.out.2).trans (Loc.setCell _ ⟨p, 2, none⟩ (.int .i64 (-1)) (Or.inl rfl)))
          go_wp2
          go_ret
          exact ⟨rfl, _, ⟨_, HE.out⟩, HLE.out⟩
set_option maxHeartbeats 400000 in
theorem nCrash (w : World) : Calls Tryz.prog 26 #[.pointer none, .slice none 0 0] w fun e w' => e = .returned (.int .i64 1) ∧ w' = w := by
  go_enter Tryz.func26, Tryz.ntmps26
  go_wp2_with fail
  refine (nSize w).mono ?_
  rintro e w1 ⟨rfl, hw1⟩
  obtain rfl := hw1.symm
  go_wp2
  go_ret
  exact ⟨rfl, rfl⟩
end Go.Proofs.YtchhojkhfdkhfaaGreatDoor
namespace Go.Proofs.YtchhojkhfdkhfaaGreatDoor
open Go Go.RowKit
/-- The numbers of the blocks, as cells. -/
def nums (l : List (Nat × ByteArray)) : List Value := (l.map fun w => (w.1 : Int)).map (Value.int .i64)
theorem nums_take (l : List (Nat × ByteArray)) (k : Nat) (h : k < l.length) : nums (l.take (k + 1)) = nums (l.take k) ++ [.int .i64 (l[k].1 : Int)] := by
  unfold nums
  rw [List.take_succ_eq_append_getElem h, List.map_append, List.map_append]
  rfl
/-- What Loose has while it goes on. -/
structure Tells (w u : World) (p : Nat) (vS vL : Value) (x : Int) (st : St) (v : Value) (k : Nat) : Prop where
  d : PAt u p vS vL x st
  row : u.ownsRow w.heap.size 3 1 v k (nums (st.loose.take k))
  below : Below w.heap.size w u
set_option maxRecDepth 10000 in
set_option maxHeartbeats 2000000 in
theorem pLoose (p : Nat) (vS vL : Value) (x : Int) (st : St) (w : World) (h : PAt w p vS vL x st) (hok : st.Ok) (hl : st.loose.length ≤ 10000) :
    Calls Tryz.prog 16 #[.pointer (some ⟨p, 0, none⟩)] w fun e w' => ∃ a c, e = .returned (.slice a st.loose.length c) ∧ IntsAt w' a (st.loose.map fun w => (w.1 : Int)) ∧ Below w.heap.size w w' := by
  have H := hide h
  have HOk := hide hok
  have hc1 := h.cell1
  obtain ⟨aL, cL, rfl, hcL⟩ := slice_of h.loose
  obtain ⟨i0, hi, hz0, hz1, hz2⟩ := info_parts info3
  have HI := hide (And.intro hi (And.intro hz0 (And.intro hz1 hz2)))
  have hzv := zv71
  have HZ0 := hide (w0_size 0)
  generalize w0 0 = Z0 at *
  have HT0 : Hid (Tells w w p vS (.slice aL st.loose.length cL) x st (.slice none 0 0) 0) := ⟨h, World.ownsRow_nil _ _ _ _, Below.refl _ _⟩
  clear h hok hi hz0 hz1 hz2
  go_enter Tryz.func16, Tryz.ntmps16
  go_wp2_with fail
  clear hc1
  go_loopw [3, 13] (fun v i wr => ∃ k : Nat, k ≤ st.loose.length ∧ i = .int .i64 (k : Int) ∧ Tells w wr p vS (.slice aL st.loose.length cL) x st v k) (fun _ i _ => st.loose.length - (intOf i).toNat)
  case atStart => exact ⟨0, Nat.zero_le _, rfl, HT0.out⟩
  case round =>
    obtain ⟨k, hk, rfl, hT⟩ := hrel
    have HT := hide hT
    by_cases hlt : k < st.loose.length
    · obtain ⟨gL, rfl, hxL⟩ := row_cell hT.d.loose (by omega)
      clear hxL
      have hsz : ∀ w ∈ st.loose, w.2.size = 256 := fun w hw => (HOk.out.there w hw).2
      have HRg := hide (hT.d.write rfl hsz k hlt)
      have hth := HOk.out.there _ (List.getElem_mem hlt)
      have hWs : (wc st.loose[k]).length = 257 := wc_length _ hth.2
      have HWl : Hid ((Tryz.prog.info? 96).map (·.size) = some (wc st.loose[k]).length) := by unfold Hid; rw [hWs]; exact size71
      have HWs := hide (wcs st.loose[k] hth.2)
      have HWo := hide (wcone st.loose[k])
      have hU : Below wr.heap.size wr (wr.alloc (.cells (wc st.loose[k]).toArray 96)) := (Below.refl _ _).alloc (Nat.le_refl _) _
      have HD := hide (hT.d.below hU)
      have HRow := hide (World.ownsRow.alloc hT.row (.cells (wc st.loose[k]).toArray 96))
      have HB := hide (hT.below.trans (hU.mono hT.below.size))
      have HNext := hide (nums_take st.loose k hlt)
      have HA1 := hide (heap_alloc_last wr (.cells Z0 96))
      have HA2 := hide (World.setRow_alloc_new wr Z0 (wc st.loose[k]).toArray 96)
      have hG := heap_alloc_last wr (.cells (wc st.loose[k]).toArray 96)
      have hcb : (wr.alloc (.cells (wc st.loose[k]).toArray 96)).cell? ⟨wr.heap.size, 0, none⟩ = some (.int .i64 ((st.loose[k].1 : Nat) : Int)) := by rw [cell_of_row _ _ _ _ _ _ hG]; rfl
      clear hT hsz hth hWs hU hG
      generalize hY : st.loose[k] = Y at *
      clear hY
      have hkz : (k : Int) < (st.loose.length : Int) := by omega
      go_upto_region 7 with (first
        | (with_reducible refine wpList_load_mid (by with_unfolding_all rfl) 96 (.tmp 15) (by with_unfolding_all rfl) gL (k * 257) (by with_unfolding_all rfl) (wc Y) _ HRg.out Tryz.underlying96 (by with_unfolding_all rfl) HWl.out ?_)
        | (with_reducible refine wpList_store_row (by with_unfolding_all rfl) 96 (.tmp 5) (.tmp 16) (by with_unfolding_all rfl) wr.heap.size (wc Y).toArray (by with_unfolding_all rfl) (by with_unfolding_all rfl) 96 Z0 HA1.out (by rw [HWs.out]; exact size71) (by rw [HWs.out, HZ0.out]) HWo.out ?_))
      rw [HA2.out]
      simp only [Act.put]
      clear HA1 HA2 HRg HT HWl
      generalize wr.alloc (.cells (wc Y).toArray 96) = U at *
      generalize wr.heap.size = g at *
      go_wp2_with (at_builtin; refine wpList_append_own _ rfl _ _ 41 rfl w.heap.size 3 i0 (.int .i64 0) 1 8 Tryz.underlying41 HI.out.1 HI.out.2.1 HI.out.2.2.1 HI.out.2.2.2 rfl (by decide) _ _ _ rfl (World.ownsRow.alloc HRow.out _) ⟨U.heap.size, 0, none⟩ 1 1 [.int .i64 ((Y.1 : Nat) : Int)] rfl rfl ?c1 ?c2 ?c3 ?c4 ?c5 ?_)
      case c1 =>
        intro j u hj
        match j, hj with
        | 0, hj => simp at hj; subst hj; simp [Addr.add]
      case c2 => intro u hu; simp at hu; subst hu; rfl
      case c3 => unfold maxLen; omega
      case c4 => omega
      case c5 => have := HB.out.size; simp; omega
      · intro v1 w1 hown1 hgrow1 _
        have hb1 : Below w.heap.size w w1 := (HB.out.alloc HB.out.size _).grown hgrow1 (by have := HB.out.size; simp; omega) (fun j e => (World.ownsRow.lt HRow.out j e).1)
        have HN : Hid (Tells w w1 p vS (.slice (some ⟨gL, 0, none⟩) st.loose.length cL) x st v1 (k + 1)) := ⟨H.out.below hb1, by rw [HNext.out]; exact hown1, hb1⟩
        clear hown1 hgrow1 hb1
        go_wp2
        go_roundw
        case rel => exact ⟨k + 1, hlt, by go_num, HN.out⟩
        case measure => simp [intOf]; omega
    · have hke : k = st.loose.length := by omega
      subst hke
      have hrow := hT.row
      rw [List.take_length] at hrow
      have hlen : (st.loose.map fun w => (w.1 : Int)).length = st.loose.length := List.length_map _
      obtain ⟨a, c, hv, hia, _⟩ := ints_of_own (l := st.loose.map fun w => (w.1 : Int)) (by rw [hlen]; exact hrow)
      rw [hlen] at hv
      subst hv
      have HE := hide (And.intro hia hT.below)
      clear hT HT hrow hia hlen
      go_wp2
      go_ret
      exact ⟨a, c, rfl, HE.out.1, HE.out.2⟩
set_option maxHeartbeats 400000 in
theorem nLoose (w : World) : Calls Tryz.prog 16 #[.pointer none] w fun e w' => e = .returned (.slice none 0 0) ∧ w' = w := by
  go_enter Tryz.func16, Tryz.ntmps16
  go_wp2
  go_ret
  exact ⟨rfl, rfl⟩
end Go.Proofs.YtchhojkhfdkhfaaGreatDoor
namespace Go.Proofs.YtchhojkhfdkhfaaGreatDoor
open Go Go.RowKit Go.Shelf

/-- Where the library's numbers lie in this program. -/
def bldRen : Ren := ⟨fun x => if x = 165 then 37 else if x = 169 then 39 else if x = 240 then 74 else if x = 241 then 75 else if x = 276 then 103 else if x = 277 then 104 else x, fun t => if t = 72 then 88 else if t = 70 then 86 else if t = 37 then 77 else if t = 164 then 159 else if t = 127 then 128 else t, fun g => g⟩
theorem lays165 : Lays.n165 Tryz.prog bldRen := by
  constructor <;> first | kernel_rfl | (intro w; kernel_rfl)
theorem lays169 : Lays.n169 Tryz.prog bldRen := by
  constructor <;> first | kernel_rfl | (intro w; kernel_rfl)
theorem lays240 : Lays.n240 Tryz.prog bldRen := by
  constructor <;> first | kernel_rfl | (intro w; kernel_rfl)
theorem bldX : Builder.Extra Tryz.prog bldRen := by
  constructor
  · constructor <;> kernel_rfl
  all_goals first | kernel_rfl | (intro w; kernel_rfl) | decide
theorem bGrow (b n : Nat) (w : World) (hbk : w.heap[b]? = some (.cells #[.pointer none, .slice none 0 0] 88 (0, 0))) (hBw : b ≤ w.heap.size) (hn : n ≤ 281474976710656) :
    Calls Tryz.prog 37 #[.pointer (some ⟨b, 0, none⟩), .int .i64 (n : Int)] w fun e w' => e = .returned (.tuple #[]) ∧ (Lib.BuilderAt 88 5 b b (.pointer (some ⟨b, 0, none⟩)) [] w' ∧ Below b w w') := Any.Builder_Grow_fresh lays165 bldX b b n w (Nat.le_refl _) hbk hBw hn
theorem bString (b : Nat) (l : List UInt8) (w : World) (h : Lib.BuilderAt 88 5 b b (.pointer (some ⟨b, 0, none⟩)) (Lib.byteCells l) w) (hBw : b ≤ w.heap.size) :
    Calls Tryz.prog 39 #[.pointer (some ⟨b, 0, none⟩)] w fun e w' => e = .returned (.string ⟨l.toArray⟩) ∧ Below b w w' := Any.Builder_String_any lays169 bldX b b l w (Or.inr h) hBw
theorem bCheck (b : Nat) (w : World) (h0 : w.cell? ⟨b, 0, none⟩ = some (.pointer (some ⟨b, 0, none⟩))) :
    Calls Tryz.prog 74 #[.pointer (some ⟨b, 0, none⟩)] w fun e w' => e = .returned (.tuple #[]) ∧ w' = w := Any.Builder_copyCheck_used lays240 bldX.toX72 b w h0
theorem news_of_block69 {w : World} {c : Nat} {T : ByteArray} (h : w.heap[c]? = some (.cells (tc T).toArray 90 (0, 0))) : ∀ (j : Nat) (u : Value), (tc T)[j]? = some u → w.cell? ((⟨c, 0, none⟩ : Addr).add j) = some u := fun j u hj => by
  rw [add_at, cell_of_row _ _ _ _ _ _ h, List.getElem?_toArray]
  exact hj
set_option maxRecDepth 10000 in
set_option maxHeartbeats 1000000 in
theorem bWrite (b c : Nat) (bs : List Value) (T : ByteArray) (w : World) (h : Lib.BuilderAt 88 5 b b (.pointer (some ⟨b, 0, none⟩)) bs w) (hc : w.heap[c]? = some (.cells (tc T).toArray 90 (0, 0))) (hT : T.size = 256) (hlen : bs.length ≤ 100000000) (hBw : b ≤ w.heap.size) :
    Calls Tryz.prog 38 #[.pointer (some ⟨b, 0, none⟩), .slice (some ⟨c, 0, none⟩) 256 256] w fun e w' => (∃ v, e = .returned v) ∧ Lib.BuilderAt 88 5 b b (.pointer (some ⟨b, 0, none⟩)) (bs ++ tc T) w' ∧ Below b w w' := by
  obtain ⟨i0, hi, hz0, hz1, hz2⟩ := info_parts info5
  have HI := hide (And.intro hi (And.intro hz0 (And.intro hz1 hz2)))
  have KC := hide (bCheck b w h.cell0)
  obtain ⟨_, v, hbk, hown, hne⟩ := h
  have c1 : w.cell? ⟨b, 1, none⟩ = some v := by rw [Lib.cell_of_heap hbk]; rfl
  have HC := hide (news_of_block69 hc)
  have HL : Hid ((tc T).length = 256 * 1) := by unfold Hid; rw [tc_length, hT]
  have HOwn := hide hown
  have HBk := hide hbk
  have HNe := hide hne
  have HO := hide (tc_one T)
  have HBl : Hid (b < w.heap.size) := (Array.getElem?_eq_some_iff.1 hbk).1
  clear hi hz0 hz1 hz2 hbk hown hne hc hT
  go_enter Tryz.func38, Tryz.ntmps38
  go_wp2_with fail
  refine KC.out.mono ?_
  rintro e w1 ⟨rfl, hw1⟩
  obtain rfl := hw1.symm
  go_wp2_with (at_builtin; refine wpList_append_own _ rfl _ _ 77 rfl b 5 i0 (.int .u8 0) 1 1 Tryz.underlying77 HI.out.1 HI.out.2.1 HI.out.2.2.1 HI.out.2.2.2 rfl (by decide) _ _ _ rfl HOwn.out ⟨c, 0, none⟩ 256 256 (tc T) rfl HL.out HC.out HO.out ?c3 ?c4 hBw ?_)
  case c3 => unfold maxLen; omega
  case c4 => omega
  · intro v1 w1 hown1 hgrow1 _
    have hb2 : w1.heap[b]? = some (.cells #[.pointer (some ⟨b, 0, none⟩), v] 88 (0, 0)) := (hgrow1.block b HBl.out (fun e => HNe.out e.symm)).trans HBk.out
    have d1 : w1.cell? ⟨b, 1, none⟩ = some v := by rw [Lib.cell_of_heap hb2]; rfl
    have f1 : w1.frozen? ⟨b, 1, none⟩ = false := Lib.frozen_of_heap hb2 1
    have HE : Hid (Lib.BuilderAt 88 5 b b (.pointer (some ⟨b, 0, none⟩)) (bs ++ tc T) (w1.setCell ⟨b, 1, none⟩ v1)) := Lib.BuilderAt.put (T := 88) (e := 5) (Nat.le_refl _) hb2 (bs' := bs ++ tc T) (by rw [List.length_append, HL.out]; exact hown1) (by decide)
    have HB : Hid (Below b w (w1.setCell ⟨b, 1, none⟩ v1)) := ((Below.refl b w).grown hgrow1 hBw (fun k hk => (World.ownsRow.lt HOwn.out k hk).1)).setCell (p := ⟨b, 1, none⟩) (Nat.le_refl _) _
    obtain ⟨a', c', rfl, _⟩ := slice_of hown1
    clear hown1 hgrow1 hb2
    go_wp2
    go_ret2
    exact ⟨⟨_, rfl⟩, HE.out, HB.out⟩
theorem sc_take (l : List ByteArray) (k : Nat) (h : k < l.length) : sc (l.take (k + 1)) = sc (l.take k) ++ tc l[k] := by
  unfold sc
  rw [List.take_succ_eq_append_getElem h, List.flatMap_append]
  simp
set_option maxRecDepth 10000 in
set_option maxHeartbeats 2000000 in
theorem pSure (p : Nat) (vS vL : Value) (x : Int) (st : St) (w : World) (h : PAt w p vS vL x st) (hok : st.Ok) :
    Calls Tryz.prog 14 #[.pointer (some ⟨p, 0, none⟩)] w fun e w' => e = .returned (.string st.text) ∧ Below w.heap.size w w' := by
  have hfew := hok.few
  have hb0 : Below w.heap.size w (w.alloc (.cells #[.pointer none, .slice none 0 0] 88)) := (Below.refl _ _).alloc (Nat.le_refl _) _
  have KG := hide (bGrow w.heap.size (st.sure.length * 256) (w.alloc (.cells #[.pointer none, .slice none 0 0] 88)) (heap_alloc_last w _) hb0.size (by omega))
  rw [show ((st.sure.length * 256 : Nat) : Int) = (st.sure.length : Int) * 256 from by omega] at KG
  have hc0 := (h.below hb0).cell0
  have HB0 := hide hb0
  have H := hide h
  have HOk := hide hok
  obtain ⟨aS, cS, rfl, _⟩ := slice_of h.sure
  obtain ⟨gS, rfl, hxS⟩ := row_cell h.sure hok.some
  have hz := zv69
  have HZ1 := hide zrow1_size
  generalize zrow1 = Z at *
  clear hxS h hok hb0
  go_enter Tryz.func14, Tryz.ntmps14
  go_wp2_with fail
  refine KG.out.mono ?_
  rintro e w1 ⟨rfl, hB1, hb1⟩
  have hbw := HB0.out.trans hb1
  have HI1 : Hid (Lib.BuilderAt 88 5 w.heap.size w.heap.size (.pointer (some ⟨w.heap.size, 0, none⟩)) (sc (st.sure.take 0)) w1 ∧ Below w.heap.size w w1) := ⟨hB1, hbw⟩
  have hc1 := (H.out.below hbw).cell0
  clear hB1 hb1 hbw hc0 KG HB0
  go_wp2_with fail
  clear hc1
  go_loopw [20] (fun i wr => ∃ k : Nat, k ≤ st.sure.length ∧ i = .int .i64 (k : Int) ∧ Lib.BuilderAt 88 5 w.heap.size w.heap.size (.pointer (some ⟨w.heap.size, 0, none⟩)) (sc (st.sure.take k)) wr ∧ Below w.heap.size w wr) (fun i _ => st.sure.length - (intOf i).toNat)
  case atStart => exact ⟨0, Nat.zero_le _, rfl, HI1.out.1, HI1.out.2⟩
  case round =>
    obtain ⟨k, hk, rfl, hBd, hbl⟩ := hrel
    have HBd := hide hBd
    have HBl := hide hbl
    clear hBd hbl
    by_cases hlt : k < st.sure.length
    · have HRg := hide ((H.out.below HBl.out).block rfl HOk.out.full k hlt)
      have hT := HOk.out.full _ (List.getElem_mem hlt)
      have HT := hide hT
      have HS69 : Hid ((Tryz.prog.info? 90).map (·.size) = some (tc st.sure[k]).length) := by unfold Hid; rw [tc_length, hT]; exact size69
      have HTs : Hid ((tc st.sure[k]).toArray.size = 256) := tsize _ hT
      have HTo := hide (tone st.sure[k])
      have HA1 := hide (heap_alloc_last wr (.cells Z 90))
      have HA2 := hide (World.setRow_alloc_new wr Z (tc st.sure[k]).toArray 90)
      have hU : Below wr.heap.size wr (wr.alloc (.cells (tc st.sure[k]).toArray 90)) := (Below.refl _ _).alloc (Nat.le_refl _) _
      have HG := hide (heap_alloc_last wr (.cells (tc st.sure[k]).toArray 90))
      have HNext := hide (sc_take st.sure k hlt)
      have HLen : Hid ((sc (st.sure.take k)).length ≤ 100000000) := by
        unfold Hid
        rw [sc_length _ (fun s hs => HOk.out.full s (List.mem_of_mem_take hs)), List.length_take]
        omega
      have HBU : Hid (Lib.BuilderAt 88 5 w.heap.size w.heap.size (.pointer (some ⟨w.heap.size, 0, none⟩)) (sc (st.sure.take k)) (wr.alloc (.cells (tc st.sure[k]).toArray 90))) := by
        obtain ⟨h1, v, h2, h3, h4⟩ := HBd.out
        exact ⟨h1, v, (hU.block _ (Array.getElem?_eq_some_iff.1 h2).1).trans h2, World.ownsRow.alloc h3 _, h4⟩
      have HBl2 := hide (HBl.out.trans (hU.mono HBl.out.size))
      clear hU hT HBd HBl
      generalize st.sure[k] = T at *
      have hkz : (k : Int) < (st.sure.length : Int) := by omega
      go_upto_region 8 with (first
        | (with_reducible refine wpList_load_mid (by with_unfolding_all rfl) 90 (.tmp 22) (by with_unfolding_all rfl) gS (k * 256) (by with_unfolding_all rfl) (tc T) _ HRg.out Tryz.underlying90 (by with_unfolding_all rfl) HS69.out ?_)
        | (with_reducible refine wpList_store_row (by with_unfolding_all rfl) 90 (.tmp 5) (.tmp 23) (by with_unfolding_all rfl) wr.heap.size (tc T).toArray (by with_unfolding_all rfl) (by with_unfolding_all rfl) 90 Z HA1.out (by rw [HTs.out]; exact size69) (by rw [HTs.out, HZ1.out]) HTo.out ?_))
      rw [HA2.out]
      simp only [Act.put]
      clear HA1 HA2 HRg HS69
      generalize wr.alloc (.cells (tc T).toArray 90) = U at *
      generalize wr.heap.size = g at *
      have KW := hide (bWrite w.heap.size g (sc (st.sure.take k)) T U HBU.out HG.out HT.out HLen.out HBl2.out.size)
      go_wp2_with fail
      refine KW.out.mono ?_
      rintro e w2 ⟨⟨v2, rfl⟩, h2, hb2⟩
      have HE : Hid (Lib.BuilderAt 88 5 w.heap.size w.heap.size (.pointer (some ⟨w.heap.size, 0, none⟩)) (sc (st.sure.take (k + 1))) w2 ∧ Below w.heap.size w w2) := ⟨by rw [HNext.out]; exact h2, HBl2.out.trans hb2⟩
      clear h2 hb2
      go_wp2
      go_roundw
      case rel => exact ⟨k + 1, hlt, by go_num, HE.out.1, HE.out.2⟩
      case measure => simp [intOf]; omega
    · have hke : k = st.sure.length := by omega
      subst hke
      have hBd := HBd.out
      rw [List.take_length, ← sc_joined] at hBd
      have KS := hide (bString w.heap.size st.text.data.toList wr hBd HBl.out.size)
      clear hBd
      have hX : (⟨st.text.data.toList.toArray⟩ : ByteArray) = st.text := by rw [Array.toArray_toList]
      rw [hX] at KS
      clear hX
      go_wp2_with fail
      refine KS.out.mono ?_
      rintro e w2 ⟨rfl, hb2⟩
      have HE := hide (HBl.out.trans hb2)
      clear hb2
      go_wp2
      go_ret
      exact ⟨rfl, HE.out⟩
set_option maxHeartbeats 400000 in
theorem nSure (w : World) : Calls Tryz.prog 14 #[.pointer none] w fun e w' => e = .returned (.string ⟨#[]⟩) ∧ w' = w := by
  go_enter Tryz.func14, Tryz.ntmps14
  go_wp2
  go_ret
  exact ⟨rfl, rfl⟩
end Go.Proofs.YtchhojkhfdkhfaaGreatDoor
namespace Go.Proofs.YtchhojkhfdkhfaaGreatDoor
open Go Go.RowKit
/-- The program's disk lies at block p, is st, and its blocks are F. -/
def DAt (u : World) (p : Nat) (st : St) (F : Nat → Prop) : Prop := ∃ vS vL x, F = DF p vS vL ∧ PAt u p vS vL x st
theorem stays {u v : World} (h : v = u) : Below u.heap.size u v := by rw [h]; exact Below.refl _ _
theorem con : Con DAt where
  lt := by
    rintro u p st F ⟨vS, vL, x, rfl, h⟩ k hk
    exact h.lt k hk
  same := by
    rintro u v p st F ⟨vS, vL, x, rfl, h⟩ hb
    exact ⟨vS, vL, x, rfl, h.same hb⟩
  new := by
    intro n u h1 h2
    refine (pNew n u h1 h2).mono ?_
    rintro e v ⟨p, vS, vL, x, rfl, h, hF, hb⟩
    exact ⟨p, _, rfl, ⟨vS, vL, x, rfl, h⟩, hF, hb⟩
  newNot := by
    intro n u _ hn
    refine (pNew_not n u hn).mono ?_
    rintro e v ⟨rfl, hv⟩
    exact ⟨rfl, stays hv⟩
  size := by
    rintro p st F u ⟨vS, vL, x, rfl, h⟩ _
    refine (pSize p vS vL x st u h).mono ?_
    rintro e v ⟨rfl, hv⟩
    exact ⟨rfl, stays hv⟩
  read := by
    rintro p st F b u ⟨vS, vL, x, rfl, h⟩ hok hl _
    exact pRead p vS vL x st b u h hok hl
  write := by
    rintro p st F b d u ⟨vS, vL, x, rfl, h⟩ hok hl _ _
    refine (pWrite p vS vL x st b d u h hok hl).mono ?_
    rintro e v ⟨rfl, vL', y, h2, l2⟩
    exact ⟨rfl, _, ⟨vS, vL', y, rfl, h2⟩, l2⟩
  sync := by
    rintro p st F u ⟨vS, vL, x, rfl, h⟩ hok hl
    refine (pSync p vS vL x st u h hok hl).mono ?_
    rintro e v ⟨rfl, vL', y, h2, l2⟩
    exact ⟨rfl, _, ⟨vS, vL', y, rfl, h2⟩, l2⟩
  fuse := by
    rintro p st F n u ⟨vS, vL, x, rfl, h⟩ hok hn
    refine (pFuse p vS vL x st n u h hok hn).mono ?_
    rintro e v ⟨rfl, h2, l2⟩
    exact ⟨rfl, _, ⟨vS, vL, n, rfl, h2⟩, l2⟩
  crash := by
    rintro p st F a c picks u ⟨vS, vL, x, rfl, h⟩ hok hl hP hap hpl hpi
    refine (pCrash p vS vL x st a c picks u h hok hl hP hap hpl hpi).mono ?_
    rintro e v ⟨rfl, vL', y, h2, l2⟩
    exact ⟨rfl, _, ⟨vS, vL', y, rfl, h2⟩, l2⟩
  loose := by
    rintro p st F u ⟨vS, vL, x, rfl, h⟩ hok hl
    exact pLoose p vS vL x st u h hok hl
  sure := by
    rintro p st F u ⟨vS, vL, x, rfl, h⟩ hok
    exact pSure p vS vL x st u h hok
  nread := by
    intro b u
    refine (nRead b u).mono ?_
    rintro e v ⟨rfl, hv⟩
    exact ⟨rfl, stays hv⟩
  nwrite := by
    intro b s u
    refine (nWrite b s u).mono ?_
    rintro e v ⟨rfl, hv⟩
    exact ⟨rfl, stays hv⟩
  nsync := by
    intro u
    refine (nSync u).mono ?_
    rintro e v ⟨rfl, hv⟩
    exact ⟨rfl, stays hv⟩
  nfuse := by
    intro n u
    refine (nFuse n u).mono ?_
    rintro e v ⟨rfl, hv⟩
    exact ⟨rfl, stays hv⟩
  ncrash := by
    intro u
    refine (nCrash u).mono ?_
    rintro e v ⟨rfl, hv⟩
    exact ⟨rfl, stays hv⟩
  nsize := by
    intro u
    refine (nSize u).mono ?_
    rintro e v ⟨rfl, hv⟩
    exact ⟨rfl, stays hv⟩
  nloose := by
    intro u
    refine (nLoose u).mono ?_
    rintro e v ⟨rfl, hv⟩
    exact ⟨none, 0, rfl, stays hv⟩
  nsure := by
    intro u
    refine (nSure u).mono ?_
    rintro e v ⟨rfl, hv⟩
    exact ⟨rfl, stays hv⟩
end Go.Proofs.YtchhojkhfdkhfaaGreatDoor
namespace Go.Proofs.YtchhojkhfdkhfaaGreatDoor
open Go Go.RowKit Frm
theorem tmod2 {n : Int} (h : 0 ≤ n) : Int.tmod n 2 = n % 2 := Int.tmod_eq_emod_of_nonneg h
theorem tdiv2 {n : Int} (h : 0 ≤ n) : Int.tdiv n 2 = n / 2 := Int.tdiv_eq_ediv_of_nonneg h
set_option maxHeartbeats 400000 in
theorem room_any7 (n : Int) (w : World) (hn : -9223372036854775808 ≤ n ∧ n ≤ 9223372036854775807) :
    Calls Tryz.prog 87 #[.int .i64 n] w fun e w' => e = .returned (.int .i64 (room n)) ∧ w' = w := by
  by_cases h1 : n < 4
  · have hr : room n = 0 := by unfold room; rw [if_pos (Or.inl h1)]
    rw [hr]
    have HN := hide hn
    clear hn hr
    go_enter Tryz.func87, Tryz.ntmps87
    go_wp2
    go_ret
    exact ⟨rfl, rfl⟩
  · by_cases h2 : 4096 < n
    · have hr : room n = 0 := by unfold room; rw [if_pos (Or.inr (Or.inl h2))]
      rw [hr]
      have HN := hide hn
      clear hn hr
      go_enter Tryz.func87, Tryz.ntmps87
      go_wp2
      go_ret
      exact ⟨rfl, rfl⟩
    · have ht := tmod2 (n := n) (by omega)
      have hq := tdiv2 (n := n) (by omega)
      by_cases h3 : n % 2 = 0
      · have hr : room n = (n / 2 - 1) * 256 := by unfold room; rw [if_neg (by omega)]
        have hw1 : wrap64 (n / 2) = n / 2 := by unfold wrap64; omega
        have hw2 : wrap64 (n / 2 - 1) = n / 2 - 1 := by unfold wrap64; omega
        have hw3 : wrap64 ((n / 2 - 1) * 256) = (n / 2 - 1) * 256 := by unfold wrap64; omega
        rw [hr]
        have HN := hide hn
        clear hn hr
        go_enter Tryz.func87, Tryz.ntmps87
        go_wp2
        go_ret
        exact ⟨rfl, rfl⟩
      · have hr : room n = 0 := by unfold room; rw [if_pos (Or.inr (Or.inr h3))]
        rw [hr]
        have HN := hide hn
        clear hn hr
        go_enter Tryz.func87, Tryz.ntmps87
        go_wp2
        go_ret
        exact ⟨rfl, rfl⟩
set_option maxHeartbeats 400000 in
theorem mayBe_any (g : Nat) (w : World) :
    Calls Tryz.prog 107 #[.int .u64 (g : Int)] w fun e w' => e = .returned (.bool (decide (1 ≤ g ∧ g ≤ 4611686018427387904))) ∧ w' = w := by
  by_cases h1 : 1 ≤ g
  · by_cases h2 : g ≤ 4611686018427387904
    · have hd : decide (1 ≤ g ∧ g ≤ 4611686018427387904) = true := decide_eq_true ⟨h1, h2⟩
      rw [hd]
      have h1' : (1 : Int) ≤ (g : Int) := by omega
      have h2' : (g : Int) ≤ 4611686018427387904 := by omega
      clear hd h1 h2
      go_enter Tryz.func107, Tryz.ntmps107
      go_wp2
      go_ret
      exact ⟨rfl, rfl⟩
    · have hd : decide (1 ≤ g ∧ g ≤ 4611686018427387904) = false := decide_eq_false (fun h => h2 h.2)
      rw [hd]
      have h1' : (1 : Int) ≤ (g : Int) := by omega
      have h2' : ¬ (g : Int) ≤ 4611686018427387904 := by omega
      clear hd h1 h2
      go_enter Tryz.func107, Tryz.ntmps107
      go_wp2
      go_ret
      exact ⟨rfl, rfl⟩
  · have hd : decide (1 ≤ g ∧ g ≤ 4611686018427387904) = false := decide_eq_false (fun h => h1 h.1)
    rw [hd]
    have h1' : ¬ (1 : Int) ≤ (g : Int) := by omega
    clear hd h1
    go_enter Tryz.func107, Tryz.ntmps107
    go_wp2
    go_ret
    exact ⟨rfl, rfl⟩
set_option maxHeartbeats 400000 in
theorem blocksFor_any (n : Nat) (w : World) (hn : n ≤ 281474976710656) :
    Calls Tryz.prog 115 #[.int .i64 (n : Int)] w fun e w' => e = .returned (.int .i64 ((nb n : Nat) : Int)) ∧ w' = w := by
  have h1 : wrap64 ((n : Int) + 256) = (n : Int) + 256 := by unfold wrap64; omega
  have h2 : wrap64 ((n : Int) + 256 - 1) = (n : Int) + 255 := by unfold wrap64; omega
  have h3 : Int.tdiv ((n : Int) + 255) 256 = ((nb n : Nat) : Int) := by rw [Int.tdiv_eq_ediv_of_nonneg (by omega)]; unfold nb; omega
  have h4 : wrap64 ((nb n : Nat) : Int) = ((nb n : Nat) : Int) := by unfold nb wrap64; omega
  generalize nb n = k at *
  have HN := hide hn
  clear hn
  go_enter Tryz.func115, Tryz.ntmps115
  go_wp2
  go_ret
  exact ⟨congrArg (fun x => Ending.returned (.int .i64 x)) h4, rfl⟩
end Go.Proofs.YtchhojkhfdkhfaaGreatDoor
