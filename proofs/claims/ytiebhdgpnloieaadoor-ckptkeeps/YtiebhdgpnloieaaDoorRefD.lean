/- The document's own disk: Sync, Sure. -/
import Derived.Test.YtiebhdgpnloieaaDoorRefC
import Derived.RegionTactic
namespace Go.Proofs.YtiebhdgpnloieaaDoor
open Go Go.RowKit

theorem laid_snoc : ∀ (l : List (Nat × ByteArray)) (s : List ByteArray) (x : Nat × ByteArray), laid s (l ++ [x]) = (laid s l).set x.1 x.2
  | [], _, _ => rfl
  | w :: l, s, x => by
    show laid (s.set w.1 w.2) (l ++ [x]) = _
    rw [laid_snoc l]
    rfl
theorem laid_take (l : List (Nat × ByteArray)) (s : List ByteArray) (k : Nat) (h : k < l.length) : laid s (l.take (k + 1)) = (laid s (l.take k)).set l[k].1 l[k].2 := by
  rw [List.take_succ_eq_append_getElem h, laid_snoc]
theorem joined_snoc (l : List ByteArray) (t : ByteArray) : joined (l ++ [t]) = joined l ++ t := by unfold joined; rw [List.foldl_append]; rfl
theorem joined_from : ∀ (l : List ByteArray) (s : ByteArray), (∀ t ∈ l, t.size = 256) → (l.foldl (fun s t => s ++ t) s).size = s.size + 256 * l.length
  | [], _, _ => rfl
  | t :: l, s, h => by
    rw [List.foldl_cons, joined_from l (s ++ t) (fun u hu => h u (List.mem_cons_of_mem _ hu)), ByteArray.size_append, h t (by simp), List.length_cons]
    omega
theorem joined_size (l : List ByteArray) (h : ∀ t ∈ l, t.size = 256) : (joined l).size = 256 * l.length := by
  unfold joined
  rw [joined_from l noText h]
  show 0 + _ = _
  omega
set_option maxRecDepth 10000 in
set_option maxHeartbeats 1000000 in
theorem rSure (p : Nat) (vS vL : Value) (st : St) (w : World) (h : RAt w p vS vL st) (hok : st.Ok) :
    Calls Tryd.prog 14 #[.pointer (some ⟨p, 0, none⟩)] w fun e w' => e = .returned (.string st.text) ∧ w' = w := by
  obtain ⟨aS, cS, rfl, _⟩ := slice_of h.sure
  have hc0 := h.cell0
  have H := hide h
  have HOk := hide hok
  have hfew := hok.few
  obtain ⟨gS, rfl, hcS⟩ := row_cell h.sure hok.some
  have HC := hide hcS
  clear h hok hcS
  generalize hX : st.text = X
  have HX := hide hX
  clear hX
  go_enter Tryd.func14, Tryd.ntmps14
  go_wp2_with fail
  go_loop [3, 4] (fun sv i => ∃ k : Nat, k ≤ st.sure.length ∧ i = .int .i64 (k : Int) ∧ sv = .string (joined (st.sure.take k))) (fun _ i => st.sure.length - (intOf i).toNat)
  case atStart => exact ⟨0, Nat.zero_le _, rfl, rfl⟩
  case round =>
    obtain ⟨k, hk, rfl, rfl⟩ := hrel
    by_cases hlt : k < st.sure.length
    · have hc := HC.out k (by omega)
      have hg : (st.sure.map Value.string)[k]? = some (.string st.sure[k]) := by simp [hlt]
      rw [hg] at hc
      have hz : (joined (st.sure.take k)).size = 256 * k := by
        rw [joined_size _ (fun t ht => HOk.out.full t (List.mem_of_mem_take ht)), List.length_take, Nat.min_eq_left hk]
      have hzl : (joined (st.sure.take k)).size ≤ 1048576 := by omega
      have ht : st.sure[k].size ≤ 256 := Nat.le_of_eq (HOk.out.full _ (List.getElem_mem hlt))
      have HJ : Hid (joined (st.sure.take (k + 1)) = joined (st.sure.take k) ++ st.sure[k]) := by
        unfold Hid; rw [List.take_succ_eq_append_getElem hlt, joined_snoc]
      clear hg hz
      generalize joined (st.sure.take k) = J at *
      generalize st.sure[k] = T at *
      go_wp2
      go_round
      case rel => exact ⟨k + 1, hlt, by go_num, by rw [HJ.out]⟩
      case measure => simp [intOf]; omega
    · have hke : k = st.sure.length := by omega
      have hx : joined (st.sure.take k) = X := by rw [hke, List.take_length]; exact HX.out
      rw [hx]
      subst hke
      go_wp2
      go_ret
      exact ⟨rfl, rfl⟩
/-- A block of what is sure is written. -/
theorem RAt.setS {u : World} {p g n c : Nat} {vL : Value} {s : List ByteArray} {l : List (Nat × ByteArray)} {left : Int} (h : RAt u p (.slice (some ⟨g, 0, none⟩) n c) vL ⟨s, l, left⟩) (hn : n = s.length) (b : Nat) (d : ByteArray) :
    RAt (u.setCell ⟨g, b, none⟩ (.string d)) p (.slice (some ⟨g, 0, none⟩) n c) vL ⟨s.set b d, l, left⟩ := by
  subst hn
  have n0 : g ≠ p := fun e => h.ne0 (by rw [e]; rfl)
  have n2 : vL.ownBlock ≠ some g := h.ne2 rfl
  refine ⟨?_, ?_, ?_⟩
  · exact (Below.heap_setCell u ⟨g, b, none⟩ _ p (fun e => n0 (by rw [show p = g from e]))).trans h.head
  · have := (World.ownsRow.stored h.sure b (.string d)).1
    rw [← List.map_set] at this
    show (u.setCell ⟨g, b, none⟩ (.string d)).ownsRow 0 9 1 _ (s.set b d).length ((s.set b d).map Value.string)
    rw [List.length_set]
    exact this
  · exact own_same h.loose (fun k hk => Below.heap_setCell u ⟨g, b, none⟩ _ k (fun e => n2 (by rw [← show k = g from e]; exact hk)))
theorem RAt.drew {u : World} {p : Nat} {vS vL : Value} {st : St} (h : RAt u p vS vL st) : RAt u.drew p vS vL st := ⟨h.head, h.sure, h.loose⟩
set_option maxRecDepth 10000 in
set_option maxHeartbeats 2000000 in
theorem rSync (p : Nat) (vS vL : Value) (st : St) (w : World) (h : RAt w p vS vL st) (hok : st.Ok) (hl : st.loose.length ≤ 100000) :
    Calls Tryd.prog 46 #[.pointer (some ⟨p, 0, none⟩)] w fun e w' => e = .returned (.int .i64 ((st.sync.1 : Nat) : Int)) ∧ ∃ vL', RAt w' p vS vL' st.sync.2 ∧ Loc (RF p vS vL) (RF p vS vL') w w' := by
  have HD := hide (rDown p vS vL st w h)
  have HC := hide (rCounts p vS vL st w h hok.left)
  have H := hide h
  have HOk := hide hok
  have hfew := hok.few
  clear h hok
  by_cases h0 : st.left = 0
  · have hw : st.sync = (50, st) := by unfold St.sync; rw [if_pos h0]
    rw [hw]
    have hb : (st.left == 0) = true := by simpa using h0
    rw [hb] at HD
    clear hw hb h0
    go_enter Tryd.func46, Tryd.ntmps46
    go_wp2_with fail
    refine HD.out.mono ?_
    rintro e w1 ⟨rfl, rfl⟩
    go_wp2
    go_ret
    exact ⟨rfl, vL, H.out, Loc.refl _ _⟩
  · have hb : (st.left == 0) = false := by simpa using h0
    rw [hb] at HD
    have hw : st.sync = (0, ⟨laid st.sure st.loose, [], counted st.left⟩) := by unfold St.sync; rw [if_neg h0]
    rw [hw]
    clear hb hw h0
    obtain ⟨aS, cS, rfl, _⟩ := slice_of H.out.sure
    obtain ⟨gS, rfl, _⟩ := row_cell H.out.sure HOk.out.some
    obtain ⟨aL, cL, rfl, _⟩ := slice_of H.out.loose
    go_enter Tryd.func46, Tryd.ntmps46
    go_wp2_with fail
    refine HD.out.mono ?_
    rintro e w0 ⟨rfl, hw0⟩
    obtain rfl := hw0.symm
    go_wp2_with fail
    refine HC.out.mono ?_
    rintro e w1 ⟨⟨v1, rfl⟩, h1, l1⟩
    have H1 := hide h1
    have L1 := hide l1
    clear h1 l1
    go_wp2_with fail
    go_loopw [3] (fun i wr => ∃ k : Nat, k ≤ st.loose.length ∧ i = .int .i64 (k : Int) ∧ RAt wr p (.slice (some ⟨gS, 0, none⟩) st.sure.length cS) (.slice aL st.loose.length cL) ⟨laid st.sure (st.loose.take k), st.loose, counted st.left⟩ ∧ Loc (RF p (.slice (some ⟨gS, 0, none⟩) st.sure.length cS) (.slice aL st.loose.length cL)) (RF p (.slice (some ⟨gS, 0, none⟩) st.sure.length cS) (.slice aL st.loose.length cL)) w wr) (fun i _ => st.loose.length - (intOf i).toNat)
    case atStart => exact ⟨0, Nat.zero_le _, rfl, H1.out, L1.out⟩
    case round =>
      obtain ⟨k, hk, rfl, hR, hLoc⟩ := hrel
      have HR := hide hR
      have HL := hide hLoc
      have hc0 := hR.cell0
      have hc1 := hR.cell1
      by_cases hlt : k < st.loose.length
      · obtain ⟨gL, rfl, hcL⟩ := row_cell hR.loose (by show 0 < st.loose.length; omega)
        have e1 := hcL (k * 2) (by show k * 2 < st.loose.length * 2; omega)
        have e2 := hcL (k * 2 + 1) (by show k * 2 + 1 < st.loose.length * 2; omega)
        rw [(looseCells_at st.loose k hlt).1] at e1
        rw [(looseCells_at st.loose k hlt).2] at e2
        have hth := HOk.out.there _ (List.getElem_mem hlt)
        have hRs : wr.ownsRow 0 9 1 (.slice (some ⟨gS, 0, none⟩) st.sure.length cS) st.sure.length ((laid st.sure (st.loose.take k)).map Value.string) := by
          have h1 := hR.sure
          rw [show (St.mk (laid st.sure (st.loose.take k)) st.loose (counted st.left)).sure.length = st.sure.length from laid_length _ _] at h1
          exact h1
        have hcell : ∃ v, wr.cell? ⟨gS, st.loose[k].1, none⟩ = some v := by
          obtain ⟨g', hg', hcS⟩ := row_cell hRs (by omega)
          cases hg'
          rw [hcS st.loose[k].1 (by omega)]
          have hll := laid_length (st.loose.take k) st.sure
          exact ⟨_, List.getElem?_eq_getElem (by rw [List.length_map]; omega)⟩
        obtain ⟨v0, e3⟩ := hcell
        have hfr : wr.frozen? ⟨gS, st.loose[k].1, none⟩ = false := World.ownsRow.frozenAt hRs _
        have HNext : Hid (laid st.sure (st.loose.take (k + 1)) = (laid st.sure (st.loose.take k)).set st.loose[k].1 st.loose[k].2) := laid_take _ _ _ hlt
        have hx : ((st.loose[k].1 : Nat) : Int) < (st.sure.length : Int) := by omega
        clear hR hLoc hcL hth hRs
        generalize st.loose[k].1 = x at *
        generalize st.loose[k].2 = d at *
        go_wp2_with fail
        go_region
        all_goals
          go_wp2
          go_roundw
          case rel => exact ⟨k + 1, hlt, by go_num, by rw [HNext.out]; exact (HR.out.setS (laid_length _ _).symm x d).drew, (HL.out.trans (Loc.setCell wr ⟨gS, x, none⟩ _ (Or.inr (Or.inl rfl)))).drew⟩
          case measure => simp [intOf]; omega
      · have hke : k = st.loose.length := by omega
        subst hke
        rw [List.take_length] at hR HR
        have hf1 := hR.free 1
        clear hR hLoc
        go_wp2
        go_ret
        refine ⟨rfl, .slice none 0 0, HR.out.setHead rfl HR.out.rowS (World.ownsRow_nil _ _ _ _), HL.out.trans ⟨rfl, rfl, rfl, by simp [World.setCell], fun j _ hF => Below.heap_setCell wr ⟨p, 1, none⟩ _ j (fun e => hF (Or.inl e)), fun j hj => ?_⟩⟩
        rcases hj with h1 | h1 | h1
        · exact Or.inl (Or.inl h1)
        · exact Or.inl (Or.inr (Or.inl h1))
        · cases h1
end Go.Proofs.YtiebhdgpnloieaaDoor
