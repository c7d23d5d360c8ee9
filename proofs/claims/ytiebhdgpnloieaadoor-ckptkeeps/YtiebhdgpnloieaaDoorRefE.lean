/- The document's own disk: Crash. -/
import Derived.Test.YtiebhdgpnloieaaDoorRefD
namespace Go.Proofs.YtiebhdgpnloieaaDoor
open Go Go.RowKit

/-- A list of numbers lies at a slice's address. -/
def IntsAt (w : World) (a : Option Addr) (l : List Int) : Prop :=
  l = [] ∨ ∃ b off, a = some ⟨b, off, none⟩ ∧ ∀ j (hj : j < l.length), w.cell? ⟨b, off + j, none⟩ = some (.int .i64 l[j])
/-- It lies in no block of F, if there is anything. -/
def Apart (a : Option Addr) (l : List Int) (F : Nat → Prop) : Prop := l ≠ [] → ∀ b off, a = some ⟨b, off, none⟩ → ¬ F b
theorem crashed_snoc (picks : List Int) : ∀ (l : List (Nat × ByteArray)) (i : Nat) (s : List ByteArray) (x : Nat × ByteArray), crashed s picks i (l ++ [x]) = (crashed s picks i l).set x.1 (torn ((crashed s picks i l).getD x.1 noText) x.2 (picks.getD (i + l.length) 0))
  | [], i, s, x => rfl
  | w :: l, i, s, x => by
    show crashed (s.set w.1 _) picks (i + 1) (l ++ [x]) = _
    rw [crashed_snoc picks l, List.length_cons, show i + 1 + l.length = i + (l.length + 1) from by omega]
    rfl
theorem crashed_take (picks : List Int) (l : List (Nat × ByteArray)) (s : List ByteArray) (k : Nat) (h : k < l.length) :
    crashed s picks 0 (l.take (k + 1)) = (crashed s picks 0 (l.take k)).set l[k].1 (torn ((crashed s picks 0 (l.take k)).getD l[k].1 noText) l[k].2 (picks.getD k 0)) := by
  rw [List.take_succ_eq_append_getElem h, crashed_snoc, List.length_take, Nat.zero_add, Nat.min_eq_left (by omega)]
theorem torn_at (old new : ByteArray) (x : Int) (q : Nat) (h : max (min x 256) 0 = (q : Int)) : torn old new x = new.extract 0 q ++ old.extract q old.size := by
  unfold torn; rw [h]; rfl
theorem IntsAt.loc {F F' : Nat → Prop} {u v : World} {a : Option Addr} {l : List Int} (h : IntsAt u a l) (hl : Loc F F' u v) (hap : Apart a l F) : IntsAt v a l := by
  rcases h with rfl | ⟨b, off, rfl, hc⟩
  · exact Or.inl rfl
  · refine Or.inr ⟨b, off, rfl, fun j hj => ?_⟩
    have h1 := hc j hj
    exact (World.cell?_of_block (w := u) (hl.block b (World.block_lt_of_cell? u _ h1) (hap (fun e => by rw [e] at hj; exact absurd hj (by simp)) b off rfl))).trans h1
theorem torn_zero {old new : ByteArray} {x : Int} (ho : old.size = 256) (h : max (min x 256) 0 = 0) : old.extract 0 256 = torn old new x := by
  rw [torn_at old new x 0 h, ho]
  apply ByteArray.ext
  simp
theorem torn_mid {old new : ByteArray} {x : Int} {q : Nat} (ho : old.size = 256) (h : max (min x 256) 0 = (q : Int)) : new.extract 0 q ++ old.extract q 256 = torn old new x := by
  rw [torn_at old new x q h, ho]
theorem torn_full {old new : ByteArray} {x : Int} (ho : old.size = 256) (h : max (min x 256) 0 = 256) : new.extract 0 256 = torn old new x := by
  rw [torn_at old new x 256 h, ho]
  apply ByteArray.ext
  simp
theorem RAt.nothing {u : World} {p : Nat} {vS vL : Value} {st : St} (h : RAt u p vS vL st) : RAt (u.setCell ⟨p, 1, none⟩ (.slice none 0 0)) p vS (.slice none 0 0) ⟨st.sure, [], st.left⟩ ∧ Loc (RF p vS vL) (RF p vS (.slice none 0 0)) u (u.setCell ⟨p, 1, none⟩ (.slice none 0 0)) := by
  refine ⟨h.setHead rfl h.rowS (World.ownsRow_nil _ _ _ _), ⟨rfl, rfl, rfl, by simp [World.setCell], fun j _ hF => Below.heap_setCell u ⟨p, 1, none⟩ _ j (fun e => hF (Or.inl e)), fun j hj => ?_⟩⟩
  rcases hj with h1 | h1 | h1
  · exact Or.inl (Or.inl h1)
  · exact Or.inl (Or.inr (Or.inl h1))
  · cases h1
/-- A round of a crash. -/
theorem crashStep {w wr : World} {p gS n c x : Nat} {vL : Value} {s s' : List ByteArray} {l : List (Nat × ByteArray)} {left : Int} {o : Obj} {t t' : ByteArray} (h : RAt wr p (.slice (some ⟨gS, 0, none⟩) n c) vL ⟨s, l, left⟩) (hL : Loc (RF p (.slice (some ⟨gS, 0, none⟩) n c) vL) (RF p (.slice (some ⟨gS, 0, none⟩) n c) vL) w wr)
    (hn : n = s.length) (ht : t = t') (hs : s' = s.set x t') :
    RAt ((wr.setCell ⟨gS, x, none⟩ (.string t)).alloc o).drew p (.slice (some ⟨gS, 0, none⟩) n c) vL ⟨s', l, left⟩ ∧ Loc (RF p (.slice (some ⟨gS, 0, none⟩) n c) vL) (RF p (.slice (some ⟨gS, 0, none⟩) n c) vL) w ((wr.setCell ⟨gS, x, none⟩ (.string t)).alloc o).drew := by
  subst ht; subst hs
  have h1 := h.setS hn x t
  exact ⟨(h1.below ((Below.refl _ _).alloc (Nat.le_refl _) _)).drew, ((hL.trans (Loc.setCell wr ⟨gS, x, none⟩ _ (Or.inr (Or.inl rfl)))).trans (Loc.alloc _ _ _)).drew⟩
set_option maxRecDepth 10000 in
set_option maxHeartbeats 4000000 in
theorem rCrash (p : Nat) (vS vL : Value) (st : St) (aP : Option Addr) (cP : Nat) (picks : List Int) (w : World) (h : RAt w p vS vL st) (hok : st.Ok) (hl : st.loose.length ≤ 100000) (hP : IntsAt w aP picks) (hap : Apart aP picks (RF p vS vL)) (_hpl : picks.length ≤ 140737488351232) :
    Calls Tryd.prog 23 #[.pointer (some ⟨p, 0, none⟩), .slice aP picks.length cP] w fun e w' => (∃ v, e = .returned v) ∧ ∃ vL', RAt w' p vS vL' (st.crash picks) ∧ Loc (RF p vS vL) (RF p vS vL') w w' := by
  have H := hide h
  have HOk := hide hok
  have hfew := hok.few
  have HP := hide hP
  have HAp := hide hap
  clear h hok hP hap
  obtain ⟨aS, cS, rfl, _⟩ := slice_of H.out.sure
  obtain ⟨gS, rfl, _⟩ := row_cell H.out.sure HOk.out.some
  obtain ⟨aL, cL, rfl, _⟩ := slice_of H.out.loose
  go_enter Tryd.func23, Tryd.ntmps23
  go_wp2_with fail
  go_loopw [4, 5, 6] (fun i _ _ wr => ∃ k : Nat, k ≤ st.loose.length ∧ i = .int .i64 (k : Int) ∧ RAt wr p (.slice (some ⟨gS, 0, none⟩) st.sure.length cS) (.slice aL st.loose.length cL) ⟨crashed st.sure picks 0 (st.loose.take k), st.loose, st.left⟩ ∧ Loc (RF p (.slice (some ⟨gS, 0, none⟩) st.sure.length cS) (.slice aL st.loose.length cL)) (RF p (.slice (some ⟨gS, 0, none⟩) st.sure.length cS) (.slice aL st.loose.length cL)) w wr) (fun i _ _ _ => st.loose.length - (intOf i).toNat)
  case atStart => exact ⟨0, Nat.zero_le _, rfl, H.out, Loc.refl _ _⟩
  case round =>
    obtain ⟨k, hk, rfl, hR, hLoc⟩ := hrel
    have HR := hide hR
    have HL := hide hLoc
    have hc0 := hR.cell0
    have hc1 := hR.cell1
    by_cases hlt : k < st.loose.length
    · obtain ⟨gL, rfl, hcL⟩ := row_cell hR.loose (by show 0 < st.loose.length; omega)
      have e1 := hcL (k * 2) (by show k * 2 < st.loose.length * 2; omega)
      have e2 := hcL (k * 2 + 1) (by show k * 2 + 1 < st.loose.length * 2; omega)
      rw [(looseCells_at st.loose k hlt).1] at e1
      rw [(looseCells_at st.loose k hlt).2] at e2
      have hth := HOk.out.there _ (List.getElem_mem hlt)
      have hcl := crashed_length picks (st.loose.take k) 0 st.sure
      have hRs : wr.ownsRow 0 9 1 (.slice (some ⟨gS, 0, none⟩) st.sure.length cS) st.sure.length ((crashed st.sure picks 0 (st.loose.take k)).map Value.string) := by
        have h1 := hR.sure
        rw [show (St.mk (crashed st.sure picks 0 (st.loose.take k)) st.loose st.left).sure.length = st.sure.length from hcl] at h1
        exact h1
      have e3 : wr.cell? ⟨gS, st.loose[k].1, none⟩ = some (.string ((crashed st.sure picks 0 (st.loose.take k)).getD st.loose[k].1 noText)) := by
        obtain ⟨g', hg', hcS⟩ := row_cell hRs (by omega)
        cases hg'
        rw [hcS st.loose[k].1 (by omega), List.getElem?_map, List.getD_eq_getElem?_getD, List.getElem?_eq_getElem (by omega)]
        rfl
      have hos : ((crashed st.sure picks 0 (st.loose.take k)).getD st.loose[k].1 noText).size = 256 :=
        getD_size (crashed_full picks _ _ _ HOk.out.full (fun x hx => HOk.out.there x (List.mem_of_mem_take hx))) _ (by omega)
      have hfr : wr.frozen? ⟨gS, st.loose[k].1, none⟩ = false := World.ownsRow.frozenAt hRs _
      have HNext := hide (crashed_take picks st.loose st.sure k hlt)
      have hx : ((st.loose[k].1 : Nat) : Int) < (st.sure.length : Int) := by omega
      have hds : st.loose[k].2.size = 256 := hth.2
      have hP2 := HP.out.loc HL.out HAp.out
      have hgl : gS < wr.heap.size ∧ p < wr.heap.size := ⟨HR.out.lt gS (Or.inr (Or.inl rfl)), HR.out.lt p (Or.inl rfl)⟩
      clear hR hLoc hcL hth hRs hcl
      generalize st.loose[k].1 = x at *
      generalize st.loose[k].2 = d at *
      generalize (crashed st.sure picks 0 (st.loose.take k)).getD x noText = old at *
      by_cases hkp : k < picks.length
      · obtain ⟨bP, oP, rfl, hcP⟩ : ∃ b off, aP = some ⟨b, off, none⟩ ∧ ∀ j (hj : j < picks.length), wr.cell? ⟨b, off + j, none⟩ = some (.int .i64 picks[j]) := by
          rcases hP2 with h1 | h1
          · rw [h1] at hkp; exact absurd hkp (by simp)
          · exact h1
        have e5 := hcP k hkp
        have hpk : picks.getD k 0 = picks[k] := by rw [List.getD_eq_getElem?_getD, List.getElem?_eq_getElem hkp, Option.getD_some]
        clear hcP hP2
        generalize hy : picks[k] = y at *
        have HPK := hide hpk
        clear hpk hy
        have hkpz : (k : Int) < (picks.length : Int) := by omega
        rw [HPK.out] at HNext
        by_cases hy0 : y < 0
        · have hy1 : y ≤ 256 := by omega
          have HT : Hid (old.extract 0 256 = torn old d y) := torn_zero hos (by omega)
          go_wp2_with fail
          go_region
          all_goals
            go_wp2
            go_roundw
            case rel => exact ⟨k + 1, hlt, by go_num, crashStep HR.out HL.out (crashed_length _ _ _ _).symm HT.out HNext.out⟩
            case measure => simp [intOf]; omega
        · by_cases hy1 : y ≤ 256
          · obtain ⟨q, rfl⟩ : ∃ q : Nat, y = (q : Int) := ⟨y.toNat, by omega⟩
            have HT : Hid (d.extract 0 q ++ old.extract q 256 = torn old d (q : Int)) := torn_mid hos (by omega)
            have hq0 : (0 : Int) ≤ (q : Int) := by omega
            have hqd : (q : Int) ≤ 256 := by omega
            go_wp2_with fail
            go_region
            all_goals
              go_wp2
              go_roundw
              case rel => exact ⟨k + 1, hlt, by go_num, crashStep HR.out HL.out (crashed_length _ _ _ _).symm HT.out HNext.out⟩
              case measure => simp [intOf]; omega
          · have HT : Hid (d.extract 0 256 = torn old d y) := torn_full hos (by omega)
            go_wp2_with fail
            go_region
            all_goals
              go_wp2
              go_roundw
              case rel => exact ⟨k + 1, hlt, by go_num, crashStep HR.out HL.out (crashed_length _ _ _ _).symm HT.out HNext.out⟩
              case measure => simp [intOf]; omega
      · clear hP2
        have hkpz : ¬ ((k : Int) < (picks.length : Int)) := by omega
        have hpk : picks.getD k 0 = 0 := by rw [List.getD_eq_getElem?_getD, List.getElem?_eq_none (by omega)]; rfl
        rw [hpk] at HNext
        have HT : Hid (old.extract 0 256 = torn old d 0) := torn_zero hos (by omega)
        clear hpk
        go_wp2_with fail
        go_region
        all_goals
          go_wp2
          go_roundw
          case rel => exact ⟨k + 1, hlt, by go_num, crashStep HR.out HL.out (crashed_length _ _ _ _).symm HT.out HNext.out⟩
          case measure => simp [intOf]; omega
    · have hke : k = st.loose.length := by omega
      subst hke
      rw [List.take_length] at hR HR
      have hf1 := hR.free 1
      have hf2 := hR.free 2
      have hc2 := hR.cell2
      clear hR hLoc
      go_wp2
      go_end0
      have h1 := HR.out.nothing
      exact ⟨⟨_, rfl⟩, .slice none 0 0, h1.1.setLeft (-1), (HL.out.trans h1.2).trans (Loc.setCell _ ⟨p, 2, none⟩ _ (Or.inl rfl))⟩
end Go.Proofs.YtiebhdgpnloieaaDoor
