/- The program's net: remove, Take, Drop. -/
import Derived.Test.YtdfioggeiagihaaMe7
import Derived.Test.YtdfioggeiagihaaMe3
namespace Go.Proofs.Ytdfioggeiagihaa
open Go Go.RowKit

/-- A row in the same block, cut. -/
theorem PAt.cutL {w w2 : World} {p b g c k : Nat} {st : Nt} {m : Nat} (h : PAt w p b (.slice (some ⟨g, 0, none⟩) st.l.length c) st) (hok : st.Ok m) (hk : k < st.l.length) {n' : Nat} (hl : Recs w2 41 5 letC (.slice (some ⟨g, 0, none⟩) n' c) (st.l.take k ++ st.l.drop (k + 1))) (hlc : Loc (fun j => j = g) (fun j => j = g) w w2) :
    PAt (w2.setCell ⟨p, 0, none⟩ (.slice (some ⟨g, 0, none⟩) n' c)) p b (.slice (some ⟨g, 0, none⟩) n' c) (dropN st st.l[k].id) ∧ Loc (PF p b (.slice (some ⟨g, 0, none⟩) st.l.length c)) (PF p b (.slice (some ⟨g, 0, none⟩) n' c)) w (w2.setCell ⟨p, 0, none⟩ (.slice (some ⟨g, 0, none⟩) n' c)) := by
  have hgp : p ≠ g := fun e => h.neL (by rw [e]; rfl)
  have hgb : b ≠ g := fun e => h.neLB (by rw [e]; rfl)
  obtain ⟨f, h1, h2⟩ := h.mp
  have ed := drop_take hok k hk
  rw [← ed] at hl
  have hr := PAt.setL (vL' := .slice (some ⟨g, 0, none⟩) n' c) ((hlc.block p (h.lt p (Or.inl rfl)) hgp).trans h.head) hl ⟨f, h1.same (hlc.block b (h.lt b (Or.inr (Or.inl rfl))) hgb), h2⟩ h.neB
  refine ⟨hr, ?_⟩
  have l1 : Loc (PF p b (.slice (some ⟨g, 0, none⟩) st.l.length c)) (PF p b (.slice (some ⟨g, 0, none⟩) n' c)) w w2 := ⟨hlc.os, hlc.tape, hlc.output, hlc.size, fun j hj hF => hlc.block j hj (fun e => hF (Or.inr (Or.inr (by rw [e]; rfl)))), fun j hj => Or.inl hj⟩
  exact l1.trans (Loc.setCell w2 ⟨p, 0, none⟩ _ (Or.inl rfl))
set_option maxRecDepth 10000 in
set_option maxHeartbeats 1000000 in
theorem pRemove (p b : Nat) (vL : Value) (st : Nt) (m k : Nat) (w : World) (h : PAt w p b vL st) (hok : st.Ok m) (hk : k < st.l.length) :
    Calls Try.prog 40 #[.pointer (some ⟨p, 0, none⟩), .int .i64 (k : Int)] w fun e w' => e = .returned (.tuple #[]) ∧ ∃ vL', PAt w' p b vL' (dropN st st.l[k].id) ∧ Loc (PF p b vL) (PF p b vL') w w' := by
  obtain ⟨g, c, rfl, hcap, -, -, -⟩ := h.letter (by omega)
  obtain ⟨M, hM⟩ : ∃ M, st.l.length = k + 1 + M := ⟨st.l.length - (k + 1), by omega⟩
  have hfew := hok.few
  have KD := hide (pDelete g c k M st.l w h.ls hM (by omega) (by omega))
  obtain ⟨c0, c1, c2⟩ := h.cells
  have HC : Hid (∀ w2 : World, Recs w2 41 5 letC (.slice (some ⟨g, 0, none⟩) (k + M) c) (st.l.take k ++ st.l.drop (k + 1)) → Loc (fun j => j = g) (fun j => j = g) w w2 → PAt (w2.setCell ⟨p, 0, none⟩ (.slice (some ⟨g, 0, none⟩) (k + M) c)) p b (.slice (some ⟨g, 0, none⟩) (k + M) c) (dropN st st.l[k].id) ∧ Loc (PF p b (.slice (some ⟨g, 0, none⟩) st.l.length c)) (PF p b (.slice (some ⟨g, 0, none⟩) (k + M) c)) w (w2.setCell ⟨p, 0, none⟩ (.slice (some ⟨g, 0, none⟩) (k + M) c))) := fun w2 h1 h2 => h.cutL hok hk h1 h2
  have HP : Hid (∀ w2 : World, Loc (fun j => j = g) (fun j => j = g) w w2 → w2.cell? ⟨p, 0, none⟩ = some (.slice (some ⟨g, 0, none⟩) st.l.length c) ∧ w2.frozen? ⟨p, 0, none⟩ = false) := fun w2 hl => by
    have hgp : p ≠ g := fun e => h.neL (by rw [e]; rfl)
    have hh := (hl.block p (h.lt p (Or.inl rfl)) hgp).trans h.head
    exact ⟨by simp [World.cell?, hh], by simp [World.frozen?, hh]⟩
  have hkb : k ≤ 4096 := by omega
  clear h hok hM hfew
  go_enter Try.func40, Try.ntmps40
  go_wp2_with fail
  refine KD.out.mono ?_
  rintro e w2 ⟨rfl, h2, l2⟩
  obtain ⟨q0, q1⟩ := HP.out w2 l2
  have HR := hide (HC.out w2 h2 l2)
  clear h2 l2 c0 c1 c2
  go_wp2_with fail
  exact ⟨rfl, .tuple #[], by simp [results, Try.results40, go_sem], rfl, _, HR.out.1, HR.out.2⟩
set_option maxHeartbeats 1000000 in
theorem pDrop (p b : Nat) (vL : Value) (st : Nt) (m id : Nat) (w : World) (h : PAt w p b vL st) (hok : st.Ok m) :
    Calls Try.prog 18 #[.pointer (some ⟨p, 0, none⟩), .int .u64 (id : Int)] w fun e w' => e = .returned (.int .i64 (((st.drop id).1 : Nat) : Int)) ∧ ∃ vL', PAt w' p b vL' (st.drop id).2 ∧ Loc (PF p b vL) (PF p b vL') w w' := by
  have H := hide h
  have HOk := hide hok
  have KF := hide (pFind p b vL st m id w h hok)
  clear h hok
  go_enter Try.func18, Try.ntmps18
  go_wp2_with fail
  refine KF.out.mono ?_
  rintro e w1 ⟨hb1, ⟨hf, rfl⟩ | ⟨k, hk, hf, hid, rfl⟩⟩
  · have HE := hide (Nt.drop_no hf)
    have H1 := hide (H.out.below hb1)
    have HB1 := hide (Loc.of_below (PF p b vL) hb1)
    clear hf hb1 KF
    go_wp2
    go_ret
    exact ⟨by rw [HE.out]; rfl, vL, by rw [HE.out]; exact H1.out, HB1.out⟩
  · have HE := hide (Nt.drop_ok hf)
    have H1 := hide (H.out.below hb1)
    have HB1 := hide (Loc.of_below (PF p b vL) hb1)
    have KD := hide (pRemove p b vL st m k w1 H1.out HOk.out hk)
    rw [hid] at KD
    clear hf hb1 KF hid
    go_wp2_with fail
    refine KD.out.mono ?_
    rintro e w2 ⟨rfl, vL', h2, l2⟩
    have HR := hide (And.intro h2 (HB1.out.trans l2))
    clear h2 l2
    go_wp2
    go_ret
    exact ⟨by rw [HE.out]; rfl, vL', by rw [HE.out]; exact HR.out.1, HR.out.2⟩
theorem nDrop (id : Nat) (w : World) : Calls Try.prog 18 #[.pointer none, .int .u64 (id : Int)] w fun e w' => e = .returned (.int .i64 1) ∧ w' = w := by
  have KF := hide (nFind id w)
  go_enter Try.func18, Try.ntmps18
  go_wp2_with fail
  refine KF.out.mono ?_
  rintro e w1 ⟨hw, rfl⟩
  obtain rfl := hw.symm
  clear hw
  go_wp2
  go_ret
  exact ⟨rfl, rfl⟩
set_option maxRecDepth 10000 in
set_option maxHeartbeats 2000000 in
theorem pTake (p b : Nat) (vL : Value) (st : Nt) (m id : Nat) (w : World) (h : PAt w p b vL st) (hok : st.Ok m) :
    Calls Try.prog 14 #[.pointer (some ⟨p, 0, none⟩), .int .u64 (id : Int)] w fun e w' => e = .returned (.tuple #[(st.take id).1.val, .int .i64 (((st.take id).2.1 : Nat) : Int)]) ∧ ∃ vL', PAt w' p b vL' (st.take id).2.2 ∧ Loc (PF p b vL) (PF p b vL') w w' := by
  have H := hide h
  have HOk := hide hok
  have hb1 := hide (one_below w (.cells #[.int .u64 0, .int .i64 0, .int .i64 0, .string ⟨#[]⟩, .int .i64 0] 41))
  have HX := hide (Box.new w #[.int .u64 0, .int .i64 0, .int .i64 0, .string ⟨#[]⟩, .int .i64 0] 41)
  have H1 := hide (h.below hb1.out)
  have KF := hide (pFind p b vL st m id _ H1.out hok)
  have HB : Hid (¬ PF p b vL w.heap.size) := fun hf => by have := h.lt _ hf; omega
  clear h hok
  go_enter Try.func14, Try.ntmps14
  go_wp2_with fail
  generalize w.alloc (.cells #[.int .u64 0, .int .i64 0, .int .i64 0, .string ⟨#[]⟩, .int .i64 0] 41) = w1 at *
  generalize hB : w.heap.size = B at *
  have HBe := hide hB
  clear hB
  refine KF.out.mono ?_
  rintro e w2 ⟨hb2, hcase⟩
  have HX2 := hide (HX.out.below hb2)
  have H2 := hide (H1.out.below hb2)
  have HB2 : Hid (Below B w w2) := hb1.out.trans (hb2.mono (by have := HX.out.lt; omega))
  clear hb2 H1 HX KF hb1
  rcases hcase with ⟨hf, rfl⟩ | ⟨k, hk, hf, hid, rfl⟩
  · have HE := hide (Nt.take_no hf)
    clear hf
    obtain ⟨c0, c1, c2, c3, c4⟩ := HX2.out.five
    have f0 := HX2.out.free
    have S5 := hide (HX2.out.five_put (.int .u64 0) (.int .i64 0) (.int .i64 0) (.string ⟨#[]⟩) (.int .i64 0))
    have L5 := hide (put5_loc w2 B (.int .u64 0) (.int .i64 0) (.int .i64 0) (.string ⟨#[]⟩) (.int .i64 0))
    have HR := hide (H2.out.far L5.out HB.out)
    go_wp2_with fail
    change bodyPost Try.prog _ _ _ _ (put5 w2 B (.int .u64 0) (.int .i64 0) (.int .i64 0) (.string ⟨#[]⟩) (.int .i64 0))
    have HL : Hid (Loc (PF p b vL) (PF p b vL) w (put5 w2 B (.int .u64 0) (.int .i64 0) (.int .i64 0) (.string ⟨#[]⟩) (.int .i64 0))) := (Loc.of_below _ (by rw [HBe.out]; exact HB2.out.trans (L5.out.below (B := B) (fun k hk => by omega) (by have := HX2.out.lt; omega))))
    generalize put5 w2 B (.int .u64 0) (.int .i64 0) (.int .i64 0) (.string ⟨#[]⟩) (.int .i64 0) = w5 at *
    clear c0 c1 c2 c3 c4 f0
    obtain ⟨c0, c1, c2, c3, c4⟩ := S5.out.five
    exact bodyPost_ret (v := .tuple #[.agg #[.int .u64 0, .int .i64 0, .int .i64 0, .string ⟨#[]⟩, .int .i64 0], .int .i64 5]) (by simp [results, Try.results14, go_sem, c0, c1, c2, c3, c4]) rfl ⟨by rw [HE.out]; rfl, vL, by rw [HE.out]; exact HR.out, HL.out⟩
  · obtain ⟨g, c, rfl, hcap, -, h4, -⟩ := H2.out.letter (by omega)
    obtain ⟨g0, g1, g2, g3, g4⟩ := h4 k hk
    obtain ⟨q0, -, -⟩ := H2.out.cells
    have KP : Hid (∀ z, PAt z p b (.slice (some ⟨g, 0, none⟩) st.l.length c) st → Calls Try.prog 39 #[.pointer (some ⟨p, 0, none⟩), st.l[k].val] z fun e w' => e = .returned (.bool (!st.p st.l[k].a st.l[k].b)) ∧ Below z.heap.size z w') := fun z hz => pIsReady p b _ st m st.l[k] z hz HOk.out (List.getElem_mem hk)
    have KD : Hid (∀ z, PAt z p b (.slice (some ⟨g, 0, none⟩) st.l.length c) st → Calls Try.prog 40 #[.pointer (some ⟨p, 0, none⟩), .int .i64 (k : Int)] z fun e w' => e = .returned (.tuple #[]) ∧ ∃ vL', PAt w' p b vL' (dropN st id) ∧ Loc (PF p b (.slice (some ⟨g, 0, none⟩) st.l.length c)) (PF p b vL') z w') := fun z hz => by
      have := pRemove p b _ st m k z hz HOk.out hk
      rw [hid] at this
      exact this
    have hlt : (k : Int) < (st.l.length : Int) := by omega
    have hfew := HOk.out.few
    have HF := hide hf
    have HG : Hid (∀ z : World, PAt z p b (.slice (some ⟨g, 0, none⟩) st.l.length c) st → LetterAt z g (k * 5) st.l[k] ∧ z.cell? ⟨p, 0, none⟩ = some (.slice (some ⟨g, 0, none⟩) st.l.length c)) := fun z hz => by
      obtain ⟨g', c', e', -, -, h4, -⟩ := hz.letter (by omega)
      cases e'
      exact ⟨h4 k hk, hz.cells.1⟩
    clear h4 hf hid
    generalize st.l[k] = y at *
    obtain ⟨yi, ya, yb, ys, yg⟩ := y
    dsimp only at *
    cases hpt : st.p ya yb with
    | true =>
      have HE := hide (Nt.take_cut (x := ⟨yi, ya, yb, ys, yg⟩) HF.out hpt)
      rw [hpt] at KP
      clear hpt
      go_wp2_with fail
      refine (KP.out _ H2.out).mono ?_
      rintro e w3 ⟨rfl, hb3⟩
      have HX3 := hide (HX2.out.below hb3)
      have H3 := hide (H2.out.below hb3)
      have HB3 : Hid (Below B w w3) := HB2.out.trans (hb3.mono (by have := HX2.out.lt; omega))
      clear hb3 KP KD g0 g1 g2 g3 g4 q0 HX2 H2
      obtain ⟨c0, c1, c2, c3, c4⟩ := HX3.out.five
      have f0 := HX3.out.free
      have S5 := hide (HX3.out.five_put (.int .u64 0) (.int .i64 0) (.int .i64 0) (.string ⟨#[]⟩) (.int .i64 0))
      have L5 := hide (put5_loc w3 B (.int .u64 0) (.int .i64 0) (.int .i64 0) (.string ⟨#[]⟩) (.int .i64 0))
      have HR := hide (H3.out.far L5.out HB.out)
      go_wp2_with fail
      change bodyPost Try.prog _ _ _ _ (put5 w3 B (.int .u64 0) (.int .i64 0) (.int .i64 0) (.string ⟨#[]⟩) (.int .i64 0))
      have HL : Hid (Loc (PF p b (.slice (some ⟨g, 0, none⟩) st.l.length c)) (PF p b (.slice (some ⟨g, 0, none⟩) st.l.length c)) w (put5 w3 B (.int .u64 0) (.int .i64 0) (.int .i64 0) (.string ⟨#[]⟩) (.int .i64 0))) := Loc.of_below _ (by rw [HBe.out]; exact HB3.out.trans (L5.out.below (B := B) (fun k hk => by omega) (by have := HX3.out.lt; omega)))
      generalize put5 w3 B (.int .u64 0) (.int .i64 0) (.int .i64 0) (.string ⟨#[]⟩) (.int .i64 0) = w5 at *
      clear c0 c1 c2 c3 c4 f0
      obtain ⟨c0, c1, c2, c3, c4⟩ := S5.out.five
      exact bodyPost_ret (v := .tuple #[.agg #[.int .u64 0, .int .i64 0, .int .i64 0, .string ⟨#[]⟩, .int .i64 0], .int .i64 100]) (by simp [results, Try.results14, go_sem, c0, c1, c2, c3, c4]) rfl ⟨by rw [HE.out]; rfl, _, by rw [HE.out]; exact HR.out, HL.out⟩
    | false =>
      have HE := hide (Nt.take_ok (x := ⟨yi, ya, yb, ys, yg⟩) HF.out hpt)
      rw [hpt] at KP
      clear hpt
      go_wp2_with fail
      refine (KP.out _ H2.out).mono ?_
      rintro e w3 ⟨rfl, hb3⟩
      have HX3 := hide (HX2.out.below hb3)
      have H3 := hide (H2.out.below hb3)
      have HB3 : Hid (Below B w w3) := HB2.out.trans (hb3.mono (by have := HX2.out.lt; omega))
      clear hb3 KP g0 g1 g2 g3 g4 q0 HX2 H2
      obtain ⟨⟨g0, g1, g2, g3, g4⟩, q0⟩ := HG.out w3 H3.out
      dsimp only at g0 g1 g2 g3 g4
      have HY := hide (Box.new w3 #[.int .u64 (yi : Int), .int .i64 ya, .int .i64 yb, .string ys, .int .i64 (yg : Int)] 41)
      have hby := hide (one_below w3 (.cells #[.int .u64 (yi : Int), .int .i64 ya, .int .i64 yb, .string ys, .int .i64 (yg : Int)] 41))
      have H4 := hide (H3.out.below hby.out)
      have HX4 := hide (HX3.out.below hby.out)
      have HNY : Hid (¬ PF p b (.slice (some ⟨g, 0, none⟩) st.l.length c) w3.heap.size) := fun hf => by have := H3.out.lt _ hf; omega
      have HB4 : Hid (Below B w (w3.alloc (.cells #[.int .u64 (yi : Int), .int .i64 ya, .int .i64 yb, .string ys, .int .i64 (yg : Int)] 41))) := HB3.out.trans (hby.out.mono (by have := HX3.out.lt; omega))
      go_upto_region 7 with fail
      generalize w3.alloc (.cells #[.int .u64 (yi : Int), .int .i64 ya, .int .i64 yb, .string ys, .int .i64 (yg : Int)] 41) = w4 at *
      generalize w3.heap.size = X at *
      clear g0 g1 g2 g3 g4 q0 H3 HX3 hby
      go_wp2_with fail
      refine (KD.out _ H4.out).mono ?_
      rintro e w5 ⟨rfl, vL', h5, l5⟩
      have H5 := hide h5
      have HX5 := hide (HX4.out.loc l5 HB.out)
      have HY5 := hide (HY.out.loc l5 HNY.out)
      have HB5 : Hid (¬ PF p b vL' B) := fun hf => by
        rcases l5.own B hf with h | h
        · exact HB.out h
        · have := HX4.out.lt; omega
      have HL5 : Hid (Loc (PF p b (.slice (some ⟨g, 0, none⟩) st.l.length c)) (PF p b vL') w w5) := Loc.beneath (by rw [HBe.out]; exact HB4.out) l5
      clear h5 l5 KD H4 HX4
      obtain ⟨c0, c1, c2, c3, c4⟩ := HX5.out.five
      have f0 := HX5.out.free
      obtain ⟨y0, y1, y2, y3, y4⟩ := HY5.out.five
      have S5 := hide (HX5.out.five_put (.int .u64 (yi : Int)) (.int .i64 ya) (.int .i64 yb) (.string ys) (.int .i64 (yg : Int)))
      have L5 := hide (put5_loc w5 B (.int .u64 (yi : Int)) (.int .i64 ya) (.int .i64 yb) (.string ys) (.int .i64 (yg : Int)))
      have HR := hide (H5.out.far L5.out HB5.out)
      go_wp2_with fail
      change bodyPost Try.prog _ _ _ _ (put5 w5 B (.int .u64 (yi : Int)) (.int .i64 ya) (.int .i64 yb) (.string ys) (.int .i64 (yg : Int)))
      have HL : Hid (Loc (PF p b (.slice (some ⟨g, 0, none⟩) st.l.length c)) (PF p b vL') w (put5 w5 B (.int .u64 (yi : Int)) (.int .i64 ya) (.int .i64 yb) (.string ys) (.int .i64 (yg : Int)))) := by
        have hb5 : ∀ k, k < w.heap.size → (put5 w5 B (.int .u64 (yi : Int)) (.int .i64 ya) (.int .i64 yb) (.string ys) (.int .i64 (yg : Int))).heap[k]? = w5.heap[k]? := fun k hk => L5.out.block k (Nat.lt_of_lt_of_le hk HL5.out.size) (fun e => by have := HBe.out; omega)
        exact ⟨L5.out.os.trans HL5.out.os, L5.out.tape.trans HL5.out.tape, L5.out.output.trans HL5.out.output, Nat.le_trans HL5.out.size L5.out.size, fun k hk hF => (hb5 k hk).trans (HL5.out.block k hk hF), HL5.out.own⟩
      generalize put5 w5 B (.int .u64 (yi : Int)) (.int .i64 ya) (.int .i64 yb) (.string ys) (.int .i64 (yg : Int)) = w6 at *
      clear c0 c1 c2 c3 c4 f0
      obtain ⟨c0, c1, c2, c3, c4⟩ := S5.out.five
      exact bodyPost_ret (v := .tuple #[.agg #[.int .u64 (yi : Int), .int .i64 ya, .int .i64 yb, .string ys, .int .i64 (yg : Int)], .int .i64 0]) (by simp [results, Try.results14, go_sem, c0, c1, c2, c3, c4]) rfl ⟨by rw [HE.out]; rfl, _, by rw [HE.out]; exact HR.out, HL.out⟩
theorem nTake (id : Nat) (w : World) : Calls Try.prog 14 #[.pointer none, .int .u64 (id : Int)] w fun e w' => e = .returned (.tuple #[noLt.val, .int .i64 1]) ∧ Below w.heap.size w w' := by
  have hb1 := hide (one_below w (.cells #[.int .u64 0, .int .i64 0, .int .i64 0, .string ⟨#[]⟩, .int .i64 0] 41))
  have HX := hide (Box.new w #[.int .u64 0, .int .i64 0, .int .i64 0, .string ⟨#[]⟩, .int .i64 0] 41)
  have KF := fun z => hide (nFind id z)
  go_enter Try.func14, Try.ntmps14
  go_wp2_with fail
  generalize w.alloc (.cells #[.int .u64 0, .int .i64 0, .int .i64 0, .string ⟨#[]⟩, .int .i64 0] 41) = w1 at *
  generalize hB : w.heap.size = B at *
  have HBe := hide hB
  clear hB
  refine (KF _).out.mono ?_
  rintro e w2 ⟨hw, rfl⟩
  obtain rfl := hw.symm
  clear hw KF
  obtain ⟨c0, c1, c2, c3, c4⟩ := HX.out.five
  have f0 := HX.out.free
  have S5 := hide (HX.out.five_put (.int .u64 0) (.int .i64 0) (.int .i64 0) (.string ⟨#[]⟩) (.int .i64 0))
  have L5 := hide (put5_loc w1 B (.int .u64 0) (.int .i64 0) (.int .i64 0) (.string ⟨#[]⟩) (.int .i64 0))
  go_wp2_with fail
  change bodyPost Try.prog _ _ _ _ (put5 w1 B (.int .u64 0) (.int .i64 0) (.int .i64 0) (.string ⟨#[]⟩) (.int .i64 0))
  have HL : Hid (Below B w (put5 w1 B (.int .u64 0) (.int .i64 0) (.int .i64 0) (.string ⟨#[]⟩) (.int .i64 0))) := hb1.out.trans (L5.out.below (B := B) (fun k hk => by omega) (by have := HX.out.lt; omega))
  generalize put5 w1 B (.int .u64 0) (.int .i64 0) (.int .i64 0) (.string ⟨#[]⟩) (.int .i64 0) = w5 at *
  clear c0 c1 c2 c3 c4 f0
  obtain ⟨c0, c1, c2, c3, c4⟩ := S5.out.five
  exact bodyPost_ret (v := .tuple #[.agg #[.int .u64 0, .int .i64 0, .int .i64 0, .string ⟨#[]⟩, .int .i64 0], .int .i64 1]) (by simp [results, Try.results14, go_sem, c0, c1, c2, c3, c4]) rfl ⟨rfl, by rw [HBe.out]; exact HL.out⟩
end Go.Proofs.Ytdfioggeiagihaa
