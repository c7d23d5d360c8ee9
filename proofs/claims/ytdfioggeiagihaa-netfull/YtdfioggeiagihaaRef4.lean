/- The document's own net: Take, Drop. -/
import Derived.Test.YtdfioggeiagihaaRef3
namespace Go.Proofs.Ytdfioggeiagihaa
open Go Go.RowKit

theorem Nt.take_no {st : Nt} {id : Nat} (h : st.find id = none) : st.take id = (noLt, 5, st) := by unfold Nt.take; rw [h]
theorem Nt.take_cut {st : Nt} {id : Nat} {x : Lt} (h : st.find id = some x) (hp : st.p x.a x.b = true) : st.take id = (noLt, 100, st) := by unfold Nt.take; rw [h]; simp [hp]
theorem Nt.take_ok {st : Nt} {id : Nat} {x : Lt} (h : st.find id = some x) (hp : st.p x.a x.b = false) : st.take id = (x, 0, dropN st id) := by unfold Nt.take; rw [h]; simp [hp]
theorem Nt.drop_no {st : Nt} {id : Nat} (h : st.find id = none) : st.drop id = (5, st) := by unfold Nt.drop; rw [h]
theorem Nt.drop_ok {st : Nt} {id : Nat} {x : Lt} (h : st.find id = some x) : st.drop id = (0, dropN st id) := by unfold Nt.drop; rw [h]
theorem Loc.beneath {F F' : Nat → Prop} {u u' v : World} (hb : Below u.heap.size u u') (hl : Loc F F' u' v) : Loc F F' u v :=
  ⟨hl.os.trans hb.os, hl.tape.trans hb.tape, hl.output.trans hb.output, Nat.le_trans hb.size hl.size, fun k hk hF => (hl.block k (Nat.lt_of_lt_of_le hk hb.size) hF).trans (hb.block k hk), fun k hk => by
    rcases hl.own k hk with h | h
    · exact Or.inl h
    · exact Or.inr (Nat.le_trans hb.size h)⟩
/-- Five cells of a box are written, one behind the other. -/
def put5 (u : World) (X : Nat) (a b c d e : Value) : World := ((((u.setCell ⟨X, 0, none⟩ a).setCell ⟨X, 1, none⟩ b).setCell ⟨X, 2, none⟩ c).setCell ⟨X, 3, none⟩ d).setCell ⟨X, 4, none⟩ e
theorem Box.five_put {u : World} {X : Nat} {T : TypeId} {a0 b0 c0 d0 e0 : Value} (h : Box u X #[a0, b0, c0, d0, e0] T) (a b c d e : Value) : Box (put5 u X a b c d e) X #[a, b, c, d, e] T := by
  show (put5 u X a b c d e).heap[X]? = _
  unfold put5
  have h1 := heap_setAt (i := 0) h a
  have h2 := heap_setAt (i := 1) h1 b
  have h3 := heap_setAt (i := 2) h2 c
  have h4 := heap_setAt (i := 3) h3 d
  have h5 := heap_setAt (i := 4) h4 e
  rw [h5]
  rfl
theorem put5_loc (u : World) (X : Nat) (a b c d e : Value) : Loc (fun k => k = X) (fun k => k = X) u (put5 u X a b c d e) :=
  ((((Loc.setCell (F := fun k => k = X) u ⟨X, 0, none⟩ a rfl).trans (Loc.setCell (F := fun k => k = X) _ ⟨X, 1, none⟩ b rfl)).trans (Loc.setCell (F := fun k => k = X) _ ⟨X, 2, none⟩ c rfl)).trans (Loc.setCell (F := fun k => k = X) _ ⟨X, 3, none⟩ d rfl)).trans (Loc.setCell (F := fun k => k = X) _ ⟨X, 4, none⟩ e rfl)
theorem RAt.far {u v : World} {q : Nat} {vL vC : Value} {st : Nt} {cuts : List (Int × Int)} {X : Nat} (h : RAt u q vL vC st cuts) (hl : Loc (fun k => k = X) (fun k => k = X) u v) (hX : ¬ RF q vL vC X) : RAt v q vL vC st cuts := h.same (fun k hk => hl.block k (h.lt k hk) (fun e => hX (e ▸ hk)))
set_option maxHeartbeats 1000000 in
theorem rDrop (q : Nat) (vL vC : Value) (st : Nt) (cuts : List (Int × Int)) (m id : Nat) (w : World) (h : RAt w q vL vC st cuts) (hok : st.Ok m) :
    Calls Try.prog 19 #[.pointer (some ⟨q, 0, none⟩), .int .u64 (id : Int)] w fun e w' => e = .returned (.int .i64 (((st.drop id).1 : Nat) : Int)) ∧ ∃ vL', RAt w' q vL' vC (st.drop id).2 cuts ∧ Loc (RF q vL vC) (RF q vL' vC) w w' := by
  have H := hide h
  have HOk := hide hok
  have KF := hide (rFind q vL vC st cuts m id w h hok)
  clear h hok
  go_enter Try.func19, Try.ntmps19
  go_wp2_with fail
  refine KF.out.mono ?_
  rintro e w1 ⟨rfl, ⟨hf, rfl⟩ | ⟨k, hk, hf, hid, rfl⟩⟩
  · have HE := hide (Nt.drop_no hf)
    go_wp2
    go_ret
    exact ⟨by rw [HE.out]; rfl, vL, by rw [HE.out]; exact H.out, Loc.refl _ _⟩
  · have HE := hide (Nt.drop_ok hf)
    have KD := hide (rDropAt q vL vC st cuts m k w1 H.out HOk.out hk)
    rw [hid] at KD
    have hz : ¬ (k : Int) < 0 := by omega
    go_wp2_with fail
    refine KD.out.mono ?_
    rintro e w2 ⟨rfl, vL', h2, l2⟩
    have HR := hide (And.intro h2 l2)
    clear h2 l2
    go_wp2
    go_ret
    exact ⟨by rw [HE.out]; rfl, vL', by rw [HE.out]; exact HR.out.1, HR.out.2⟩
set_option maxRecDepth 10000 in
set_option maxHeartbeats 2000000 in
theorem rTake (q : Nat) (vL vC : Value) (st : Nt) (cuts : List (Int × Int)) (m id : Nat) (w : World) (h : RAt w q vL vC st cuts) (hok : st.Ok m) (hcu : cuts.length ≤ 4096) :
    Calls Try.prog 15 #[.pointer (some ⟨q, 0, none⟩), .int .u64 (id : Int)] w fun e w' => e = .returned (.tuple #[(st.take id).1.val, .int .i64 (((st.take id).2.1 : Nat) : Int)]) ∧ ∃ vL', RAt w' q vL' vC (st.take id).2.2 cuts ∧ Loc (RF q vL vC) (RF q vL' vC) w w' := by
  have H := hide h
  have HOk := hide hok
  have hb1 := hide (one_below w (.cells #[.int .u64 0, .int .i64 0, .int .i64 0, .string ⟨#[]⟩, .int .i64 0] 41))
  have HX := hide (Box.new w #[.int .u64 0, .int .i64 0, .int .i64 0, .string ⟨#[]⟩, .int .i64 0] 41)
  have H1 := hide (h.below hb1.out)
  have KF := hide (rFind q vL vC st cuts m id _ H1.out hok)
  have HB : Hid (¬ RF q vL vC w.heap.size) := fun hf => by have := h.lt _ hf; omega
  clear h hok
  go_enter Try.func15, Try.ntmps15
  go_wp2_with fail
  generalize w.alloc (.cells #[.int .u64 0, .int .i64 0, .int .i64 0, .string ⟨#[]⟩, .int .i64 0] 41) = w1 at *
  generalize hB : w.heap.size = B at *
  have HBe := hide hB
  clear hB
  refine KF.out.mono ?_
  rintro e w2 ⟨hw, ⟨hf, rfl⟩ | ⟨k, hk, hf, hid, rfl⟩⟩
  · obtain rfl := hw.symm
    have HE := hide (Nt.take_no hf)
    clear hw KF
    obtain ⟨c0, c1, c2, c3, c4⟩ := HX.out.five
    have f0 := HX.out.free
    have S5 := hide (HX.out.five_put (.int .u64 0) (.int .i64 0) (.int .i64 0) (.string ⟨#[]⟩) (.int .i64 0))
    have L5 := hide (put5_loc w1 B (.int .u64 0) (.int .i64 0) (.int .i64 0) (.string ⟨#[]⟩) (.int .i64 0))
    have HR := hide (H1.out.far L5.out HB.out)
    go_wp2_with fail
    change bodyPost Try.prog _ _ _ _ (put5 w1 B (.int .u64 0) (.int .i64 0) (.int .i64 0) (.string ⟨#[]⟩) (.int .i64 0))
    have HL : Hid (Loc (RF q vL vC) (RF q vL vC) w (put5 w1 B (.int .u64 0) (.int .i64 0) (.int .i64 0) (.string ⟨#[]⟩) (.int .i64 0))) := (Loc.of_below _ (by rw [HBe.out]; exact hb1.out.trans (L5.out.below (B := B) (fun k hk => by omega) (by have := HX.out.lt; omega))))
    generalize put5 w1 B (.int .u64 0) (.int .i64 0) (.int .i64 0) (.string ⟨#[]⟩) (.int .i64 0) = w5 at *
    clear c0 c1 c2 c3 c4 f0
    obtain ⟨c0, c1, c2, c3, c4⟩ := S5.out.five
    exact bodyPost_ret (v := .tuple #[.agg #[.int .u64 0, .int .i64 0, .int .i64 0, .string ⟨#[]⟩, .int .i64 0], .int .i64 5]) (by simp [results, Try.results15, go_sem, c0, c1, c2, c3, c4]) rfl ⟨by rw [HE.out]; rfl, vL, by rw [HE.out]; exact HR.out, HL.out⟩
  · obtain rfl := hw.symm
    clear hw KF
    obtain ⟨g, c, rfl, hcap, -, h4, -⟩ := H1.out.letter (by omega)
    obtain ⟨g0, g1, g2, g3, g4⟩ := h4 k hk
    obtain ⟨q0, -, -⟩ := H1.out.cells
    have KP : Hid (∀ z, RAt z q (.slice (some ⟨g, 0, none⟩) st.l.length c) vC st cuts → Calls Try.prog 32 #[.pointer (some ⟨q, 0, none⟩), .int .i64 st.l[k].a, .int .i64 st.l[k].b] z fun e w' => e = .returned (.bool (st.p st.l[k].a st.l[k].b)) ∧ w' = z) := fun z hz => rParted q _ vC st cuts _ _ z hz hcu
    have KD : Hid (∀ z, RAt z q (.slice (some ⟨g, 0, none⟩) st.l.length c) vC st cuts → Calls Try.prog 42 #[.pointer (some ⟨q, 0, none⟩), .int .i64 (k : Int)] z fun e w' => e = .returned (.tuple #[]) ∧ ∃ vL', RAt w' q vL' vC (dropN st id) cuts ∧ Loc (RF q (.slice (some ⟨g, 0, none⟩) st.l.length c) vC) (RF q vL' vC) z w') := fun z hz => by
      have := rDropAt q _ vC st cuts m k z hz HOk.out hk
      rw [hid] at this
      exact this
    have hlt : (k : Int) < (st.l.length : Int) := by omega
    have hfew := HOk.out.few
    have HF := hide hf
    obtain ⟨c0, c1, c2, c3, c4⟩ := HX.out.five
    have f0 := HX.out.free
    clear h4 hf hid
    generalize st.l[k] = y at *
    obtain ⟨yi, ya, yb, ys, yg⟩ := y
    dsimp only at *
    have hz : ¬ (k : Int) < 0 := by omega
    have HY := hide (Box.new w1 #[.int .u64 (yi : Int), .int .i64 ya, .int .i64 yb, .string ys, .int .i64 (yg : Int)] 41)
    have hby := hide (one_below w1 (.cells #[.int .u64 (yi : Int), .int .i64 ya, .int .i64 yb, .string ys, .int .i64 (yg : Int)] 41))
    have H2 := hide (H1.out.below hby.out)
    have HX2 := hide (HX.out.below hby.out)
    have HNY : Hid (¬ RF q (.slice (some ⟨g, 0, none⟩) st.l.length c) vC w1.heap.size ∧ w1.heap.size ≠ B) := ⟨fun hf => by have := H1.out.lt _ hf; omega, fun e => by have := HX.out.lt; omega⟩
    have hby2 : Hid (Below B w (w1.alloc (.cells #[.int .u64 (yi : Int), .int .i64 ya, .int .i64 yb, .string ys, .int .i64 (yg : Int)] 41))) := hb1.out.trans (hby.out.mono (by have := HX.out.lt; omega))
    cases hpt : st.p ya yb with
    | true =>
      have HE := hide (Nt.take_cut (x := ⟨yi, ya, yb, ys, yg⟩) HF.out hpt)
      rw [hpt] at KP
      clear hpt
      go_wp2_with fail
      generalize w1.alloc (.cells #[.int .u64 (yi : Int), .int .i64 ya, .int .i64 yb, .string ys, .int .i64 (yg : Int)] 41) = w3 at *
      generalize w1.heap.size = X at *
      refine (KP.out _ H2.out).mono ?_
      rintro e w4 ⟨rfl, hw⟩
      obtain rfl := hw.symm
      clear hw KP KD c0 c1 c2 c3 c4 f0 g0 g1 g2 g3 g4 q0
      obtain ⟨c0, c1, c2, c3, c4⟩ := HX2.out.five
      have f0 := HX2.out.free
      have S5 := hide (HX2.out.five_put (.int .u64 0) (.int .i64 0) (.int .i64 0) (.string ⟨#[]⟩) (.int .i64 0))
      have L5 := hide (put5_loc w3 B (.int .u64 0) (.int .i64 0) (.int .i64 0) (.string ⟨#[]⟩) (.int .i64 0))
      have HR := hide (H2.out.far L5.out HB.out)
      go_wp2_with fail
      change bodyPost Try.prog _ _ _ _ (put5 w3 B (.int .u64 0) (.int .i64 0) (.int .i64 0) (.string ⟨#[]⟩) (.int .i64 0))
      have HL : Hid (Loc (RF q (.slice (some ⟨g, 0, none⟩) st.l.length c) vC) (RF q (.slice (some ⟨g, 0, none⟩) st.l.length c) vC) w (put5 w3 B (.int .u64 0) (.int .i64 0) (.int .i64 0) (.string ⟨#[]⟩) (.int .i64 0))) := Loc.of_below _ (by rw [HBe.out]; exact hby2.out.trans (L5.out.below (B := B) (fun k hk => by omega) (by have := HX2.out.lt; omega)))
      generalize put5 w3 B (.int .u64 0) (.int .i64 0) (.int .i64 0) (.string ⟨#[]⟩) (.int .i64 0) = w5 at *
      clear c0 c1 c2 c3 c4 f0
      obtain ⟨c0, c1, c2, c3, c4⟩ := S5.out.five
      exact bodyPost_ret (v := .tuple #[.agg #[.int .u64 0, .int .i64 0, .int .i64 0, .string ⟨#[]⟩, .int .i64 0], .int .i64 100]) (by simp [results, Try.results15, go_sem, c0, c1, c2, c3, c4]) rfl ⟨by rw [HE.out]; rfl, _, by rw [HE.out]; exact HR.out, HL.out⟩
    | false =>
      have HE := hide (Nt.take_ok (x := ⟨yi, ya, yb, ys, yg⟩) HF.out hpt)
      rw [hpt] at KP
      clear hpt
      go_wp2_with fail
      generalize w1.alloc (.cells #[.int .u64 (yi : Int), .int .i64 ya, .int .i64 yb, .string ys, .int .i64 (yg : Int)] 41) = w3 at *
      generalize w1.heap.size = X at *
      refine (KP.out _ H2.out).mono ?_
      rintro e w4 ⟨rfl, hw⟩
      obtain rfl := hw.symm
      clear hw KP c0 c1 c2 c3 c4 f0 g0 g1 g2 g3 g4 q0
      go_wp2_with fail
      refine (KD.out _ H2.out).mono ?_
      rintro e w4 ⟨rfl, vL', h4, l4⟩
      have H4 := hide h4
      have HX4 := hide (HX2.out.loc l4 HB.out)
      have HY4 := hide ((HY.out).loc l4 HNY.out.1)
      have HB4 : Hid (¬ RF q vL' vC B) := fun hf => by
        rcases l4.own B hf with h | h
        · exact HB.out h
        · have := HX2.out.lt; omega
      have HL4 : Hid (Loc (RF q (.slice (some ⟨g, 0, none⟩) st.l.length c) vC) (RF q vL' vC) w w4) := Loc.beneath (by rw [HBe.out]; exact hby2.out) l4
      clear h4 l4 KD H2 HX2
      obtain ⟨c0, c1, c2, c3, c4⟩ := HX4.out.five
      have f0 := HX4.out.free
      obtain ⟨y0, y1, y2, y3, y4⟩ := HY4.out.five
      have S5 := hide (HX4.out.five_put (.int .u64 (yi : Int)) (.int .i64 ya) (.int .i64 yb) (.string ys) (.int .i64 (yg : Int)))
      have L5 := hide (put5_loc w4 B (.int .u64 (yi : Int)) (.int .i64 ya) (.int .i64 yb) (.string ys) (.int .i64 (yg : Int)))
      have HR := hide (H4.out.far L5.out HB4.out)
      go_wp2_with fail
      change bodyPost Try.prog _ _ _ _ (put5 w4 B (.int .u64 (yi : Int)) (.int .i64 ya) (.int .i64 yb) (.string ys) (.int .i64 (yg : Int)))
      have HL : Hid (Loc (RF q (.slice (some ⟨g, 0, none⟩) st.l.length c) vC) (RF q vL' vC) w (put5 w4 B (.int .u64 (yi : Int)) (.int .i64 ya) (.int .i64 yb) (.string ys) (.int .i64 (yg : Int)))) := by
        have hb5 : ∀ k, k < w.heap.size → (put5 w4 B (.int .u64 (yi : Int)) (.int .i64 ya) (.int .i64 yb) (.string ys) (.int .i64 (yg : Int))).heap[k]? = w4.heap[k]? := fun k hk => L5.out.block k (Nat.lt_of_lt_of_le hk HL4.out.size) (fun e => by have := HBe.out; omega)
        exact ⟨L5.out.os.trans HL4.out.os, L5.out.tape.trans HL4.out.tape, L5.out.output.trans HL4.out.output, Nat.le_trans HL4.out.size L5.out.size, fun k hk hF => (hb5 k hk).trans (HL4.out.block k hk hF), HL4.out.own⟩
      generalize put5 w4 B (.int .u64 (yi : Int)) (.int .i64 ya) (.int .i64 yb) (.string ys) (.int .i64 (yg : Int)) = w5 at *
      clear c0 c1 c2 c3 c4 f0
      obtain ⟨c0, c1, c2, c3, c4⟩ := S5.out.five
      exact bodyPost_ret (v := .tuple #[.agg #[.int .u64 (yi : Int), .int .i64 ya, .int .i64 yb, .string ys, .int .i64 (yg : Int)], .int .i64 0]) (by simp [results, Try.results15, go_sem, c0, c1, c2, c3, c4]) rfl ⟨by rw [HE.out]; rfl, _, by rw [HE.out]; exact HR.out, HL.out⟩
end Go.Proofs.Ytdfioggeiagihaa
