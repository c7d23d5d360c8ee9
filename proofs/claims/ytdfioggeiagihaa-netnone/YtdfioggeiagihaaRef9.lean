/- The document's own net: Age. -/
import Derived.Test.YtdfioggeiagihaaRef8
namespace Go.Proofs.Ytdfioggeiagihaa
open Go Go.RowKit

theorem flat_set5 (y : Lt) (a b c d e : Value) (hy : letC y = [a, b, c, d, e]) : ∀ (l : List Lt) (k : Nat), k < l.length → ((((((l.flatMap letC).set (k * 5) a).set (k * 5 + 1) b).set (k * 5 + 2) c).set (k * 5 + 3) d).set (k * 5 + 4) e) = (l.set k y).flatMap letC
  | [], _, h => absurd h (by simp)
  | x :: l, 0, _ => by
    rw [List.flatMap_cons, List.set_cons_zero, List.flatMap_cons, hy]
    unfold letC
    rfl
  | x :: l, k + 1, h => by
    have ih := flat_set5 y a b c d e hy l k (by simpa using h)
    rw [List.flatMap_cons, List.set_cons_succ, List.flatMap_cons, ← ih]
    have e1 : ∀ (r : List Value) (i : Nat) (v : Value), (letC x ++ r).set ((k + 1) * 5 + i) v = letC x ++ r.set (k * 5 + i) v := fun r i v => by
      rw [List.set_append_right _ _ (by rw [letC_len]; omega), letC_len]
      congr 2
      omega
    have e0 : ∀ (r : List Value) (v : Value), (letC x ++ r).set ((k + 1) * 5) v = letC x ++ r.set (k * 5) v := fun r v => e1 r 0 v
    rw [e0, e1, e1, e1, e1]
/-- The first ones are older by one. -/
def aged (l : List Lt) (j : Nat) : List Lt := (l.take j).map Lt.older ++ l.drop j
theorem aged_zero (l : List Lt) : aged l 0 = l := rfl
theorem aged_all (l : List Lt) : aged l l.length = l.map Lt.older := by unfold aged; rw [List.take_length, List.drop_length, List.append_nil]
theorem aged_len (l : List Lt) (j : Nat) (h : j ≤ l.length) : (aged l j).length = l.length := by unfold aged; rw [List.length_append, List.length_map, List.length_take, List.length_drop]; omega
theorem aged_at (l : List Lt) (j : Nat) (h : j < l.length) : (aged l j)[j]? = some l[j] := by
  unfold aged
  rw [List.getElem?_append_right (by rw [List.length_map, List.length_take]; omega), List.length_map, List.length_take, Nat.min_eq_left (by omega), Nat.sub_self, List.getElem?_drop, Nat.add_zero, List.getElem?_eq_getElem h]
theorem aged_set (l : List Lt) (j : Nat) (h : j < l.length) : (aged l j).set j l[j].older = aged l (j + 1) := by
  unfold aged
  rw [List.set_append_right _ _ (by rw [List.length_map, List.length_take]; omega), List.length_map, List.length_take, Nat.min_eq_left (by omega), Nat.sub_self, List.drop_eq_getElem_cons h, List.set_cons_zero, List.take_succ_eq_append_getElem h, List.map_append, List.append_assoc]
  rfl
/-- Five cells of a row's record are written. -/
theorem RAt.putLetter {u : World} {q g c : Nat} {vC : Value} {l : List Lt} {n : Nat} {p : Int → Int → Bool} {cuts : List (Int × Int)} (h : RAt u q (.slice (some ⟨g, 0, none⟩) l.length c) vC ⟨l, n, p⟩ cuts) (k : Nat) (hk : k < l.length) (y : Lt) (a b cc d e : Value) (hy : letC y = [a, b, cc, d, e]) :
    RAt (((((u.setCell ⟨g, k * 5, none⟩ a).setCell ⟨g, k * 5 + 1, none⟩ b).setCell ⟨g, k * 5 + 2, none⟩ cc).setCell ⟨g, k * 5 + 3, none⟩ d).setCell ⟨g, k * 5 + 4, none⟩ e) q (.slice (some ⟨g, 0, none⟩) l.length c) vC ⟨l.set k y, n, p⟩ cuts := by
  have h0 : u.ownsRow 0 41 5 (.slice (some ⟨g, 0, none⟩) l.length c) l.length (l.flatMap letC) := h.ls
  have h1 := (World.ownsRow.stored h0 (k * 5) a).1
  have h2 := (World.ownsRow.stored h1 (k * 5 + 1) b).1
  have h3 := (World.ownsRow.stored h2 (k * 5 + 2) cc).1
  have h4 := (World.ownsRow.stored h3 (k * 5 + 3) d).1
  have h5 := (World.ownsRow.stored h4 (k * 5 + 4) e).1
  rw [flat_set5 y a b cc d e hy l k hk] at h5
  have hq : g ≠ q := fun e => h.neL (by rw [e]; rfl)
  have hC : ∀ j, vC.ownBlock = some j → j ≠ g := fun j hj e => h.neLC (g := g) rfl (by rw [← e]; exact hj)
  have far : ∀ j, j ≠ g → (((((u.setCell ⟨g, k * 5, none⟩ a).setCell ⟨g, k * 5 + 1, none⟩ b).setCell ⟨g, k * 5 + 2, none⟩ cc).setCell ⟨g, k * 5 + 3, none⟩ d).setCell ⟨g, k * 5 + 4, none⟩ e).heap[j]? = u.heap[j]? := fun j hj => by
    rw [Below.heap_setCell _ ⟨g, k * 5 + 4, none⟩ e j hj, Below.heap_setCell _ ⟨g, k * 5 + 3, none⟩ d j hj, Below.heap_setCell _ ⟨g, k * 5 + 2, none⟩ cc j hj, Below.heap_setCell _ ⟨g, k * 5 + 1, none⟩ b j hj, Below.heap_setCell _ ⟨g, k * 5, none⟩ a j hj]
  refine ⟨(far q (Ne.symm hq)).trans h.head, ?_, h.cs.same (fun j hj => far j (hC j hj)), h.cut⟩
  unfold Recs
  rw [List.length_set]
  exact h5
theorem put_loc (u : World) (g k : Nat) (a b c d e : Value) (F : Nat → Prop) (hF : F g) : Loc F F u (((((u.setCell ⟨g, k * 5, none⟩ a).setCell ⟨g, k * 5 + 1, none⟩ b).setCell ⟨g, k * 5 + 2, none⟩ c).setCell ⟨g, k * 5 + 3, none⟩ d).setCell ⟨g, k * 5 + 4, none⟩ e) :=
  ((((Loc.setCell (F := F) u ⟨g, k * 5, none⟩ a hF).trans (Loc.setCell (F := F) _ ⟨g, k * 5 + 1, none⟩ b hF)).trans (Loc.setCell (F := F) _ ⟨g, k * 5 + 2, none⟩ c hF)).trans (Loc.setCell (F := F) _ ⟨g, k * 5 + 3, none⟩ d hF)).trans (Loc.setCell (F := F) _ ⟨g, k * 5 + 4, none⟩ e hF)
theorem Box.four_put {u : World} {X : Nat} {T : TypeId} {a b c d e0 : Value} (h : Box u X #[a, b, c, d, e0] T) (e : Value) : Box (u.setCell ⟨X, 4, none⟩ e) X #[a, b, c, d, e] T := by
  show (u.setCell ⟨X, 4, none⟩ e).heap[X]? = _
  rw [heap_setAt h]
  rfl
set_option maxRecDepth 10000 in
set_option maxHeartbeats 4000000 in
theorem rAge (q : Nat) (vL vC : Value) (st : Nt) (cuts : List (Int × Int)) (m : Nat) (w : World) (h : RAt w q vL vC st cuts) (hok : st.Ok m) (hm : m ≤ 1099511627776) :
    Calls Try.prog 25 #[.pointer (some ⟨q, 0, none⟩)] w fun e w' => e = .returned (.tuple #[]) ∧ RAt w' q vL vC (ageN st) cuts ∧ Loc (RF q vL vC) (RF q vL vC) w w' := by
  have H := hide h
  have hfew := hok.few
  have HAg := hide (fun x hx => Nat.le_trans (hok.ages x hx) hm)
  obtain ⟨aL, cL, rfl, -, -, -⟩ := h.ls.slice
  have H0 : Hid (RAt w q (.slice aL st.l.length cL) vC ⟨aged st.l 0, st.n, st.p⟩ cuts) := h
  clear h hok
  go_enter Try.func25, Try.ntmps25
  go_wp2_with fail
  go_loopw [2, 3] (fun i _ u => ∃ j : Nat, j ≤ st.l.length ∧ i = .int .i64 (j : Int) ∧ RAt u q (.slice aL st.l.length cL) vC ⟨aged st.l j, st.n, st.p⟩ cuts ∧ Loc (RF q (.slice aL st.l.length cL) vC) (RF q (.slice aL st.l.length cL) vC) w u) (fun i _ _ => st.l.length - (intOf i).toNat)
  case atStart => exact ⟨0, Nat.zero_le _, rfl, H0.out, Loc.refl _ _⟩
  case round =>
    obtain ⟨j, hj, rfl, hr, hlc⟩ := hrel
    have HR := hide hr
    have HLc := hide hlc
    clear hr hlc
    obtain ⟨p0, -, -⟩ := HR.out.cells
    by_cases hlt : j < st.l.length
    · have hln := aged_len st.l j hj
      obtain ⟨g, c', e', -, -, h4, hfz⟩ := HR.out.letter (by show 0 < (aged st.l j).length; omega)
      rw [show (⟨aged st.l j, st.n, st.p⟩ : Nt).l.length = st.l.length from hln] at e'
      cases e'
      have h5 := h4 j (by show j < (aged st.l j).length; omega)
      have hat : (⟨aged st.l j, st.n, st.p⟩ : Nt).l[j]'(by show j < (aged st.l j).length; omega) = st.l[j] := by
        have h6 := aged_at st.l j hlt
        rw [List.getElem?_eq_getElem (by omega)] at h6
        exact Option.some.inj h6
      rw [hat] at h5
      obtain ⟨g0, g1, g2, g3, g4⟩ := h5
      have HSet := hide (aged_set st.l j hlt)
      have hag := HAg.out _ (List.getElem_mem hlt)
      have hjz : (j : Int) < (st.l.length : Int) := by omega
      clear h4 hat
      generalize st.l[j] = y at *
      obtain ⟨yi, ya, yb, ys, yg⟩ := y
      dsimp only at *
      go_upto_region 4 with fail
      clear p0 g0 g1 g2 g3 g4
      have hby := one_below wr (.cells #[.int .u64 (yi : Int), .int .i64 ya, .int .i64 yb, .string ys, .int .i64 (yg : Int)] 41)
      have H2 := hide (HR.out.below hby)
      have HX := hide (Box.new wr #[.int .u64 (yi : Int), .int .i64 ya, .int .i64 yb, .string ys, .int .i64 (yg : Int)] 41)
      have HNX : Hid (¬ RF q (.slice (some ⟨g, 0, none⟩) st.l.length cL) vC wr.heap.size) := fun hf => by have := HR.out.lt _ hf; omega
      have HLb := hide (HLc.out.trans (Loc.of_below (RF q (.slice (some ⟨g, 0, none⟩) st.l.length cL) vC) hby))
      have HXs : Hid (w.heap.size ≤ wr.heap.size) := HLc.out.size
      clear hby HR HLc hfz
      generalize wr.alloc (.cells #[.int .u64 (yi : Int), .int .i64 ya, .int .i64 yb, .string ys, .int .i64 (yg : Int)] 41) = V0 at *
      generalize wr.heap.size = X at *
      obtain ⟨x0, x1, x2, x3, x4⟩ := HX.out.five
      have f0 := HX.out.free
      have hgy : (yg : Int) + 1 ≤ 1099511627777 := by omega
      have HX1 := hide (HX.out.four_put (.int .i64 ((yg : Int) + 1)))
      have hl1 : Loc (fun k => k = X) (fun k => k = X) V0 (V0.setCell ⟨X, 4, none⟩ (.int .i64 ((yg : Int) + 1))) := Loc.setCell V0 ⟨X, 4, none⟩ _ rfl
      have H3 := hide (H2.out.far hl1 HNX.out)
      have HLd : Hid (Loc (RF q (.slice (some ⟨g, 0, none⟩) st.l.length cL) vC) (RF q (.slice (some ⟨g, 0, none⟩) st.l.length cL) vC) w (V0.setCell ⟨X, 4, none⟩ (.int .i64 ((yg : Int) + 1)))) := ⟨hl1.os.trans HLb.out.os, hl1.tape.trans HLb.out.tape, hl1.output.trans HLb.out.output, Nat.le_trans HLb.out.size hl1.size, fun k hk hF => (hl1.block k (Nat.lt_of_lt_of_le hk HLb.out.size) (fun e => by have := HXs.out; omega)).trans (HLb.out.block k hk hF), HLb.out.own⟩
      clear hl1
      go_wp2_with fail
      clear x0 x1 x2 x3 x4 f0 H2 HX HLb
      generalize V0.setCell ⟨X, 4, none⟩ (.int .i64 ((yg : Int) + 1)) = U at *
      obtain ⟨q0, -, -⟩ := H3.out.cells
      obtain ⟨x0, x1, x2, x3, x4⟩ := HX1.out.five
      have H3' : RAt U q (.slice (some ⟨g, 0, none⟩) (aged st.l j).length cL) vC ⟨aged st.l j, st.n, st.p⟩ cuts := by rw [hln]; exact H3.out
      obtain ⟨g', c', e', -, -, h4, hfz⟩ := H3'.letter (by show 0 < (aged st.l j).length; omega)
      cases e'
      obtain ⟨g0, g1, g2, g3, g4⟩ := h4 j (by show j < (aged st.l j).length; omega)
      have HP := hide (H3'.putLetter j (by omega) ⟨yi, ya, yb, ys, yg + 1⟩ (.int .u64 (yi : Int)) (.int .i64 ya) (.int .i64 yb) (.string ys) (.int .i64 ((yg : Int) + 1)) rfl)
      have HPl := hide (put_loc U g j (.int .u64 (yi : Int)) (.int .i64 ya) (.int .i64 yb) (.string ys) (.int .i64 ((yg : Int) + 1)) (RF q (.slice (some ⟨g, 0, none⟩) st.l.length cL) vC) (Or.inr (Or.inl rfl)))
      have HSet2 : Hid ((aged st.l j).set j ⟨yi, ya, yb, ys, yg + 1⟩ = aged st.l (j + 1)) := HSet.out
      clear h4 H3' hag
      go_region
      all_goals
        have HP2 := HP.out
        rw [hln, HSet2.out] at HP2
        have HL2 := HLd.out.trans HPl.out
        have HPd := hide (HP2.same (v := (((((U.setCell ⟨g, j * 5, none⟩ (.int .u64 (yi : Int))).setCell ⟨g, j * 5 + 1, none⟩ (.int .i64 ya)).setCell ⟨g, j * 5 + 2, none⟩ (.int .i64 yb)).setCell ⟨g, j * 5 + 3, none⟩ (.string ys)).setCell ⟨g, j * 5 + 4, none⟩ (.int .i64 ((yg : Int) + 1))).drew) (fun _ _ => rfl))
        have HLe := hide HL2.drew
        clear HP2 HL2 x0 x1 x2 x3 x4 q0 g0 g1 g2 g3 g4 hfz HP HPl
        generalize (((((U.setCell ⟨g, j * 5, none⟩ (.int .u64 (yi : Int))).setCell ⟨g, j * 5 + 1, none⟩ (.int .i64 ya)).setCell ⟨g, j * 5 + 2, none⟩ (.int .i64 yb)).setCell ⟨g, j * 5 + 3, none⟩ (.string ys)).setCell ⟨g, j * 5 + 4, none⟩ (.int .i64 ((yg : Int) + 1))).drew = Z at *
        go_wp2_with fail
        exact ⟨⟨j + 1, hlt, by go_num, HPd.out, HLe.out⟩, by simp [intOf]; omega⟩
    · have hje : j = st.l.length := by omega
      subst hje
      have hjz : ¬ (st.l.length : Int) < (st.l.length : Int) := by omega
      have HF := HR.out
      rw [aged_all] at HF
      have HFh := hide HF
      clear HF
      go_wp2_with fail
      exact ⟨rfl, .tuple #[], by simp [results, Try.results25, go_sem], rfl, HFh.out, HLc.out⟩
end Go.Proofs.Ytdfioggeiagihaa
