/- The program's net: Part, Join. -/
import Derived.Test.YtdfioggeiagihaaMe3
namespace Go.Proofs.Ytdfioggeiagihaa
open Go Go.RowKit

theorem PAt.putPair {u : World} {p b : Nat} {vL : Value} {st : Nt} (h : PAt u p b vL st) {x y : Int} (hx : 0 ≤ x ∧ x < 256) (hy : 0 ≤ y ∧ y < 256) :
    ∃ v, (Instr.mapUpdate 57 (.map (some b)) (.agg #[.int .i64 (min x y), .int .i64 (max x y)]) (.agg #[])).run Try.prog u = .ok () v ∧ PAt v p b vL (partN st x y) ∧ Loc (PF p b vL) (PF p b vL) u v := by
  obtain ⟨f, ⟨D, h1, h2⟩, h3⟩ := h.mp
  have hk := key_P (min_i64 (i64_of hx) (i64_of hy)) (max_i64 (i64_of hx) (i64_of hy))
  obtain ⟨v, hrun, hown, ht⟩ := h1.store keyedP undMap (by unfold maxLen; omega) hk (d := .held (.agg #[])) (ps := []) (val := .agg #[]) rfl
  have hm : MAt v 70 b (65536 + 1) (putF f (kP (min x y) (max x y)) (.agg #[])) := ⟨_, hown, h2.put h1.isMap (isKey_P _ _) _⟩
  obtain ⟨r1, r2⟩ := h.turned ht hm (h3.part hx hy)
  exact ⟨v, hrun, r1, r2⟩
theorem PAt.delPair {u : World} {p b : Nat} {vL : Value} {st : Nt} (h : PAt u p b vL st) {x y : Int} (hx : 0 ≤ x ∧ x < 256) (hy : 0 ≤ y ∧ y < 256) (ty : TypeId) :
    ∃ v, (Builtin.delete_ #[57, 70] ty #[.map (some b), .agg #[.int .i64 (min x y), .int .i64 (max x y)]]).run Try.prog u = .ok (.tuple #[]) v ∧ PAt v p b vL (joinN st x y) ∧ Loc (PF p b vL) (PF p b vL) u v := by
  obtain ⟨f, ⟨D, h1, h2⟩, h3⟩ := h.mp
  have hk := key_P (min_i64 (i64_of hx) (i64_of hy)) (max_i64 (i64_of hx) (i64_of hy))
  obtain ⟨v, hrun, hown, ht⟩ := h1.drop keyedP undMap hk ty
  have hm : MAt v 70 b 65536 (delF f (kP (min x y) (max x y))) := ⟨_, hown, h2.del (isKey_P _ _)⟩
  obtain ⟨r1, r2⟩ := h.turned ht hm (h3.join hx hy)
  exact ⟨v, hrun, r1, r2⟩
theorem fault_no {x y : Int} (h : faultN x y = 2 → False) : (0 ≤ x ∧ x < 256) ∧ (0 ≤ y ∧ y < 256) ∧ x ≠ y := by
  unfold faultN at h
  split at h
  · exact absurd rfl h
  · rename_i hh
    have h' : adr x = true ∧ adr y = true ∧ ¬ x = y := by simpa using hh
    exact ⟨(adr_iff x).1 h'.1, (adr_iff y).1 h'.2.1, h'.2.2⟩
theorem fault_part (st : Nt) (x y : Int) : (faultN x y = 2 ∧ st.part x y = (2, st) ∧ st.join x y = (2, st)) ∨ (faultN x y = 0 ∧ st.part x y = (0, partN st x y) ∧ st.join x y = (0, joinN st x y) ∧ (0 ≤ x ∧ x < 256) ∧ (0 ≤ y ∧ y < 256)) := by
  unfold faultN Nt.part Nt.join
  split
  · exact Or.inl ⟨rfl, rfl, rfl⟩
  · rename_i hh
    have h' : adr x = true ∧ adr y = true ∧ ¬ x = y := by simpa using hh
    exact Or.inr ⟨rfl, rfl, rfl, (adr_iff x).1 h'.1, (adr_iff y).1 h'.2.1⟩
set_option maxRecDepth 10000 in
set_option maxHeartbeats 2000000 in
theorem pPart (p b : Nat) (vL : Value) (st : Nt) (x y : Int) (w : World) (h : PAt w p b vL st) :
    Calls Try.prog 20 #[.pointer (some ⟨p, 0, none⟩), .int .i64 x, .int .i64 y] w fun e w' => e = .returned (.int .i64 (((st.part x y).1 : Nat) : Int)) ∧ PAt w' p b vL (st.part x y).2 ∧ Loc (PF p b vL) (PF p b vL) w w' := by
  have KF := hide (pFault p b vL st x y w h)
  have H := hide h
  have KB := fun z => hide (pBetween x y z)
  rcases fault_part st x y with ⟨hf, hp, hj⟩ | ⟨hf, hp, hj, hx, hy⟩
  · rw [hf] at KF
    have HE := hide hp
    clear h hf hp hj KB
    go_enter Try.func20, Try.ntmps20
    go_wp2_with fail
    refine KF.out.mono ?_
    rintro e w1 ⟨rfl, hw⟩
    obtain rfl := hw.symm
    clear hw
    go_wp2
    go_ret
    exact ⟨by rw [HE.out]; rfl, by rw [HE.out]; exact H.out, Loc.refl _ _⟩
  · rw [hf] at KF
    have HE := hide hp
    have KU : Hid (∀ u : World, PAt u p b vL st → ∃ v, (Instr.mapUpdate 57 (.map (some b)) (.agg #[.int .i64 (min x y), .int .i64 (max x y)]) (.agg #[])).run Try.prog u = .ok () v ∧ PAt v p b vL (partN st x y) ∧ Loc (PF p b vL) (PF p b vL) u v) := fun u hu => hu.putPair hx hy
    clear h hf hp hj hx hy
    generalize min x y = lo at *
    generalize max x y = hi at *
    go_enter Try.func20, Try.ntmps20
    go_wp2_with fail
    refine KF.out.mono ?_
    rintro e w1 ⟨rfl, hw⟩
    obtain rfl := hw.symm
    clear hw KF
    have HSS : Hid (∀ z : World, PAt z p b vL st → z.cell? ⟨p, 2, none⟩ = some (.map (some b))) := fun z hz => hz.cells.2.2
    go_upto_region 3 with fail
    refine wp_region_held_drew (S := fun z : World => z.cell? ⟨p, 2, none⟩ = some (.map (some b))) (by kernel_rfl) (HSS.out _ (H.out.below (below_drewN (Below.refl _ w) 1))) (fun hHeld => ?_)
    (try dsimp only at hHeld)
    refine takeAtQ 0 14 (v := ?v_t20r3x1x0) rfl rfl (by kernel_rfl) (by kernel_rfl) (by kernel_rfl) (fun _ _ _ h => h) (Or.inl ⟨by rfl, ?hy_t20r3x1x0⟩) (by assumption) ?rest_t20r3x1x0
    case hy_t20r3x1x0 => (intro w hSw; (try dsimp only at hSw); go_simp; first | done | with_reducible rfl)
    simp only [List.setIfInBounds_toArray, List.set_cons_succ, List.set_cons_zero]
    refine takeAtQ 1 15 (v := ?v_t20r3x2x1) rfl rfl (by kernel_rfl) (by kernel_rfl) (by kernel_rfl) (fun _ _ _ h => h) (Or.inl ⟨by rfl, ?hy_t20r3x2x1⟩) (by assumption) ?rest_t20r3x2x1
    case hy_t20r3x2x1 => (intro w hSw; (try dsimp only at hSw); go_simp; first | done | with_reducible rfl)
    simp only [List.setIfInBounds_toArray, List.set_cons_succ, List.set_cons_zero]
    refine takeAtQ 2 16 (v := ?v_t20r3x3x2) rfl rfl (by kernel_rfl) (by kernel_rfl) (by kernel_rfl) (fun _ _ _ h => h) (Or.inl ⟨by rfl, ?hy_t20r3x3x2⟩) (by assumption) ?rest_t20r3x3x2
    case hy_t20r3x3x2 => (intro w hSw; (try dsimp only at hSw); go_simp; first | done | with_reducible rfl)
    simp only [List.setIfInBounds_toArray, List.set_cons_succ, List.set_cons_zero]
    refine takeAtQ 3 17 (v := ?v_t20r3x4x3) rfl rfl (by kernel_rfl) (by kernel_rfl) (by kernel_rfl) (fun _ _ _ h => h) (Or.inl ⟨by rfl, ?hy_t20r3x4x3⟩) (by assumption) ?rest_t20r3x4x3
    case hy_t20r3x4x3 => (intro w hSw; (try dsimp only at hSw); go_simp; first | done | with_reducible rfl)
    simp only [List.setIfInBounds_toArray, List.set_cons_succ, List.set_cons_zero]
    refine takeAtQ 4 18 (v := ?v_t20r3x5x4) rfl rfl (by kernel_rfl) (by kernel_rfl) (by kernel_rfl) (fun _ _ _ h => h) (Or.inl ⟨by rfl, ?hy_t20r3x5x4⟩) (by assumption) ?rest_t20r3x5x4
    case hy_t20r3x5x4 => (intro w hSw; (try dsimp only at hSw); go_simp; first | done | with_reducible rfl)
    simp only [List.setIfInBounds_toArray, List.set_cons_succ, List.set_cons_zero]
    refine takeAtQ 5 19 (v := ?v_t20r3x6x5) rfl rfl (by kernel_rfl) (by kernel_rfl) (by kernel_rfl) (fun _ _ _ h => h) (Or.inl ⟨by rfl, ?hy_t20r3x6x5⟩) (by assumption) ?rest_t20r3x6x5
    case hy_t20r3x6x5 => (intro w hSw; (try dsimp only at hSw); go_simp; first | done | with_reducible rfl)
    simp only [List.setIfInBounds_toArray, List.set_cons_succ, List.set_cons_zero]
    refine takeAtQ 7 21 (v := ?v_t20r3x7x7) rfl rfl (by kernel_rfl) (by kernel_rfl) (by kernel_rfl) (fun _ _ _ h => h) (Or.inl ⟨by rfl, ?hy_t20r3x7x7⟩) (by assumption) ?rest_t20r3x7x7
    case hy_t20r3x7x7 => (intro w hSw; (try dsimp only at hSw); go_simp; first | done | with_reducible rfl)
    simp only [List.setIfInBounds_toArray, List.set_cons_succ, List.set_cons_zero]
    refine wpAnyH_ready (rs := [6]) (by kernel_rfl) (by simp) ?_
    refine (AllReadyH.cons (o := { dst := some 20, op := Go.Op.call { callee := Go.Callee.value (Go.Operand.func 44), args := #[Go.Operand.tmp 18, Go.Operand.tmp 19], argTypes := #[3, 3] }, type := 70, pos := "net.go:75", after := #[{ on := 4, ground := Go.Ground.data }, { on := 5, ground := Go.Ground.data }], guard := none }) rfl (fun K hK => ?g20r3_8_6) AllReadyH.nil)
    case g20r3_8_6 =>
      go_simp
      refine (KB _).out.mono ?_
      rintro e zc ⟨rfl, hbc⟩
      have HBc := hide (below_drew hbc)
      have HPc := hide (H.out.below HBc.out)
      obtain ⟨zu, hrun, hpu, hlu⟩ := KU.out zc HPc.out
      have HU := hide (And.intro hpu ((Loc.of_below (PF p b vL) HBc.out).trans hlu))
      have HRun := hide hrun
      clear hbc hpu hlu hrun
      go_wp2_with fail
      refine hK.out _ _ (HSS.out _ HPc.out) (fun hHeldN => ?_)
      clear hK K hHeld
      (try go_frame)
      have hHeld := hHeldN
      clear hHeldN
      (try dsimp only at hHeld)
      refine wpAnyH_ready (rs := [8]) (by kernel_rfl) (by simp) ?_
      refine (AllReadyH.cons (o := { dst := none, op := Go.Op.mapUpdate 57 (Go.Operand.tmp 17) (Go.Operand.tmp 20) (Go.Operand.tmp 21), type := 0, pos := "net.go:75", after := #[{ on := 3, ground := Go.Ground.data }, { on := 6, ground := Go.Ground.data }, { on := 7, ground := Go.Ground.data }, { on := 6, ground := Go.Ground.chain }, { on := 0, ground := Go.Ground.phase }, { on := 1, ground := Go.Ground.phase }, { on := 2, ground := Go.Ground.phase }, { on := 3, ground := Go.Ground.phase }, { on := 4, ground := Go.Ground.phase }, { on := 5, ground := Go.Ground.phase }, { on := 6, ground := Go.Ground.phase }, { on := 7, ground := Go.Ground.phase }], guard := none }) rfl (fun K hK => ?g20r3_10_8) AllReadyH.nil)
      case g20r3_10_8 =>
        go_simp
        have hrun := HRun.out
        rw [hrun]
        go_simp
        refine hK.out _ _ ((HU.out.1.cells.2.2)) (fun hHeldN => ?_)
        clear hK K hHeld
        (try go_frame)
        have hHeld := hHeldN
        clear hHeldN
        (try dsimp only at hHeld)
        refine wpAnyH_done (by kernel_rfl) ?_ _
        clear hHeld HSS HRun HPc
        go_wp2_with fail
        go_ret
        exact ⟨by rw [HE.out]; rfl, by rw [HE.out]; exact HU.out.1, HU.out.2⟩
set_option maxRecDepth 10000 in
set_option maxHeartbeats 2000000 in
theorem pJoin (p b : Nat) (vL : Value) (st : Nt) (x y : Int) (w : World) (h : PAt w p b vL st) :
    Calls Try.prog 22 #[.pointer (some ⟨p, 0, none⟩), .int .i64 x, .int .i64 y] w fun e w' => e = .returned (.int .i64 (((st.join x y).1 : Nat) : Int)) ∧ PAt w' p b vL (st.join x y).2 ∧ Loc (PF p b vL) (PF p b vL) w w' := by
  have KF := hide (pFault p b vL st x y w h)
  have H := hide h
  have KB := fun z => hide (pBetween x y z)
  rcases fault_part st x y with ⟨hf, hp, hj⟩ | ⟨hf, hp, hj, hx, hy⟩
  · rw [hf] at KF
    have HE := hide hj
    clear h hf hp hj KB
    go_enter Try.func22, Try.ntmps22
    go_wp2_with fail
    refine KF.out.mono ?_
    rintro e w1 ⟨rfl, hw⟩
    obtain rfl := hw.symm
    clear hw
    go_wp2
    go_ret
    exact ⟨by rw [HE.out]; rfl, by rw [HE.out]; exact H.out, Loc.refl _ _⟩
  · rw [hf] at KF
    have HE := hide hj
    have KU : Hid (∀ u : World, PAt u p b vL st → ∃ v, (Builtin.delete_ #[57, 70] 0 #[.map (some b), .agg #[.int .i64 (min x y), .int .i64 (max x y)]]).run Try.prog u = .ok (.tuple #[]) v ∧ PAt v p b vL (joinN st x y) ∧ Loc (PF p b vL) (PF p b vL) u v) := fun u hu => hu.delPair hx hy 0
    clear h hf hp hj hx hy
    generalize min x y = lo at *
    generalize max x y = hi at *
    go_enter Try.func22, Try.ntmps22
    go_wp2_with fail
    refine KF.out.mono ?_
    rintro e w1 ⟨rfl, hw⟩
    obtain rfl := hw.symm
    clear hw KF
    have HSS : Hid (∀ z : World, PAt z p b vL st → z.cell? ⟨p, 2, none⟩ = some (.map (some b))) := fun z hz => hz.cells.2.2
    go_upto_region 3 with fail
    refine wp_region_held_drew (S := fun z : World => z.cell? ⟨p, 2, none⟩ = some (.map (some b))) (by kernel_rfl) (HSS.out _ (H.out.below (below_drewN (Below.refl _ w) 1))) (fun hHeld => ?_)
    (try dsimp only at hHeld)
    refine takeAtQ 0 14 (v := ?v_t22r3x1x0) rfl rfl (by kernel_rfl) (by kernel_rfl) (by kernel_rfl) (fun _ _ _ h => h) (Or.inl ⟨by rfl, ?hy_t22r3x1x0⟩) (by assumption) ?rest_t22r3x1x0
    case hy_t22r3x1x0 => (intro w hSw; (try dsimp only at hSw); go_simp; first | done | with_reducible rfl)
    simp only [List.setIfInBounds_toArray, List.set_cons_succ, List.set_cons_zero]
    refine takeAtQ 1 15 (v := ?v_t22r3x2x1) rfl rfl (by kernel_rfl) (by kernel_rfl) (by kernel_rfl) (fun _ _ _ h => h) (Or.inl ⟨by rfl, ?hy_t22r3x2x1⟩) (by assumption) ?rest_t22r3x2x1
    case hy_t22r3x2x1 => (intro w hSw; (try dsimp only at hSw); go_simp; first | done | with_reducible rfl)
    simp only [List.setIfInBounds_toArray, List.set_cons_succ, List.set_cons_zero]
    refine takeAtQ 2 16 (v := ?v_t22r3x3x2) rfl rfl (by kernel_rfl) (by kernel_rfl) (by kernel_rfl) (fun _ _ _ h => h) (Or.inl ⟨by rfl, ?hy_t22r3x3x2⟩) (by assumption) ?rest_t22r3x3x2
    case hy_t22r3x3x2 => (intro w hSw; (try dsimp only at hSw); go_simp; first | done | with_reducible rfl)
    simp only [List.setIfInBounds_toArray, List.set_cons_succ, List.set_cons_zero]
    refine takeAtQ 3 17 (v := ?v_t22r3x4x3) rfl rfl (by kernel_rfl) (by kernel_rfl) (by kernel_rfl) (fun _ _ _ h => h) (Or.inl ⟨by rfl, ?hy_t22r3x4x3⟩) (by assumption) ?rest_t22r3x4x3
    case hy_t22r3x4x3 => (intro w hSw; (try dsimp only at hSw); go_simp; first | done | with_reducible rfl)
    simp only [List.setIfInBounds_toArray, List.set_cons_succ, List.set_cons_zero]
    refine takeAtQ 4 18 (v := ?v_t22r3x5x4) rfl rfl (by kernel_rfl) (by kernel_rfl) (by kernel_rfl) (fun _ _ _ h => h) (Or.inl ⟨by rfl, ?hy_t22r3x5x4⟩) (by assumption) ?rest_t22r3x5x4
    case hy_t22r3x5x4 => (intro w hSw; (try dsimp only at hSw); go_simp; first | done | with_reducible rfl)
    simp only [List.setIfInBounds_toArray, List.set_cons_succ, List.set_cons_zero]
    refine takeAtQ 5 19 (v := ?v_t22r3x6x5) rfl rfl (by kernel_rfl) (by kernel_rfl) (by kernel_rfl) (fun _ _ _ h => h) (Or.inl ⟨by rfl, ?hy_t22r3x6x5⟩) (by assumption) ?rest_t22r3x6x5
    case hy_t22r3x6x5 => (intro w hSw; (try dsimp only at hSw); go_simp; first | done | with_reducible rfl)
    simp only [List.setIfInBounds_toArray, List.set_cons_succ, List.set_cons_zero]
    refine wpAnyH_ready (rs := [6]) (by kernel_rfl) (by simp) ?_
    refine (AllReadyH.cons (o := { dst := some 20, op := Go.Op.call { callee := Go.Callee.value (Go.Operand.func 44), args := #[Go.Operand.tmp 18, Go.Operand.tmp 19], argTypes := #[3, 3] }, type := 70, pos := "net.go:84", after := #[{ on := 4, ground := Go.Ground.data }, { on := 5, ground := Go.Ground.data }], guard := none }) rfl (fun K hK => ?g22r3_7_6) AllReadyH.nil)
    case g22r3_7_6 =>
      go_simp
      refine (KB _).out.mono ?_
      rintro e zc ⟨rfl, hbc⟩
      have HBc := hide (below_drew hbc)
      have HPc := hide (H.out.below HBc.out)
      obtain ⟨zu, hrun, hpu, hlu⟩ := KU.out zc HPc.out
      have HU := hide (And.intro hpu ((Loc.of_below (PF p b vL) HBc.out).trans hlu))
      have HRun := hide hrun
      clear hbc hpu hlu hrun
      go_wp2_with fail
      refine hK.out _ _ (HSS.out _ HPc.out) (fun hHeldN => ?_)
      clear hK K hHeld
      (try go_frame)
      have hHeld := hHeldN
      clear hHeldN
      (try dsimp only at hHeld)
      refine wpAnyH_ready (rs := [7]) (by kernel_rfl) (by simp) ?_
      refine (AllReadyH.cons (o := { dst := none, op := Go.Op.call { callee := Go.Callee.builtin Go.Builtin.delete, args := #[Go.Operand.tmp 17, Go.Operand.tmp 20], argTypes := #[57, 70] }, type := 0, pos := "net.go:84", after := #[{ on := 3, ground := Go.Ground.data }, { on := 6, ground := Go.Ground.data }, { on := 6, ground := Go.Ground.chain }], guard := none }) rfl (fun K hK => ?g22r3_9_7) AllReadyH.nil)
      case g22r3_9_7 =>
        go_simp
        have hrun := HRun.out
        rw [hrun]
        go_simp
        refine hK.out _ _ ((HU.out.1.cells.2.2)) (fun hHeldN => ?_)
        clear hK K hHeld
        (try go_frame)
        have hHeld := hHeldN
        clear hHeldN
        (try dsimp only at hHeld)
        refine wpAnyH_done (by kernel_rfl) ?_ _
        clear hHeld HSS HRun HPc
        go_wp2_with fail
        go_ret
        exact ⟨by rw [HE.out]; rfl, by rw [HE.out]; exact HU.out.1, HU.out.2⟩
theorem nPart (x y : Int) (w : World) : Calls Try.prog 20 #[.pointer none, .int .i64 x, .int .i64 y] w fun e w' => e = .returned (.int .i64 1) ∧ w' = w := by
  have KF := hide (nFault x y w)
  go_enter Try.func20, Try.ntmps20
  go_wp2_with fail
  refine KF.out.mono ?_
  rintro e w1 ⟨rfl, hw⟩
  obtain rfl := hw.symm
  clear hw
  go_wp2
  go_ret
  exact ⟨rfl, rfl⟩
theorem nJoin (x y : Int) (w : World) : Calls Try.prog 22 #[.pointer none, .int .i64 x, .int .i64 y] w fun e w' => e = .returned (.int .i64 1) ∧ w' = w := by
  have KF := hide (nFault x y w)
  go_enter Try.func22, Try.ntmps22
  go_wp2_with fail
  refine KF.out.mono ?_
  rintro e w1 ⟨rfl, hw⟩
  obtain rfl := hw.symm
  clear hw
  go_wp2
  go_ret
  exact ⟨rfl, rfl⟩
end Go.Proofs.Ytdfioggeiagihaa
