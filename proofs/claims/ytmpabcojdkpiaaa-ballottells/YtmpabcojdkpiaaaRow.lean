/- The law BallotRow, over the contracts. -/
import Derived.Test.YtmpabcojdkpiaaaWorks
import Derived.Test.YtmpabcojdkpiaaaHand
import Derived.Deep.CutBlock
namespace Go.Proofs.Ytmpabcojdkpiaaa
open Go Go.RowKit

theorem eqB (a c : Nat) (b d : Int) (w : World) : Sem.run Try.prog (Op.equalIn 10000 24 (.agg #[.int .u64 (a : Int), .int .i64 b]) (.agg #[.int .u64 (c : Int), .int .i64 d])) w = .ok (same ⟨a, b⟩ ⟨c, d⟩) w := by
  have u3 := Try.underlying3
  have a3 := Try.isAgg3
  have z3 := Try.sizeOf3
  have u4 := Try.underlying22
  have a4 := Try.isAgg22
  have z4 := Try.sizeOf22
  rw [show (10000 : Nat) = 9999 + 1 from rfl, Op.equalIn]
  simp only [Sem.run_bind, run_underlying Try.underlying24, Result.andThen_ok]
  go_simp
  by_cases h1 : a = c
  · subst h1
    by_cases h2 : b = d <;> simp [same, h2]
  · have h1' : ¬ (a : Int) = (c : Int) := by omega
    by_cases h2 : b = d <;> simp [same, h1, h1', h2]
/-- What Next answers, as the laws ask. -/
def Told (a c : Bl) (n : Int) (z : Bl × Nat) : Prop := (∃ e : Nat, z = (noBl, e) ∧ (e = 2 ∨ e = 9)) ∨ ∃ x : Bl, z = (x, 0) ∧ x.n = n ∧ x.Ok ∧ cmpB x a = 1 ∧ 1 ≤ x.r ∧ x.r ≤ a.r + 1 ∧ may x = true ∧ (c.n = n → 1 ≤ c.r → cmpB c a = 1 → 0 ≤ cmpB c x)
theorem next_told (a c : Bl) (n : Int) (hn : I64 n) : Told a c n (next a n) := by
  refine next_cases (q := Told a c n) a n (fun _ => Or.inl ⟨2, rfl, Or.inl rfl⟩) (fun _ _ _ => Or.inl ⟨9, rfl, Or.inr rfl⟩) (fun h1 h2 h3 => Or.inr ⟨least a n, rfl, least_n a n, ⟨by omega, by rw [least_n]; exact hn⟩, (cmpB_one _ _).2 (least_above a n), (least_round a n).1, (least_round a n).2, (may_iff _).2 ⟨by rw [least_n]; exact h2, h3⟩, fun k1 k2 k3 => ?_⟩)
  exact (cmpB_ge _ _).2 (least_least a c n k1 k2 ((cmpB_one _ _).1 k3))
/-- Three ballots in boxes of the call's own. -/
structure Three (w : World) (X Y Z : Nat) (a b c : Bl) (u : World) : Prop where
  x : Box u X #[.int .u64 (a.r : Int), .int .i64 a.n] 24
  y : Box u Y #[.int .u64 (b.r : Int), .int .i64 b.n] 24
  z : Box u Z #[.int .u64 (c.r : Int), .int .i64 c.n] 24
  below : Below w.heap.size w u
theorem Three.new (w : World) (a b c : Bl) : Three w w.heap.size (w.heap.size + 1) (w.heap.size + 1 + 1) a b c (((w.alloc (.cells #[.int .u64 (a.r : Int), .int .i64 a.n] 24)).alloc (.cells #[.int .u64 (b.r : Int), .int .i64 b.n] 24)).alloc (.cells #[.int .u64 (c.r : Int), .int .i64 c.n] 24)) := by
  refine ⟨(Box.new w _ _).below (two_below _ _ _), ?_, ?_, three_below _ _ _ _⟩
  · have h := (Box.new (w.alloc (.cells #[.int .u64 (a.r : Int), .int .i64 a.n] 24)) #[.int .u64 (b.r : Int), .int .i64 b.n] 24).below (one_below _ (.cells #[.int .u64 (c.r : Int), .int .i64 c.n] 24))
    rw [one_size] at h
    exact h
  · have h := Box.new ((w.alloc (.cells #[.int .u64 (a.r : Int), .int .i64 a.n] 24)).alloc (.cells #[.int .u64 (b.r : Int), .int .i64 b.n] 24)) #[.int .u64 (c.r : Int), .int .i64 c.n] 24
    rw [one_size, one_size] at h
    exact h
theorem Three.go {w u v : World} {X Y Z : Nat} {a b c : Bl} (h : Three w X Y Z a b c u) (hb : Below u.heap.size u v) : Three w X Y Z a b c v := ⟨h.x.below hb, h.y.below hb, h.z.below hb, h.below.trans (hb.mono h.below.size)⟩
theorem Three.drew {w u : World} {X Y Z : Nat} {a b c : Bl} (h : Three w X Y Z a b c u) : Three w X Y Z a b c u.drew := ⟨h.x, h.y, h.z, below_drewN h.below 1⟩
set_option maxRecDepth 10000 in
set_option maxHeartbeats 4000000 in
theorem BallotRow_any (C : Con) (a b c : Bl) (n : Int) (w : World) (ha : a.Ok) (hb : b.Ok) (hc : c.Ok) (hn : I64 n) : Calls Try.prog 4 #[.agg #[.int .u64 (a.r : Int), .int .i64 a.n], .agg #[.int .u64 (b.r : Int), .int .i64 b.n], .agg #[.int .u64 (c.r : Int), .int .i64 c.n], .int .i64 n] w fun e v => e = .returned (.bool true) ∧ Below w.heap.size w v := by
  have KW := hide (works_any C)
  have Kab := fun u => hide (C.cmp a b u ha hb)
  have Kba := fun u => hide (C.cmp b a u hb ha)
  have HN := hide (Three.new w a b c)
  have HE : Hid (((cmpB a b == 0) = same a b) ∧ cmpB b a = - cmpB a b ∧ -1 ≤ cmpB a b ∧ cmpB a b ≤ 1) := by
    refine ⟨?_, cmpB_turn b a, (cmpB_i64 a b).1, (cmpB_i64 a b).2⟩
    rw [Bool.eq_iff_iff, beq_iff_eq, same_iff]
    exact cmpB_zero a b
  have HT : Hid (cmpB a b ≤ 0 → cmpB b c ≤ 0 → cmpB a c ≤ 0) := fun h1 h2 => (cmpB_le a c).2 (above_trans ((cmpB_le a b).1 h1) ((cmpB_le b c).1 h2))
  have Kbc := fun u => hide (C.cmp b c u hb hc)
  have Kac := fun u => hide (C.cmp a c u ha hc)
  generalize cmpB b c = kbc at *
  generalize cmpB a c = kac at *
  have HC := hide C
  clear C
  go_enter Try.func4, Try.ntmps4
  go_wp2_with fail
  generalize (((w.alloc (.cells #[.int .u64 (a.r : Int), .int .i64 a.n] 24)).alloc (.cells #[.int .u64 (b.r : Int), .int .i64 b.n] 24)).alloc (.cells #[.int .u64 (c.r : Int), .int .i64 c.n] 24)) = w0 at *
  obtain ⟨ra, na⟩ := a
  obtain ⟨rb, nb⟩ := b
  obtain ⟨rc, nc⟩ := c
  have he := fun u => eqB ra rb na nb u
  generalize same ⟨ra, na⟩ ⟨rb, nb⟩ = E at *
  rw [HE.out.2.1] at Kba
  generalize cmpB ⟨ra, na⟩ ⟨rb, nb⟩ = k at *
  obtain ⟨hE, -, hk1, hk2⟩ := HE.out
  have wk1 : IntKind.i64.wrap (-k) = -k := by rw [IntKind.wrap_i64]; omega
  have wk2 : IntKind.i64.wrap k = k := by rw [IntKind.wrap_i64]; omega
  clear HE
  have HS : Hid (∀ z, Three w w.heap.size (w.heap.size + 1) (w.heap.size + 1 + 1) ⟨ra, na⟩ ⟨rb, nb⟩ ⟨rc, nc⟩ z → ((z.cell? ⟨w.heap.size, 0, none⟩ = some (.int .u64 (ra : Int)) ∧ z.cell? ⟨w.heap.size, 1, none⟩ = some (.int .i64 na)) ∧ (z.cell? ⟨w.heap.size + 1, 0, none⟩ = some (.int .u64 (rb : Int)) ∧ z.cell? ⟨w.heap.size + 1, 1, none⟩ = some (.int .i64 nb)))) := fun z h => ⟨h.x.two, h.y.two⟩
  refine wp_region_held_drew (S := fun z => (z.cell? ⟨w.heap.size, 0, none⟩ = some (.int .u64 (ra : Int)) ∧ z.cell? ⟨w.heap.size, 1, none⟩ = some (.int .i64 na)) ∧ (z.cell? ⟨w.heap.size + 1, 0, none⟩ = some (.int .u64 (rb : Int)) ∧ z.cell? ⟨w.heap.size + 1, 1, none⟩ = some (.int .i64 nb))) (by kernel_rfl) (HS.out _ HN.out.drew) (fun hHeld => ?_)
  (try dsimp only at hHeld)
  refine takeAtQ 0 11 (v := ?v_r1x76_0) rfl rfl (by kernel_rfl) (by kernel_rfl) (by kernel_rfl) (fun _ _ _ h => h) (Or.inl ⟨by rfl, ?hy_r1x76_0⟩) (by assumption) ?rest_r1x76_0
  case hy_r1x76_0 => (intro w hSw; (try dsimp only at hSw); go_simp; first | done | with_reducible rfl)
  simp only [List.setIfInBounds_toArray, List.set_cons_succ, List.set_cons_zero]
  refine takeAtQ 1 12 (v := ?v_r1x76_1) rfl rfl (by kernel_rfl) (by kernel_rfl) (by kernel_rfl) (fun _ _ _ h => h) (Or.inl ⟨by rfl, ?hy_r1x76_1⟩) (by assumption) ?rest_r1x76_1
  case hy_r1x76_1 => (intro w hSw; (try dsimp only at hSw); go_simp; first | done | with_reducible rfl)
  simp only [List.setIfInBounds_toArray, List.set_cons_succ, List.set_cons_zero]
  refine takeAtQ 3 14 (v := ?v_r1x76_3) rfl rfl (by kernel_rfl) (by kernel_rfl) (by kernel_rfl) (fun _ _ _ h => h) (Or.inl ⟨by rfl, ?hy_r1x76_3⟩) (by assumption) ?rest_r1x76_3
  case hy_r1x76_3 => (intro w hSw; (try dsimp only at hSw); go_simp; first | done | with_reducible rfl)
  simp only [List.setIfInBounds_toArray, List.set_cons_succ, List.set_cons_zero]
  refine takeAtQ 4 15 (v := ?v_r1x76_4) rfl rfl (by kernel_rfl) (by kernel_rfl) (by kernel_rfl) (fun _ _ _ h => h) (Or.inl ⟨by rfl, ?hy_r1x76_4⟩) (by assumption) ?rest_r1x76_4
  case hy_r1x76_4 => (intro w hSw; (try dsimp only at hSw); go_simp; first | done | with_reducible rfl)
  simp only [List.setIfInBounds_toArray, List.set_cons_succ, List.set_cons_zero]
  refine wpAnyH_ready (rs := [2]) (by kernel_rfl) (by simp) ?_
  refine AllReadyH.cons (o := { dst := some 13, op := Go.Op.call { callee := Go.Callee.value (Go.Operand.func 11), args := #[Go.Operand.tmp 11, Go.Operand.tmp 12], argTypes := #[24, 24] }, type := 3, pos := "law.go:60", after := #[{ on := 0, ground := Go.Ground.data }, { on := 1, ground := Go.Ground.data }], guard := none }) rfl (fun K hK => ?_) AllReadyH.nil
  go_simp
  refine (Kab _).out.mono ?_
  rintro e z1 ⟨rfl, hb1⟩
  have HN1 := hide (HN.out.drew.go hb1)
  clear hb1
  go_wp2_with fail
  refine hK.out _ _ (HS.out _ HN1.out) (fun hHeldN => ?_)
  clear hK K hHeld
  (try go_frame)
  have hHeld := hHeldN
  clear hHeldN
  (try dsimp only at hHeld)
  refine wpAnyH_ready (rs := [5]) (by kernel_rfl) (by simp) ?_
  refine AllReadyH.cons (o := { dst := some 16, op := Go.Op.call { callee := Go.Callee.value (Go.Operand.func 11), args := #[Go.Operand.tmp 14, Go.Operand.tmp 15], argTypes := #[24, 24] }, type := 3, pos := "law.go:60", after := #[{ on := 3, ground := Go.Ground.data }, { on := 4, ground := Go.Ground.data }, { on := 2, ground := Go.Ground.chain }], guard := none }) rfl (fun K hK => ?_) AllReadyH.nil
  go_simp
  refine (Kba _).out.mono ?_
  rintro e z2 ⟨rfl, hb2⟩
  have HN2 := hide (HN1.out.go hb2)
  clear hb2
  go_wp2_with fail
  refine hK.out _ _ (HS.out _ HN2.out) (fun hHeldN => ?_)
  clear hK K hHeld
  (try go_frame)
  have hHeld := hHeldN
  clear hHeldN
  (try dsimp only at hHeld)
  refine takeAtQ 6 17 (v := ?v_r1x76_6) rfl rfl (by kernel_rfl) (by kernel_rfl) (by kernel_rfl) (fun _ _ _ h => h) (Or.inl ⟨by rfl, ?hy_r1x76_6⟩) (by assumption) ?rest_r1x76_6
  case hy_r1x76_6 => (intro w hSw; (try dsimp only at hSw); go_simp; first | done | with_reducible rfl)
  simp only [List.setIfInBounds_toArray, List.set_cons_succ, List.set_cons_zero]
  refine takeAtQ 7 18 (v := ?v_r1x76_7) rfl rfl (by kernel_rfl) (by kernel_rfl) (by kernel_rfl) (fun _ _ _ h => h) (Or.inl ⟨by rfl, ?hy_r1x76_7⟩) (by assumption) ?rest_r1x76_7
  case hy_r1x76_7 => (intro w hSw; (try dsimp only at hSw); go_simp; first | done | with_reducible rfl)
  simp only [List.setIfInBounds_toArray, List.set_cons_succ, List.set_cons_zero]
  refine takeAtQ 8 19 (v := ?v_r1x76_8) rfl rfl (by kernel_rfl) (by kernel_rfl) (by kernel_rfl) (fun _ _ _ h => h) (Or.inl ⟨by rfl, ?hy_r1x76_8⟩) (by assumption) ?rest_r1x76_8
  case hy_r1x76_8 => (intro w hSw; (try dsimp only at hSw); go_simp; first | done | with_reducible rfl)
  simp only [List.setIfInBounds_toArray, List.set_cons_succ, List.set_cons_zero]
  refine takeAtQ 9 20 (v := ?v_r1x76_9) rfl rfl (by kernel_rfl) (by kernel_rfl) (by kernel_rfl) (fun _ _ _ h => h) (Or.inl ⟨by rfl, ?hy_r1x76_9⟩) (by assumption) ?rest_r1x76_9
  case hy_r1x76_9 => (intro w hSw; (try dsimp only at hSw); go_simp; first | done | with_reducible rfl)
  simp only [List.setIfInBounds_toArray, List.set_cons_succ, List.set_cons_zero]
  refine takeAtQ 10 21 (v := ?v_r1x76_10) rfl rfl (by kernel_rfl) (by kernel_rfl) (by kernel_rfl) (fun _ _ _ h => h) (Or.inl ⟨by rfl, ?hy_r1x76_10⟩) (by assumption) ?rest_r1x76_10
  case hy_r1x76_10 => (intro w hSw; (try dsimp only at hSw); go_simp; first | done | with_reducible rfl)
  simp only [List.setIfInBounds_toArray, List.set_cons_succ, List.set_cons_zero]
  refine takeAtQ 13 24 (v := ?v_r1x76_13) rfl rfl (by kernel_rfl) (by kernel_rfl) (by kernel_rfl) (fun _ _ _ h => h) (Or.inl ⟨by rfl, ?hy_r1x76_13⟩) (by assumption) ?rest_r1x76_13
  case hy_r1x76_13 => (intro w hSw; (try dsimp only at hSw); go_simp; first | done | with_reducible rfl)
  simp only [List.setIfInBounds_toArray, List.set_cons_succ, List.set_cons_zero]
  refine takeAtQ 14 25 (v := ?v_r1x76_14) rfl rfl (by kernel_rfl) (by kernel_rfl) (by kernel_rfl) (fun _ _ _ h => h) (Or.inl ⟨by rfl, ?hy_r1x76_14⟩) (by assumption) ?rest_r1x76_14
  case hy_r1x76_14 => (intro w hSw; (try dsimp only at hSw); go_simp; first | done | with_reducible rfl)
  simp only [List.setIfInBounds_toArray, List.set_cons_succ, List.set_cons_zero]
  refine takeAtQ 15 26 (v := ?v_r1x76_15) rfl rfl (by kernel_rfl) (by kernel_rfl) (by kernel_rfl) (fun _ _ _ h => h) (Or.inl ⟨by rfl, ?hy_r1x76_15⟩) (by assumption) ?rest_r1x76_15
  case hy_r1x76_15 => (intro w hSw; (try dsimp only at hSw); go_simp; first | done | with_reducible rfl)
  simp only [List.setIfInBounds_toArray, List.set_cons_succ, List.set_cons_zero]
  refine wpAnyH_ready (rs := [11]) (by kernel_rfl) (by simp) ?_
  refine AllReadyH.cons (o := { dst := some 22, op := Go.Op.call { callee := Go.Callee.value (Go.Operand.func 11), args := #[Go.Operand.tmp 20, Go.Operand.tmp 21], argTypes := #[24, 24] }, type := 3, pos := "law.go:60", after := #[{ on := 9, ground := Go.Ground.data }, { on := 10, ground := Go.Ground.data }, { on := 8, ground := Go.Ground.chain }, { on := 8, ground := Go.Ground.guard }], guard := some (8, false) }) rfl (fun K hK => ?_) AllReadyH.nil
  go_simp
  refine (Kab _).out.mono ?_
  rintro e z3 ⟨rfl, hb3⟩
  have HN3 := hide (HN2.out.go hb3)
  clear hb3
  go_wp2_with fail
  refine hK.out _ _ (HS.out _ HN3.out) (fun hHeldN => ?_)
  clear hK K hHeld
  (try go_frame)
  have hHeld := hHeldN
  clear hHeldN
  (try dsimp only at hHeld)
  refine takeAtQ 12 23 (v := ?v_r1x76_12) rfl rfl (by kernel_rfl) (by kernel_rfl) (by kernel_rfl) (fun _ _ _ h => h) (Or.inl ⟨by rfl, ?hy_r1x76_12⟩) (by assumption) ?rest_r1x76_12
  case hy_r1x76_12 => (intro w hSw; (try dsimp only at hSw); go_simp; first | done | with_reducible rfl)
  simp only [List.setIfInBounds_toArray, List.set_cons_succ, List.set_cons_zero]
  refine takeAtQ 16 27 (v := ?v_r1x76_16) rfl rfl (by kernel_rfl) (by kernel_rfl) (by kernel_rfl) (fun _ _ _ h => h) (Or.inl ⟨by rfl, ?hy_r1x76_16⟩) (by assumption) ?rest_r1x76_16
  case hy_r1x76_16 => (intro w hSw; (try dsimp only at hSw); go_simp; first | done | with_reducible rfl)
  simp only [List.setIfInBounds_toArray, List.set_cons_succ, List.set_cons_zero]
  refine takeAtQ 17 28 (v := ?v_r1x76_17) rfl rfl (by kernel_rfl) (by kernel_rfl) (by kernel_rfl) (fun _ _ _ h => h) (Or.inl ⟨by rfl, ?hy_r1x76_17⟩) (by assumption) ?rest_r1x76_17
  case hy_r1x76_17 => (intro w hSw; (try dsimp only at hSw); go_simp; first | done | with_reducible rfl)
  simp only [List.setIfInBounds_toArray, List.set_cons_succ, List.set_cons_zero]
  refine wpAnyH_done (by kernel_rfl) ?_ _
  clear hHeld
  have H3 := HN3
  clear HN HN1 HN2 HN3 HS Kba wk1 wk2 he hE hk1 hk2
  obtain ⟨x0, x1⟩ := H3.out.x.two
  obtain ⟨y0, y1⟩ := H3.out.y.two
  go_upto_region 3 with fail
  go_cut [44] from 29 to 43 (fun s u => s = .bool false ∧ Three w w.heap.size (w.heap.size + 1) (w.heap.size + 1 + 1) ⟨ra, na⟩ ⟨rb, nb⟩ ⟨rc, nc⟩ u)
  case first =>
    by_cases h1 : k ≤ 0
    · go_wp2_with fail
      refine (Kab _).out.mono ?_
      rintro e z4 ⟨rfl, hb4⟩
      have H4 := hide (H3.out.go hb4)
      clear hb4 H3 x0 x1 y0 y1
      obtain ⟨y0, y1⟩ := H4.out.y.two
      obtain ⟨z0, z1⟩ := H4.out.z.two
      go_wp2_with fail
      refine (Kbc _).out.mono ?_
      rintro e z5 ⟨rfl, hb5⟩
      have H5 := hide (H4.out.go hb5)
      clear hb5 H4 y0 y1 z0 z1
      by_cases h2 : kbc ≤ 0
      · have h3 := HT.out h1 h2
        obtain ⟨x0, x1⟩ := H5.out.x.two
        obtain ⟨z0, z1⟩ := H5.out.z.two
        go_wp2_with fail
        refine (Kac _).out.mono ?_
        rintro e z6 ⟨rfl, hb6⟩
        have H6 := hide (H5.out.go hb6)
        clear hb6 H5 x0 x1 z0 z1
        go_wp2_with fail
        go_meet
        case rel => exact ⟨by rw [decide_eq_false (by omega)], H6.out⟩
      · go_wp2_with fail
        go_meet
        case rel => exact ⟨rfl, H5.out⟩
    · go_wp2_with fail
      refine (Kab _).out.mono ?_
      rintro e z4 ⟨rfl, hb4⟩
      have H4 := hide (H3.out.go hb4)
      clear hb4 H3 x0 x1 y0 y1
      go_wp2_with fail
      go_meet
      case rel => exact ⟨rfl, H4.out⟩
  obtain ⟨rfl, h⟩ := hcut
  have H7 := hide h
  clear h H3 x0 x1 y0 y1 Kab Kbc Kac HT
  obtain ⟨x0, x1⟩ := H7.out.x.two
  have KN := fun u => hide (HC.out.next ⟨ra, na⟩ n u ha hn)
  rcases next_told ⟨ra, na⟩ ⟨rc, nc⟩ n hn with ⟨e0, he0, he1⟩ | ⟨⟨rx, nx⟩, he0, hxn, hxok, hx1, hx2, -, hx3, hx4⟩
  · have HE : Hid (e0 = 2 ∨ e0 = 9) := he1
    have he2 : ¬ (e0 : Int) = 0 := by omega
    rw [he0] at KN
    clear he0 he1 hn ha hb hc HC
    go_wp2_with fail
    refine (KN _).out.mono ?_
    rintro e z8 ⟨rfl, hb8⟩
    have H8 := hide (H7.out.go hb8)
    clear hb8 H7 KN x0 x1
    have HB := hide (H8.out.below.trans ((one_below z8 (.cells #[.int .u64 0, .int .i64 0] 24)).mono H8.out.below.size))
    go_wp2_with fail
    refine (KW.out _).mono ?_
    rintro e z9 ⟨rfl, hb9⟩
    go_wp2
    go_ret
    exact ⟨rfl, HB.out.trans (hb9.mono HB.out.size)⟩
  · rw [he0] at KN
    have Kxa := fun u => hide (HC.out.cmp ⟨rx, nx⟩ ⟨ra, na⟩ u hxok ha)
    rw [hx1] at Kxa
    have Kmx := fun u => hide (HC.out.may ⟨rx, nx⟩ u hxok)
    rw [hx3] at Kmx
    have Kca := fun u => hide (HC.out.cmp ⟨rc, nc⟩ ⟨ra, na⟩ u hc ha)
    have Kcx := fun u => hide (HC.out.cmp ⟨rc, nc⟩ ⟨rx, nx⟩ u hc hxok)
    generalize cmpB ⟨rc, nc⟩ ⟨ra, na⟩ = kca at *
    generalize cmpB ⟨rc, nc⟩ ⟨rx, nx⟩ = kcx at *
    simp only at hxn hx2 hx4
    subst hxn
    have HQ := hide hx4
    clear he0 hn ha hb hc HC hx1 hx3 hx4 hxok
    go_wp2_with fail
    refine (KN _).out.mono ?_
    rintro e z8 ⟨rfl, hb8⟩
    have H8 := hide (H7.out.go hb8)
    clear hb8 H7 KN x0 x1
    have HX9 := hide (Box.new z8 #[.int .u64 (rx : Int), .int .i64 nx] 24)
    have H9 := hide (H8.out.go (one_below z8 (.cells #[.int .u64 (rx : Int), .int .i64 nx] 24)))
    go_upto_region 8 with fail
    generalize z8.alloc (.cells #[.int .u64 (rx : Int), .int .i64 nx] 24) = w9 at *
    generalize z8.heap.size = X at *
    clear H8
    obtain ⟨x0, x1⟩ := H9.out.x.two
    obtain ⟨q0, q1⟩ := HX9.out.two
    go_wp2_with fail
    refine (Kxa _).out.mono ?_
    rintro e w10 ⟨rfl, hb10⟩
    have H10 := hide (H9.out.go hb10)
    have HX10 := hide (HX9.out.below hb10)
    clear hb10 H9 HX9 Kxa x0 x1 q0 q1
    obtain ⟨q0, q1⟩ := HX10.out.two
    go_wp2_with fail
    refine (Kmx _).out.mono ?_
    rintro e w11 ⟨rfl, hb11⟩
    have H11 := hide (H10.out.go hb11)
    have HX11 := hide (HX10.out.below hb11)
    clear hb11 H10 HX10 Kmx q0 q1
    obtain ⟨q0, q1⟩ := HX11.out.two
    obtain ⟨x0, x1⟩ := H11.out.x.two
    obtain ⟨y0, y1⟩ := H11.out.z.two
    go_upto_region 10 with fail
    have fin : ∀ z, Three w w.heap.size (w.heap.size + 1) (w.heap.size + 1 + 1) ⟨ra, na⟩ ⟨rb, nb⟩ ⟨rc, nc⟩ z → Calls Try.prog 7 #[] z fun e v => e = .returned (.bool true) ∧ Below w.heap.size w v := fun z hz => (KW.out z).mono (fun e v h => ⟨h.1, hz.below.trans (h.2.mono hz.below.size)⟩)
    have HF := hide fin
    clear fin KW
    by_cases g1 : nc = nx
    · subst g1
      by_cases g2 : 1 ≤ rc
      · go_wp2_with fail
        refine (Kca _).out.mono ?_
        rintro e w12 ⟨rfl, hb12⟩
        have H12 := hide (H11.out.go hb12)
        have HX12 := hide (HX11.out.below hb12)
        clear hb12 H11 HX11 q0 q1 x0 x1 y0 y1
        by_cases g3 : kca = 1
        · have g4 := HQ.out (by first | rfl | trivial) g2 g3
          obtain ⟨q0, q1⟩ := HX12.out.two
          obtain ⟨y0, y1⟩ := H12.out.z.two
          go_wp2_with fail
          refine (Kcx _).out.mono ?_
          rintro e w13 ⟨rfl, hb13⟩
          have H13 := hide (H12.out.go hb13)
          clear hb13 H12 HX12 q0 q1 y0 y1
          go_wp2_with fail
          refine (HF.out _ H13.out).mono ?_
          rintro e z9 ⟨rfl, hb9⟩
          go_wp2
          go_ret
          exact ⟨rfl, hb9⟩
        · go_wp2_with fail
          refine (HF.out _ H12.out).mono ?_
          rintro e z9 ⟨rfl, hb9⟩
          go_wp2
          go_ret
          exact ⟨rfl, hb9⟩
      · go_wp2_with fail
        refine (HF.out _ H11.out).mono ?_
        rintro e z9 ⟨rfl, hb9⟩
        go_wp2
        go_ret
        exact ⟨rfl, hb9⟩
    · go_wp2_with fail
      refine (HF.out _ H11.out).mono ?_
      rintro e z9 ⟨rfl, hb9⟩
      go_wp2
      go_ret
      exact ⟨rfl, hb9⟩
end Go.Proofs.Ytmpabcojdkpiaaa
