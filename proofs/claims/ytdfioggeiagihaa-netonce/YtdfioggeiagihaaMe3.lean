/- The program's net: Parted, isReady, fault; Part, Join. -/
import Derived.Test.YtdfioggeiagihaaMe2
import Derived.Test.YtdfioggeiagihaaHand
namespace Go.Proofs.Ytdfioggeiagihaa
open Go Go.RowKit

theorem undMap : Try.prog.underlying 57 = some (.map 70 68) := by rw [Try.underlying57]
theorem zeroUnit (w : World) : (zeroValue 68).run Try.prog w = .ok (.agg #[]) w := by kernel_rfl
/-- What a look-up with 'ok' yields. -/
theorem lookOk_run {w : World} {t k e : TypeId} (K : Go.Maps.Keyed Try.prog k) (ht : Try.prog.underlying t = some (.map k e)) {z : Value} (hz : ∀ w, (zeroValue e).run Try.prog w = .ok z w) {b n : Nat} {f : Lit → Option Value} (h : MAt w k b n f) {key : Value} {kl : Lit} (hkey : keyOf Try.prog k key = some kl) {v : Value} (hv : (f kl).getD z = v) {t' : Bool} (ht' : (f kl).isSome = t') :
    (Instr.lookup t (.map (some b)) key true).run Try.prog w = .ok (.tuple #[v, .bool t']) w := by
  obtain ⟨D, h1, h2⟩ := h
  obtain ⟨v', ps, hrun, hv'⟩ := h1.look_ok K ht (hz w) (zd := .held z) (zp := []) rfl hkey
  have hh := (h2 kl).1
  have e : v' = v := by
    unfold anyElem at hv'
    have e1 : DataW.held v' = D.atKey kl (.held z) := congrArg Prod.fst (Option.some.inj hv')
    cases hf : f kl with
    | some y =>
      rw [(h2 kl).2 y (.held z) hf] at e1
      rw [hf] at hv
      cases e1
      exact hv
    | none =>
      rw [hf] at hh hv
      rw [Maps.atKey_of_not_has hh] at e1
      cases e1
      exact hv
  rw [hrun, e, hh, ht']
theorem min_i64 {x y : Int} (hx : I64 x) (hy : I64 y) : I64 (min x y) := by unfold I64 at *; omega
theorem max_i64 {x y : Int} (hx : I64 x) (hy : I64 y) : I64 (max x y) := by unfold I64 at *; omega
theorem sym_min {m : Nat} {st : Nt} (hok : st.Ok m) (x y : Int) : st.p (min x y) (max x y) = st.p x y := by
  by_cases h : x ≤ y
  · rw [Int.min_eq_left h, Int.max_eq_right h]
  · rw [Int.min_eq_right (by omega), Int.max_eq_left (by omega), hok.sym]
theorem PAt.look {w : World} {p b : Nat} {vL : Value} {st : Nt} {m : Nat} (h : PAt w p b vL st) (hok : st.Ok m) {x y : Int} (hx : I64 x) (hy : I64 y) :
    (Instr.lookup 57 (.map (some b)) (.agg #[.int .i64 (min x y), .int .i64 (max x y)]) true).run Try.prog w = .ok (.tuple #[.agg #[], .bool (st.p x y)]) w := by
  obtain ⟨f, h1, h2⟩ := h.mp
  have hat := h2.at_ _ _ (min_i64 hx hy) (max_i64 hx hy) (by omega)
  rw [sym_min hok] at hat
  refine lookOk_run keyedP undMap zeroUnit h1 (key_P (min_i64 hx hy) (max_i64 hx hy)) ?_ ?_
  · rw [hat]; cases st.p x y <;> rfl
  · rw [hat]; cases st.p x y <;> rfl
theorem below_drew {w u : World} (h : Below w.drew.heap.size w.drew u) : Below w.heap.size w u := ⟨h.os, h.tape, h.output, h.size, h.block⟩
theorem below_past {w u : World} {o : Obj} (h : Below (w.alloc o).drew.heap.size (w.alloc o).drew u) : Below w.heap.size w u := bnext (one_below w o) (below_drew h)
set_option maxRecDepth 10000 in
set_option maxHeartbeats 2000000 in
theorem pParted (p b : Nat) (vL : Value) (st : Nt) (m : Nat) (x y : Int) (w : World) (h : PAt w p b vL st) (hok : st.Ok m) (hx : I64 x) (hy : I64 y) :
    Calls Try.prog 31 #[.pointer (some ⟨p, 0, none⟩), .int .i64 x, .int .i64 y] w fun e w' => e = .returned (.bool (st.p x y)) ∧ Below w.heap.size w w' := by
  obtain ⟨c0, c1, c2⟩ := h.cells
  have KB := fun z => hide (pBetween x y z)
  have H := hide h
  have KL : Hid (∀ u : World, PAt u p b vL st → (Instr.lookup 57 (.map (some b)) (.agg #[.int .i64 (min x y), .int .i64 (max x y)]) true).run Try.prog u = .ok (.tuple #[.agg #[], .bool (st.p x y)]) u) := fun u hu => hu.look hok hx hy
  clear h hok hx hy
  generalize min x y = lo at *
  generalize max x y = hi at *
  generalize st.p x y = t at *
  go_enter Try.func31, Try.ntmps31
  go_wp2_with fail
  have HSS : Hid (∀ z : World, Below w.heap.size w z → (fun z : World => z.cell? ⟨p, 2, none⟩ = some (.map (some b)) ∧ (Instr.lookup 57 (.map (some b)) (.agg #[.int .i64 lo, .int .i64 hi]) true).run Try.prog z = .ok (.tuple #[.agg #[], .bool t]) z ∧ Hid (Below w.heap.size w z)) z) := fun z hz => ⟨(H.out.below hz).cells.2.2, KL.out z (H.out.below hz), hz⟩
  clear c0 c1 c2
  refine wp_region_held_drew (S := fun z : World => z.cell? ⟨p, 2, none⟩ = some (.map (some b)) ∧ (Instr.lookup 57 (.map (some b)) (.agg #[.int .i64 lo, .int .i64 hi]) true).run Try.prog z = .ok (.tuple #[.agg #[], .bool t]) z ∧ Hid (Below w.heap.size w z)) (by kernel_rfl) (HSS.out _ (below_drewN (Below.refl _ w) 1)) (fun hHeld => ?_)
  (try dsimp only at hHeld)
  refine takeAtQ 0 12 (v := ?v_t31r3x1x0) rfl rfl (by kernel_rfl) (by kernel_rfl) (by kernel_rfl) (fun _ _ _ h => h) (Or.inl ⟨by rfl, ?hy_t31r3x1x0⟩) (by assumption) ?rest_t31r3x1x0
  case hy_t31r3x1x0 => (intro w hSw; (try dsimp only at hSw); go_simp; first | done | with_reducible rfl)
  simp only [List.setIfInBounds_toArray, List.set_cons_succ, List.set_cons_zero]
  refine takeAtQ 1 13 (v := ?v_t31r3x2x1) rfl rfl (by kernel_rfl) (by kernel_rfl) (by kernel_rfl) (fun _ _ _ h => h) (Or.inl ⟨by rfl, ?hy_t31r3x2x1⟩) (by assumption) ?rest_t31r3x2x1
  case hy_t31r3x2x1 => (intro w hSw; (try dsimp only at hSw); go_simp; first | done | with_reducible rfl)
  simp only [List.setIfInBounds_toArray, List.set_cons_succ, List.set_cons_zero]
  refine takeAtQ 2 14 (v := ?v_t31r3x3x2) rfl rfl (by kernel_rfl) (by kernel_rfl) (by kernel_rfl) (fun _ _ _ h => h) (Or.inl ⟨by rfl, ?hy_t31r3x3x2⟩) (by assumption) ?rest_t31r3x3x2
  case hy_t31r3x3x2 => (intro w hSw; (try dsimp only at hSw); go_simp; first | done | with_reducible rfl)
  simp only [List.setIfInBounds_toArray, List.set_cons_succ, List.set_cons_zero]
  refine takeAtQ 3 15 (v := ?v_t31r3x4x3) rfl rfl (by kernel_rfl) (by kernel_rfl) (by kernel_rfl) (fun _ _ _ h => h) (Or.inl ⟨by rfl, ?hy_t31r3x4x3⟩) (by assumption) ?rest_t31r3x4x3
  case hy_t31r3x4x3 => (intro w hSw; (try dsimp only at hSw); go_simp; first | done | with_reducible rfl)
  simp only [List.setIfInBounds_toArray, List.set_cons_succ, List.set_cons_zero]
  refine takeAtQ 4 16 (v := ?v_t31r3x5x4) rfl rfl (by kernel_rfl) (by kernel_rfl) (by kernel_rfl) (fun _ _ _ h => h) (Or.inl ⟨by rfl, ?hy_t31r3x5x4⟩) (by assumption) ?rest_t31r3x5x4
  case hy_t31r3x5x4 => (intro w hSw; (try dsimp only at hSw); go_simp; first | done | with_reducible rfl)
  simp only [List.setIfInBounds_toArray, List.set_cons_succ, List.set_cons_zero]
  refine takeAtQ 5 17 (v := ?v_t31r3x6x5) rfl rfl (by kernel_rfl) (by kernel_rfl) (by kernel_rfl) (fun _ _ _ h => h) (Or.inl ⟨by rfl, ?hy_t31r3x6x5⟩) (by assumption) ?rest_t31r3x6x5
  case hy_t31r3x6x5 => (intro w hSw; (try dsimp only at hSw); go_simp; first | done | with_reducible rfl)
  simp only [List.setIfInBounds_toArray, List.set_cons_succ, List.set_cons_zero]
  refine wpAnyH_ready (rs := [6, 11]) (by kernel_rfl) (by simp) ?_
  refine (AllReadyH.cons (o := { dst := some 18, op := Go.Op.call { callee := Go.Callee.value (Go.Operand.func 44), args := #[Go.Operand.tmp 16, Go.Operand.tmp 17], argTypes := #[3, 3] }, type := 70, pos := "net.go:94", after := #[{ on := 4, ground := Go.Ground.data }, { on := 5, ground := Go.Ground.data }], guard := none }) rfl (fun K hK => ?g31r3_7_6) (AllReadyH.cons (o := { dst := some 7, op := Go.Op.alloc 68, type := 0, pos := "net.go:94", after := #[], guard := none }) rfl (fun K hK => ?g31r3_7_11) AllReadyH.nil))
  case g31r3_7_6 =>
    go_simp
    refine (KB _).out.mono ?_
    rintro e z8 ⟨rfl, hb8⟩
    have HB8 := hide (bnext hHeld.2.2.out hb8)
    clear hb8
    go_wp2_with fail
    refine hK.out _ _ (HSS.out _ HB8.out) (fun hHeldN => ?_)
    clear hK K hHeld
    (try go_frame)
    have hHeld := hHeldN
    clear hHeldN
    (try dsimp only at hHeld)
    refine takeAtQ 7 19 (v := ?v_t31r3x9x7) rfl rfl (by kernel_rfl) (by kernel_rfl) (by kernel_rfl) (fun _ _ _ h => h) (Or.inl ⟨by rfl, ?hy_t31r3x9x7⟩) (by assumption) ?rest_t31r3x9x7
    case hy_t31r3x9x7 => (intro w hSw; (try dsimp only at hSw); go_simp; first | done | with_reducible rfl)
    simp only [List.setIfInBounds_toArray, List.set_cons_succ, List.set_cons_zero]
    refine takeAtQ 8 11 (v := ?v_t31r3x10x8) rfl rfl (by kernel_rfl) (by kernel_rfl) (by kernel_rfl) (fun _ _ _ h => h) (Or.inl ⟨by rfl, ?hy_t31r3x10x8⟩) (by assumption) ?rest_t31r3x10x8
    case hy_t31r3x10x8 => (intro w hSw; (try dsimp only at hSw); go_simp; first | done | with_reducible rfl)
    simp only [List.setIfInBounds_toArray, List.set_cons_succ, List.set_cons_zero]
    refine takeAtQ 9 20 (v := ?v_t31r3x11x9) rfl rfl (by kernel_rfl) (by kernel_rfl) (by kernel_rfl) (fun _ _ _ h => h) (Or.inl ⟨by rfl, ?hy_t31r3x11x9⟩) (by assumption) ?rest_t31r3x11x9
    case hy_t31r3x11x9 => (intro w hSw; (try dsimp only at hSw); go_simp; first | done | with_reducible rfl)
    simp only [List.setIfInBounds_toArray, List.set_cons_succ, List.set_cons_zero]
    refine takeAtQ 10 21 (v := ?v_t31r3x12x10) rfl rfl (by kernel_rfl) (by kernel_rfl) (by kernel_rfl) (fun _ _ _ h => h) (Or.inl ⟨by rfl, ?hy_t31r3x12x10⟩) (by assumption) ?rest_t31r3x12x10
    case hy_t31r3x12x10 => (intro w hSw; (try dsimp only at hSw); go_simp; first | done | with_reducible rfl)
    simp only [List.setIfInBounds_toArray, List.set_cons_succ, List.set_cons_zero]
    refine wpAnyH_ready (rs := [11]) (by kernel_rfl) (by simp) ?_
    refine (AllReadyH.cons (o := { dst := some 7, op := Go.Op.alloc 68, type := 0, pos := "net.go:94", after := #[], guard := none }) rfl (fun K hK => ?g31r3_13_11) AllReadyH.nil)
    case g31r3_13_11 =>
      go_simp
      refine hK.out _ _ (HSS.out _ (hHeld.2.2.out.alloc hHeld.2.2.out.size _)) (fun hHeldN => ?_)
      clear hK K hHeld
      (try go_frame)
      have hHeld := hHeldN
      clear hHeldN
      (try dsimp only at hHeld)
      refine wpAnyH_ready (rs := [12]) (by kernel_rfl) (by simp) ?_
      refine (AllReadyH.cons (o := { dst := none, op := Go.Op.store 68 (Go.Operand.tmp 7) (Go.Operand.tmp 20), type := 0, pos := "net.go:94", after := #[{ on := 11, ground := Go.Ground.data }, { on := 9, ground := Go.Ground.data }, { on := 6, ground := Go.Ground.chain }, { on := 0, ground := Go.Ground.phase }, { on := 1, ground := Go.Ground.phase }, { on := 2, ground := Go.Ground.phase }, { on := 3, ground := Go.Ground.phase }, { on := 4, ground := Go.Ground.phase }, { on := 5, ground := Go.Ground.phase }, { on := 6, ground := Go.Ground.phase }, { on := 7, ground := Go.Ground.phase }, { on := 8, ground := Go.Ground.phase }, { on := 9, ground := Go.Ground.phase }, { on := 10, ground := Go.Ground.textOnly Go.Departure.lateStores }, { on := 11, ground := Go.Ground.phase }], guard := none }) rfl (fun K hK => ?g31r3_15_12) AllReadyH.nil)
      case g31r3_15_12 =>
        go_simp
        refine hK.out _ _ (HSS.out _ hHeld.2.2.out) (fun hHeldN => ?_)
        clear hK K hHeld
        (try go_frame)
        have hHeld := hHeldN
        clear hHeldN
        (try dsimp only at hHeld)
        refine takeAtQ 13 8 (v := ?v_t31r3x17x13) rfl rfl (by kernel_rfl) (by kernel_rfl) (by kernel_rfl) (fun _ _ _ h => h) (Or.inl ⟨by rfl, ?hy_t31r3x17x13⟩) (by assumption) ?rest_t31r3x17x13
        case hy_t31r3x17x13 => (intro w hSw; (try dsimp only at hSw); go_simp; first | done | with_reducible rfl)
        simp only [List.setIfInBounds_toArray, List.set_cons_succ, List.set_cons_zero]
        refine wpAnyH_done (by kernel_rfl) ?_ _
        have HE := hHeld.2.2
        clear hHeld HSS KL
        go_wp2_with fail
        go_ret
        exact ⟨rfl, HE.out⟩
  case g31r3_7_11 =>
    go_simp
    refine hK.out _ _ (HSS.out _ (hHeld.2.2.out.alloc hHeld.2.2.out.size _)) (fun hHeldN => ?_)
    clear hK K hHeld
    (try go_frame)
    have hHeld := hHeldN
    clear hHeldN
    (try dsimp only at hHeld)
    refine wpAnyH_ready (rs := [6]) (by kernel_rfl) (by simp) ?_
    refine (AllReadyH.cons (o := { dst := some 18, op := Go.Op.call { callee := Go.Callee.value (Go.Operand.func 44), args := #[Go.Operand.tmp 16, Go.Operand.tmp 17], argTypes := #[3, 3] }, type := 70, pos := "net.go:94", after := #[{ on := 4, ground := Go.Ground.data }, { on := 5, ground := Go.Ground.data }], guard := none }) rfl (fun K hK => ?g31r3_19_6) AllReadyH.nil)
    case g31r3_19_6 =>
      go_simp
      refine (KB _).out.mono ?_
      rintro e z20 ⟨rfl, hb20⟩
      have HB20 := hide (bnext hHeld.2.2.out hb20)
      clear hb20
      go_wp2_with fail
      refine hK.out _ _ (HSS.out _ HB20.out) (fun hHeldN => ?_)
      clear hK K hHeld
      (try go_frame)
      have hHeld := hHeldN
      clear hHeldN
      (try dsimp only at hHeld)
      refine takeAtQ 7 19 (v := ?v_t31r3x21x7) rfl rfl (by kernel_rfl) (by kernel_rfl) (by kernel_rfl) (fun _ _ _ h => h) (Or.inl ⟨by rfl, ?hy_t31r3x21x7⟩) (by assumption) ?rest_t31r3x21x7
      case hy_t31r3x21x7 => (intro w hSw; (try dsimp only at hSw); go_simp; first | done | with_reducible rfl)
      simp only [List.setIfInBounds_toArray, List.set_cons_succ, List.set_cons_zero]
      refine takeAtQ 8 11 (v := ?v_t31r3x22x8) rfl rfl (by kernel_rfl) (by kernel_rfl) (by kernel_rfl) (fun _ _ _ h => h) (Or.inl ⟨by rfl, ?hy_t31r3x22x8⟩) (by assumption) ?rest_t31r3x22x8
      case hy_t31r3x22x8 => (intro w hSw; (try dsimp only at hSw); go_simp; first | done | with_reducible rfl)
      simp only [List.setIfInBounds_toArray, List.set_cons_succ, List.set_cons_zero]
      refine takeAtQ 9 20 (v := ?v_t31r3x23x9) rfl rfl (by kernel_rfl) (by kernel_rfl) (by kernel_rfl) (fun _ _ _ h => h) (Or.inl ⟨by rfl, ?hy_t31r3x23x9⟩) (by assumption) ?rest_t31r3x23x9
      case hy_t31r3x23x9 => (intro w hSw; (try dsimp only at hSw); go_simp; first | done | with_reducible rfl)
      simp only [List.setIfInBounds_toArray, List.set_cons_succ, List.set_cons_zero]
      refine takeAtQ 10 21 (v := ?v_t31r3x24x10) rfl rfl (by kernel_rfl) (by kernel_rfl) (by kernel_rfl) (fun _ _ _ h => h) (Or.inl ⟨by rfl, ?hy_t31r3x24x10⟩) (by assumption) ?rest_t31r3x24x10
      case hy_t31r3x24x10 => (intro w hSw; (try dsimp only at hSw); go_simp; first | done | with_reducible rfl)
      simp only [List.setIfInBounds_toArray, List.set_cons_succ, List.set_cons_zero]
      refine wpAnyH_ready (rs := [12]) (by kernel_rfl) (by simp) ?_
      refine (AllReadyH.cons (o := { dst := none, op := Go.Op.store 68 (Go.Operand.tmp 7) (Go.Operand.tmp 20), type := 0, pos := "net.go:94", after := #[{ on := 11, ground := Go.Ground.data }, { on := 9, ground := Go.Ground.data }, { on := 6, ground := Go.Ground.chain }, { on := 0, ground := Go.Ground.phase }, { on := 1, ground := Go.Ground.phase }, { on := 2, ground := Go.Ground.phase }, { on := 3, ground := Go.Ground.phase }, { on := 4, ground := Go.Ground.phase }, { on := 5, ground := Go.Ground.phase }, { on := 6, ground := Go.Ground.phase }, { on := 7, ground := Go.Ground.phase }, { on := 8, ground := Go.Ground.phase }, { on := 9, ground := Go.Ground.phase }, { on := 10, ground := Go.Ground.textOnly Go.Departure.lateStores }, { on := 11, ground := Go.Ground.phase }], guard := none }) rfl (fun K hK => ?g31r3_25_12) AllReadyH.nil)
      case g31r3_25_12 =>
        go_simp
        refine hK.out _ _ (HSS.out _ hHeld.2.2.out) (fun hHeldN => ?_)
        clear hK K hHeld
        (try go_frame)
        have hHeld := hHeldN
        clear hHeldN
        (try dsimp only at hHeld)
        refine takeAtQ 13 8 (v := ?v_t31r3x27x13) rfl rfl (by kernel_rfl) (by kernel_rfl) (by kernel_rfl) (fun _ _ _ h => h) (Or.inl ⟨by rfl, ?hy_t31r3x27x13⟩) (by assumption) ?rest_t31r3x27x13
        case hy_t31r3x27x13 => (intro w hSw; (try dsimp only at hSw); go_simp; first | done | with_reducible rfl)
        simp only [List.setIfInBounds_toArray, List.set_cons_succ, List.set_cons_zero]
        refine wpAnyH_done (by kernel_rfl) ?_ _
        have HE := hHeld.2.2
        clear hHeld HSS KL
        go_wp2_with fail
        go_ret
        exact ⟨rfl, HE.out⟩
theorem nParted (x y : Int) (w : World) : Calls Try.prog 31 #[.pointer none, .int .i64 x, .int .i64 y] w fun e w' => e = .returned (.bool false) ∧ w' = w := by
  go_enter Try.func31, Try.ntmps31
  go_wp2
  go_ret
  exact ⟨rfl, rfl⟩
theorem pIsReady (p b : Nat) (vL : Value) (st : Nt) (m : Nat) (x : Lt) (w : World) (h : PAt w p b vL st) (hok : st.Ok m) (hx : x ∈ st.l) :
    Calls Try.prog 39 #[.pointer (some ⟨p, 0, none⟩), x.val] w fun e w' => e = .returned (.bool (!st.p x.a x.b)) ∧ Below w.heap.size w w' := by
  have hxa := i64_of (hok.ends x hx).1
  have hxb := i64_of (hok.ends x hx).2
  obtain ⟨xi, xa, xb, xs, xg⟩ := x
  show Calls Try.prog 39 #[.pointer (some ⟨p, 0, none⟩), .agg #[.int .u64 (xi : Int), .int .i64 xa, .int .i64 xb, .string xs, .int .i64 (xg : Int)]] w fun e w' => e = .returned (.bool (!st.p xa xb)) ∧ Below w.heap.size w w'
  have HX := hide (Box.new w #[.int .u64 (xi : Int), .int .i64 xa, .int .i64 xb, .string xs, .int .i64 (xg : Int)] 41)
  have HB := hide (one_below w (.cells #[.int .u64 (xi : Int), .int .i64 xa, .int .i64 xb, .string xs, .int .i64 (xg : Int)] 41))
  have KP := hide (pParted p b vL st m xa xb _ (h.below HB.out) hok hxa hxb)
  clear h hok hx hxa hxb
  go_enter Try.func39, Try.ntmps39
  go_upto_region 1 with fail
  generalize w.alloc (.cells #[.int .u64 (xi : Int), .int .i64 xa, .int .i64 xb, .string xs, .int .i64 (xg : Int)] 41) = w1 at *
  generalize hB : w.heap.size = B at *
  have HBe := hide hB
  clear hB
  obtain ⟨c0, c1, c2, c3, c4⟩ := HX.out.five
  go_wp2_with fail
  refine KP.out.mono ?_
  rintro e w2 ⟨rfl, hb⟩
  have HB2 : Hid (Below B w w2) := HB.out.trans (hb.mono (by have := HX.out.lt; omega))
  clear hb KP
  go_wp2
  go_ret
  exact ⟨rfl, by rw [HBe.out]; exact HB2.out⟩
/-- Why two are not parted. -/
def faultN (a b : Int) : Nat := if (adr a && adr b && !decide (a = b)) = false then 2 else 0
theorem pFault (p b : Nat) (vL : Value) (st : Nt) (x y : Int) (w : World) (h : PAt w p b vL st) : Calls Try.prog 43 #[.pointer (some ⟨p, 0, none⟩), .int .i64 x, .int .i64 y] w fun e w' => e = .returned (.int .i64 (faultN x y : Int)) ∧ w' = w := by
  have KM := hide (pMade p b vL st w h)
  have KA := hide (pAddr x w)
  have KB := hide (pAddr y w)
  clear h
  have HF : Hid (∀ s t u : Bool, adr x = s → adr y = t → decide (x = y) = u → faultN x y = if (s && t && !u) = false then 2 else 0) := fun s t u h1 h2 h3 => by
    subst h1; subst h2; subst h3; rfl
  cases hx : adr x with
  | false =>
    have HE := hide (HF.out _ _ _ hx rfl rfl)
    rw [hx] at KA
    clear hx HF
    go_enter Try.func43, Try.ntmps43
    go_wp2_with fail
    refine KM.out.mono ?_
    rintro e w1 ⟨rfl, hw⟩
    obtain rfl := hw.symm
    clear hw
    go_wp2_with fail
    refine KA.out.mono ?_
    rintro e w1 ⟨rfl, hw⟩
    obtain rfl := hw.symm
    clear hw
    go_wp2
    go_ret
    exact ⟨by rw [HE.out]; rfl, rfl⟩
  | true =>
    cases hy : adr y with
    | false =>
      have HE := hide (HF.out _ _ _ hx hy rfl)
      rw [hx] at KA
      rw [hy] at KB
      clear hx hy HF
      go_enter Try.func43, Try.ntmps43
      go_wp2_with fail
      refine KM.out.mono ?_
      rintro e w1 ⟨rfl, hw⟩
      obtain rfl := hw.symm
      clear hw
      go_wp2_with fail
      refine KA.out.mono ?_
      rintro e w1 ⟨rfl, hw⟩
      obtain rfl := hw.symm
      clear hw
      go_wp2_with fail
      refine KB.out.mono ?_
      rintro e w1 ⟨rfl, hw⟩
      obtain rfl := hw.symm
      clear hw
      go_wp2
      go_ret
      exact ⟨by rw [HE.out]; rfl, rfl⟩
    | true =>
      cases hz : decide (x = y) with
      | true =>
        have HE := hide (HF.out _ _ _ hx hy hz)
        rw [hx] at KA
        rw [hy] at KB
        have hq : (x == y) = true := by simpa using hz
        clear hx hy hz HF
        go_enter Try.func43, Try.ntmps43
        go_wp2_with fail
        refine KM.out.mono ?_
        rintro e w1 ⟨rfl, hw⟩
        obtain rfl := hw.symm
        clear hw
        go_wp2_with fail
        refine KA.out.mono ?_
        rintro e w1 ⟨rfl, hw⟩
        obtain rfl := hw.symm
        clear hw
        go_wp2_with fail
        refine KB.out.mono ?_
        rintro e w1 ⟨rfl, hw⟩
        obtain rfl := hw.symm
        clear hw
        go_wp2
        go_ret
        exact ⟨by rw [HE.out]; rfl, rfl⟩
      | false =>
        have HE := hide (HF.out _ _ _ hx hy hz)
        rw [hx] at KA
        rw [hy] at KB
        have hq : (x == y) = false := by simpa using hz
        clear hx hy hz HF
        go_enter Try.func43, Try.ntmps43
        go_wp2_with fail
        refine KM.out.mono ?_
        rintro e w1 ⟨rfl, hw⟩
        obtain rfl := hw.symm
        clear hw
        go_wp2_with fail
        refine KA.out.mono ?_
        rintro e w1 ⟨rfl, hw⟩
        obtain rfl := hw.symm
        clear hw
        go_wp2_with fail
        refine KB.out.mono ?_
        rintro e w1 ⟨rfl, hw⟩
        obtain rfl := hw.symm
        clear hw
        go_wp2
        go_ret
        exact ⟨by rw [HE.out]; rfl, rfl⟩
theorem nFault (x y : Int) (w : World) : Calls Try.prog 43 #[.pointer none, .int .i64 x, .int .i64 y] w fun e w' => e = .returned (.int .i64 1) ∧ w' = w := by
  have KM := hide (nMade w)
  go_enter Try.func43, Try.ntmps43
  go_wp2_with fail
  refine KM.out.mono ?_
  rintro e w1 ⟨rfl, hw⟩
  obtain rfl := hw.symm
  clear hw
  go_wp2
  go_ret
  exact ⟨rfl, rfl⟩
end Go.Proofs.Ytdfioggeiagihaa
