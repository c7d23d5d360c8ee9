/- The law BallotChain, over the contracts. -/
import Derived.Test.YtmpabcojdkpiaaaKeyB
import Derived.Test.YtmpabcojdkpiaaaRow
namespace Go.Proofs.Ytmpabcojdkpiaaa
open Go Go.RowKit

/-- The law's own memory: the ballot in its box, and those that were there, in a map. -/
structure Ch (W : World) (B M : Nat) (b : Bl) (n : Nat) (f : Lit → Option Value) (u : World) : Prop where
  bx : Box u B #[.int .u64 (b.r : Int), .int .i64 b.n] 24
  mp : MAt u 24 M n f
  ne : B ≠ M
  oldB : W.heap.size ≤ B
  oldM : W.heap.size ≤ M
  below : Below W.heap.size W u
theorem Ch.go {W : World} {B M : Nat} {b : Bl} {n : Nat} {f : Lit → Option Value} {u v : World} (h : Ch W B M b n f u) (hb : Below u.heap.size u v) : Ch W B M b n f v := ⟨h.bx.below hb, h.mp.below hb, h.ne, h.oldB, h.oldM, h.below.trans (hb.mono h.below.size)⟩
theorem Ch.drew {W : World} {B M : Nat} {b : Bl} {n : Nat} {f : Lit → Option Value} {u : World} (h : Ch W B M b n f u) : Ch W B M b n f u.drew := ⟨h.bx, h.mp, h.ne, h.oldB, h.oldM, below_drewN h.below 1⟩
/-- A struct stored beside. -/
theorem Ch.beside {W : World} {B M : Nat} {b : Bl} {n : Nat} {f : Lit → Option Value} {u : World} (h : Ch W B M b n f u) {X : Nat} (hB : B ≠ X) (hM : M ≠ X) (hW : W.heap.size ≤ X) (x y : Value) : Ch W B M b n f (put2 u X x y) :=
  ⟨put2_other h.bx x y hB, h.mp.same ((Below.heap_setCell _ _ _ M hM).trans (Below.heap_setCell _ _ _ M hM)), h.ne, h.oldB, h.oldM, put2_below h.below hW x y⟩
/-- None of those that were there is above b. -/
def Seen (f : Lit → Option Value) (b : Bl) : Prop := ∀ y : Bl, y.Ok → f (kB y) ≠ none → above y b = false
theorem Seen.fresh {f : Lit → Option Value} {b x : Bl} (h : Seen f b) (hx : x.Ok) (ha : above x b = true) : f (kB x) = none := by
  cases hf : f (kB x) with
  | none => rfl
  | some v =>
    have := h x hx (by rw [hf]; simp)
    rw [ha] at this
    cases this
theorem above_self (b : Bl) : above b b = false := by rw [above_not]; omega
theorem Seen.put {f : Lit → Option Value} {b x : Bl} (h : Seen f b) (hx : x.Ok) (ha : above x b = true) (v : Value) : Seen (putF f (kB x) v) x := fun y hy hf => by
  unfold putF at hf
  split at hf
  · rename_i hs
    have := kB_inj hy hx (WideAt.sameKey_eq hs)
    subst this
    exact above_self y
  · have h1 := h y hy hf
    rw [above_not] at h1 ⊢
    rw [above_iff] at ha
    omega
/-- Behind 'seen[x]++'. -/
theorem Ch.turned {W : World} {B M : Nat} {b : Bl} {n n' : Nat} {f f' : Lit → Option Value} {u v : World} (h : Ch W B M b n f u) (ht : u.mapTurned v M) (hm : MAt v 24 M n' f') : Ch W B M b n' f' v :=
  ⟨h.bx.same (ht.grown.block B h.bx.lt (by intro e; exact h.ne (Option.some.inj e))), hm, h.ne, h.oldB, h.oldM, h.below.grown ht.grown h.below.size (by intro k hk; cases hk; exact h.oldM)⟩
/-- Behind 'b = x'. -/
theorem Ch.turnB {W : World} {B M : Nat} {b x : Bl} {n : Nat} {f : Lit → Option Value} {u : World} (h : Ch W B M b n f u) : Ch W B M x n f (put2 u B (.int .u64 (x.r : Int)) (.int .i64 x.n)) :=
  ⟨h.bx.put2 _ _, h.mp.same ((Below.heap_setCell _ _ _ M h.ne.symm).trans (Below.heap_setCell _ _ _ M h.ne.symm)), h.ne, h.oldB, h.oldM, put2_below h.below h.oldB _ _⟩
theorem zero_int (w : World) : (zeroValue 3).run Try.prog w = .ok (.int .i64 0) w := by kernel_rfl
set_option maxRecDepth 10000 in
set_option maxHeartbeats 4000000 in
theorem BallotChain_any (C : Con) (b0 : Bl) (a : Option Addr) (c : Nat) (l : List Int) (w : World) (hb : b0.Ok) (ha : IntsAt w a l) (_hn : a = none → c = 0) (hl : ∀ x ∈ l, I64 x) (hll : l.length ≤ 140737488351232) :
    Calls Try.prog 6 #[.agg #[.int .u64 (b0.r : Int), .int .i64 b0.n], .slice a l.length c] w fun e v => e = .returned (.bool true) ∧ Below w.heap.size w v := by
  have KW := hide (works_any C)
  have HA := hide ha
  have HL := hide hl
  have HC := hide C
  have HB0 := hide hb
  clear ha hl hb C
  go_enter Try.func6, Try.ntmps6
  by_cases g1 : l.length ≤ 200
  · have HS : Hid (Ch w w.heap.size (w.heap.size + 1) b0 0 (fun _ => none) ((w.alloc (.cells #[.int .u64 (b0.r : Int), .int .i64 b0.n] 24)).alloc (.map #[] 0))) := by
      refine ⟨(Box.new _ _ _).below (one_below _ _), ?_, by omega, Nat.le_refl _, Nat.le_succ _, two_below _ _ _⟩
      have := MAt.made (w.alloc (.cells #[.int .u64 (b0.r : Int), .int .i64 b0.n] 24)) 24
      rw [one_size] at this
      exact this
    have hmm := @run_makeMap Try.prog
    go_wp2_with fail
    clear hmm
    generalize (w.alloc (.cells #[.int .u64 (b0.r : Int), .int .i64 b0.n] 24)).alloc (.map #[] 0) = w0 at *
    generalize w.heap.size + 1 = M at *
    have HW : Hid (∃ B, B = w.heap.size) := ⟨_, rfl⟩
    obtain ⟨B, hB⟩ := HW.out
    have HBs := hide hB
    rw [← hB] at HS
    simp only [← hB]
    clear hB HW
    go_loopw [6, 7, 8] (fun i _ _ u => ∃ (k n : Nat) (b : Bl) (f : Lit → Option Value), k ≤ l.length ∧ i = .int .i64 (k : Int) ∧ Ch w B M b n f u ∧ b.Ok ∧ n ≤ k ∧ Seen f b) (fun i _ _ _ => l.length - (intOf i).toNat)
    case atStart => exact ⟨0, 0, b0, fun _ => none, Nat.zero_le _, rfl, HS.out, HB0.out, Nat.le_refl _, fun y _ h => absurd rfl h⟩
    case round =>
      obtain ⟨k, n, b, f, hk, rfl, hch, hbo, hnk, hseen⟩ := hrel
      have HCh := hide hch
      have HSn := hide (And.intro hbo hseen)
      clear hch hseen
      by_cases hlt : k < l.length
      · have hlI := hide (HL.out _ (List.getElem_mem hlt))
        obtain ⟨ba, off, e1, q1⟩ := (HA.out.old HCh.out.below).there (by omega)
        subst e1
        clear q1
        obtain ⟨r, m⟩ := b
        have HSS : Hid (∀ z, Ch w B M ⟨r, m⟩ n f z → z.cell? ⟨B, 0, none⟩ = some (.int .u64 (r : Int)) ∧ z.cell? ⟨B, 1, none⟩ = some (.int .i64 m) ∧ z.cell? ⟨ba, off + k, none⟩ = some (.int .i64 l[k]) ∧ Hid (Ch w B M ⟨r, m⟩ n f z)) := fun z h => ⟨h.bx.two.1, h.bx.two.2, (HA.out.old h.below).get hlt, hide h⟩
        have HTd := hide (next_told ⟨r, m⟩ ⟨r, m⟩ l[k] hlI.out)
        have KN := fun z => hide (HC.out.next ⟨r, m⟩ l[k] z HSn.out.1 hlI.out)
        obtain ⟨V, hV⟩ : ∃ V, l[k] = V := ⟨_, rfl⟩
        rw [hV] at HSS HTd hlI
        simp only [hV] at KN
        have HVk := hide hV
        clear hV
        generalize next ⟨r, m⟩ V = N at *
        obtain ⟨⟨rx, nx⟩, e0⟩ := N
        simp only at KN
        clear hbo
        go_upto_region 7 with fail
        go_cut [7, 8] from 20 to 28 (fun xp e u => ∃ X : Nat, xp = .pointer (some ⟨X, 0, none⟩) ∧ e = .int .i64 (e0 : Int) ∧ Box u X #[.int .u64 (rx : Int), .int .i64 nx] 24 ∧ Ch w B M ⟨r, m⟩ n f u ∧ B ≠ X ∧ M ≠ X ∧ w.heap.size ≤ X)
        case first =>
          refine wp_region_held_drew (S := fun z : World => z.cell? ⟨B, 0, none⟩ = some (.int .u64 (r : Int)) ∧ z.cell? ⟨B, 1, none⟩ = some (.int .i64 m) ∧ z.cell? ⟨ba, off + k, none⟩ = some (.int .i64 V) ∧ Hid (Ch w B M ⟨r, m⟩ n f z)) (by kernel_rfl) (HSS.out _ HCh.out.drew) (fun hHeld => ?_)
          (try dsimp only at hHeld)
          refine takeAtQ 0 21 (v := ?v_t6r7x1x0) rfl rfl (by kernel_rfl) (by kernel_rfl) (by kernel_rfl) (fun _ _ _ h => h) (Or.inl ⟨by rfl, ?hy_t6r7x1x0⟩) (by assumption) ?rest_t6r7x1x0
          case hy_t6r7x1x0 => (intro w hSw; (try dsimp only at hSw); go_simp; first | done | with_reducible rfl)
          simp only [List.setIfInBounds_toArray, List.set_cons_succ, List.set_cons_zero]
          refine takeAtQ 1 22 (v := ?v_t6r7x2x1) rfl rfl (by kernel_rfl) (by kernel_rfl) (by kernel_rfl) (fun _ _ _ h => h) (Or.inl ⟨by rfl, ?hy_t6r7x2x1⟩) (by assumption) ?rest_t6r7x2x1
          case hy_t6r7x2x1 => (intro w hSw; (try dsimp only at hSw); go_simp; first | done | with_reducible rfl)
          simp only [List.setIfInBounds_toArray, List.set_cons_succ, List.set_cons_zero]
          refine takeAtQ 2 23 (v := ?v_t6r7x3x2) rfl rfl (by kernel_rfl) (by kernel_rfl) (by kernel_rfl) (fun _ _ _ h => h) (Or.inl ⟨by rfl, ?hy_t6r7x3x2⟩) (by assumption) ?rest_t6r7x3x2
          case hy_t6r7x3x2 => (intro w hSw; (try dsimp only at hSw); go_simp; first | done | with_reducible rfl)
          simp only [List.setIfInBounds_toArray, List.set_cons_succ, List.set_cons_zero]
          refine takeAtQ 3 24 (v := ?v_t6r7x4x3) rfl rfl (by kernel_rfl) (by kernel_rfl) (by kernel_rfl) (fun _ _ _ h => h) (Or.inl ⟨by rfl, ?hy_t6r7x4x3⟩) (by assumption) ?rest_t6r7x4x3
          case hy_t6r7x4x3 => (intro w hSw; (try dsimp only at hSw); go_simp; first | done | with_reducible rfl)
          simp only [List.setIfInBounds_toArray, List.set_cons_succ, List.set_cons_zero]
          refine takeAtQ 4 25 (v := ?v_t6r7x5x4) rfl rfl (by kernel_rfl) (by kernel_rfl) (by kernel_rfl) (fun _ _ _ h => h) (Or.inl ⟨by rfl, ?hy_t6r7x5x4⟩) (by assumption) ?rest_t6r7x5x4
          case hy_t6r7x5x4 => (intro w hSw; (try dsimp only at hSw); go_simp; first | done | with_reducible rfl)
          simp only [List.setIfInBounds_toArray, List.set_cons_succ, List.set_cons_zero]
          refine wpAnyH_ready (rs := [5, 9]) (by kernel_rfl) (by simp) ?_
          refine (AllReadyH.cons (o := { dst := some 26, op := Go.Op.call { callee := Go.Callee.value (Go.Operand.func 12), args := #[Go.Operand.tmp 21, Go.Operand.tmp 25], argTypes := #[24, 3] }, type := 31, pos := "law.go:103", after := #[{ on := 0, ground := Go.Ground.data }, { on := 4, ground := Go.Ground.data }], guard := none }) rfl (fun K hK => ?g6r7_6_5) (AllReadyH.cons (o := { dst := some 7, op := Go.Op.alloc 24, type := 0, pos := "law.go:103", after := #[], guard := none }) rfl (fun K hK => ?g6r7_6_9) AllReadyH.nil))
          case g6r7_6_5 =>
            go_simp
            refine (KN _).out.mono ?_
            rintro e z5 ⟨rfl, hb5⟩
            have HC5 := hide (hHeld.2.2.2.out.go hb5)
            first | have HX := hide (HX.out.below hb5) | skip
            clear hb5
            go_wp2_with fail
            refine hK.out _ _ (HSS.out _ HC5.out) (fun hHeldN => ?_)
            clear hK K hHeld
            (try go_frame)
            have hHeld := hHeldN
            clear hHeldN
            (try dsimp only at hHeld)
            refine takeAtQ 6 20 (v := ?v_t6r7x8x6) rfl rfl (by kernel_rfl) (by kernel_rfl) (by kernel_rfl) (fun _ _ _ h => h) (Or.inl ⟨by rfl, ?hy_t6r7x8x6⟩) (by assumption) ?rest_t6r7x8x6
            case hy_t6r7x8x6 => (intro w hSw; (try dsimp only at hSw); go_simp; first | done | with_reducible rfl)
            simp only [List.setIfInBounds_toArray, List.set_cons_succ, List.set_cons_zero]
            refine takeAtQ 7 27 (v := ?v_t6r7x9x7) rfl rfl (by kernel_rfl) (by kernel_rfl) (by kernel_rfl) (fun _ _ _ h => h) (Or.inl ⟨by rfl, ?hy_t6r7x9x7⟩) (by assumption) ?rest_t6r7x9x7
            case hy_t6r7x9x7 => (intro w hSw; (try dsimp only at hSw); go_simp; first | done | with_reducible rfl)
            simp only [List.setIfInBounds_toArray, List.set_cons_succ, List.set_cons_zero]
            refine takeAtQ 8 28 (v := ?v_t6r7x10x8) rfl rfl (by kernel_rfl) (by kernel_rfl) (by kernel_rfl) (fun _ _ _ h => h) (Or.inl ⟨by rfl, ?hy_t6r7x10x8⟩) (by assumption) ?rest_t6r7x10x8
            case hy_t6r7x10x8 => (intro w hSw; (try dsimp only at hSw); go_simp; first | done | with_reducible rfl)
            simp only [List.setIfInBounds_toArray, List.set_cons_succ, List.set_cons_zero]
            refine wpAnyH_ready (rs := [9]) (by kernel_rfl) (by simp) ?_
            refine (AllReadyH.cons (o := { dst := some 7, op := Go.Op.alloc 24, type := 0, pos := "law.go:103", after := #[], guard := none }) rfl (fun K hK => ?g6r7_11_9) AllReadyH.nil)
            case g6r7_11_9 =>
              go_simp
              first | (have HX := hide (Box.new z5 #[.int .u64 0, .int .i64 0] 24); have H9 := hide (hHeld.2.2.2.out.go (one_below z5 (.cells #[.int .u64 0, .int .i64 0] 24))); have HNX := hide (And.intro (Nat.ne_of_lt hHeld.2.2.2.out.bx.lt) (And.intro (Nat.ne_of_lt hHeld.2.2.2.out.mp.lt) hHeld.2.2.2.out.below.size)); generalize z5.alloc (.cells #[.int .u64 0, .int .i64 0] 24) = z9 at *; generalize z5.heap.size = X at *) | (have HX := hide (show Box (wr.alloc (.cells #[.int .u64 0, .int .i64 0] 24)).drew wr.heap.size #[.int .u64 0, .int .i64 0] 24 from Box.new wr #[.int .u64 0, .int .i64 0] 24); have H9 := hide (HCh.out.go (one_below wr (.cells #[.int .u64 0, .int .i64 0] 24))).drew; have HNX := hide (And.intro (Nat.ne_of_lt HCh.out.bx.lt) (And.intro (Nat.ne_of_lt HCh.out.mp.lt) HCh.out.below.size)); generalize (wr.alloc (.cells #[.int .u64 0, .int .i64 0] 24)).drew = z9 at *; generalize wr.heap.size = X at *)
              refine hK.out _ _ (HSS.out _ H9.out) (fun hHeldN => ?_)
              clear hK K hHeld
              (try go_frame)
              have hHeld := hHeldN
              clear hHeldN
              (try dsimp only at hHeld)
              refine wpAnyH_ready (rs := [10]) (by kernel_rfl) (by simp) ?_
              refine (AllReadyH.cons (o := { dst := none, op := Go.Op.store 24 (Go.Operand.tmp 7) (Go.Operand.tmp 27), type := 0, pos := "law.go:103", after := #[{ on := 9, ground := Go.Ground.data }, { on := 7, ground := Go.Ground.data }, { on := 5, ground := Go.Ground.chain }, { on := 0, ground := Go.Ground.phase }, { on := 1, ground := Go.Ground.phase }, { on := 2, ground := Go.Ground.phase }, { on := 3, ground := Go.Ground.phase }, { on := 4, ground := Go.Ground.phase }, { on := 5, ground := Go.Ground.phase }, { on := 6, ground := Go.Ground.phase }, { on := 7, ground := Go.Ground.phase }, { on := 8, ground := Go.Ground.textOnly Go.Departure.lateStores }, { on := 9, ground := Go.Ground.phase }], guard := none }) rfl (fun K hK => ?g6r7_13_10) AllReadyH.nil)
              case g6r7_13_10 =>
                go_simp
                obtain ⟨x0, x1⟩ := HX.out.two
                have xf := HX.out.free
                go_simp
                refine hK.out _ _ (HSS.out _ (hHeld.2.2.2.out.beside HNX.out.1 HNX.out.2.1 HNX.out.2.2 (.int .u64 (rx : Int)) (.int .i64 nx))) (fun hHeldN => ?_)
                clear hK K hHeld
                (try go_frame)
                have hHeld := hHeldN
                clear hHeldN
                (try dsimp only at hHeld)
                refine takeAtQ 11 8 (v := ?v_t6r7x15x11) rfl rfl (by kernel_rfl) (by kernel_rfl) (by kernel_rfl) (fun _ _ _ h => h) (Or.inl ⟨by rfl, ?hy_t6r7x15x11⟩) (by assumption) ?rest_t6r7x15x11
                case hy_t6r7x15x11 => (intro w hSw; (try dsimp only at hSw); go_simp; first | done | with_reducible rfl)
                simp only [List.setIfInBounds_toArray, List.set_cons_succ, List.set_cons_zero]
                refine wpAnyH_done (by kernel_rfl) ?_ _
                go_wp2_with fail
                go_meet
                case rel => exact ⟨X, rfl, rfl, HX.out.put2 _ _, hHeld.2.2.2.out, HNX.out.1, HNX.out.2.1, HNX.out.2.2⟩
          case g6r7_6_9 =>
            go_simp
            first | (have HX := hide (Box.new z5 #[.int .u64 0, .int .i64 0] 24); have H9 := hide (hHeld.2.2.2.out.go (one_below z5 (.cells #[.int .u64 0, .int .i64 0] 24))); have HNX := hide (And.intro (Nat.ne_of_lt hHeld.2.2.2.out.bx.lt) (And.intro (Nat.ne_of_lt hHeld.2.2.2.out.mp.lt) hHeld.2.2.2.out.below.size)); generalize z5.alloc (.cells #[.int .u64 0, .int .i64 0] 24) = z9 at *; generalize z5.heap.size = X at *) | (have HX := hide (show Box (wr.alloc (.cells #[.int .u64 0, .int .i64 0] 24)).drew wr.heap.size #[.int .u64 0, .int .i64 0] 24 from Box.new wr #[.int .u64 0, .int .i64 0] 24); have H9 := hide (HCh.out.go (one_below wr (.cells #[.int .u64 0, .int .i64 0] 24))).drew; have HNX := hide (And.intro (Nat.ne_of_lt HCh.out.bx.lt) (And.intro (Nat.ne_of_lt HCh.out.mp.lt) HCh.out.below.size)); generalize (wr.alloc (.cells #[.int .u64 0, .int .i64 0] 24)).drew = z9 at *; generalize wr.heap.size = X at *)
            refine hK.out _ _ (HSS.out _ H9.out) (fun hHeldN => ?_)
            clear hK K hHeld
            (try go_frame)
            have hHeld := hHeldN
            clear hHeldN
            (try dsimp only at hHeld)
            refine wpAnyH_ready (rs := [5]) (by kernel_rfl) (by simp) ?_
            refine (AllReadyH.cons (o := { dst := some 26, op := Go.Op.call { callee := Go.Callee.value (Go.Operand.func 12), args := #[Go.Operand.tmp 21, Go.Operand.tmp 25], argTypes := #[24, 3] }, type := 31, pos := "law.go:103", after := #[{ on := 0, ground := Go.Ground.data }, { on := 4, ground := Go.Ground.data }], guard := none }) rfl (fun K hK => ?g6r7_17_5) AllReadyH.nil)
            case g6r7_17_5 =>
              go_simp
              refine (KN _).out.mono ?_
              rintro e z5 ⟨rfl, hb5⟩
              have HC5 := hide (hHeld.2.2.2.out.go hb5)
              first | have HX := hide (HX.out.below hb5) | skip
              clear hb5
              go_wp2_with fail
              refine hK.out _ _ (HSS.out _ HC5.out) (fun hHeldN => ?_)
              clear hK K hHeld
              (try go_frame)
              have hHeld := hHeldN
              clear hHeldN
              (try dsimp only at hHeld)
              refine takeAtQ 6 20 (v := ?v_t6r7x19x6) rfl rfl (by kernel_rfl) (by kernel_rfl) (by kernel_rfl) (fun _ _ _ h => h) (Or.inl ⟨by rfl, ?hy_t6r7x19x6⟩) (by assumption) ?rest_t6r7x19x6
              case hy_t6r7x19x6 => (intro w hSw; (try dsimp only at hSw); go_simp; first | done | with_reducible rfl)
              simp only [List.setIfInBounds_toArray, List.set_cons_succ, List.set_cons_zero]
              refine takeAtQ 7 27 (v := ?v_t6r7x20x7) rfl rfl (by kernel_rfl) (by kernel_rfl) (by kernel_rfl) (fun _ _ _ h => h) (Or.inl ⟨by rfl, ?hy_t6r7x20x7⟩) (by assumption) ?rest_t6r7x20x7
              case hy_t6r7x20x7 => (intro w hSw; (try dsimp only at hSw); go_simp; first | done | with_reducible rfl)
              simp only [List.setIfInBounds_toArray, List.set_cons_succ, List.set_cons_zero]
              refine takeAtQ 8 28 (v := ?v_t6r7x21x8) rfl rfl (by kernel_rfl) (by kernel_rfl) (by kernel_rfl) (fun _ _ _ h => h) (Or.inl ⟨by rfl, ?hy_t6r7x21x8⟩) (by assumption) ?rest_t6r7x21x8
              case hy_t6r7x21x8 => (intro w hSw; (try dsimp only at hSw); go_simp; first | done | with_reducible rfl)
              simp only [List.setIfInBounds_toArray, List.set_cons_succ, List.set_cons_zero]
              refine wpAnyH_ready (rs := [10]) (by kernel_rfl) (by simp) ?_
              refine (AllReadyH.cons (o := { dst := none, op := Go.Op.store 24 (Go.Operand.tmp 7) (Go.Operand.tmp 27), type := 0, pos := "law.go:103", after := #[{ on := 9, ground := Go.Ground.data }, { on := 7, ground := Go.Ground.data }, { on := 5, ground := Go.Ground.chain }, { on := 0, ground := Go.Ground.phase }, { on := 1, ground := Go.Ground.phase }, { on := 2, ground := Go.Ground.phase }, { on := 3, ground := Go.Ground.phase }, { on := 4, ground := Go.Ground.phase }, { on := 5, ground := Go.Ground.phase }, { on := 6, ground := Go.Ground.phase }, { on := 7, ground := Go.Ground.phase }, { on := 8, ground := Go.Ground.textOnly Go.Departure.lateStores }, { on := 9, ground := Go.Ground.phase }], guard := none }) rfl (fun K hK => ?g6r7_22_10) AllReadyH.nil)
              case g6r7_22_10 =>
                go_simp
                obtain ⟨x0, x1⟩ := HX.out.two
                have xf := HX.out.free
                go_simp
                refine hK.out _ _ (HSS.out _ (hHeld.2.2.2.out.beside HNX.out.1 HNX.out.2.1 HNX.out.2.2 (.int .u64 (rx : Int)) (.int .i64 nx))) (fun hHeldN => ?_)
                clear hK K hHeld
                (try go_frame)
                have hHeld := hHeldN
                clear hHeldN
                (try dsimp only at hHeld)
                refine takeAtQ 11 8 (v := ?v_t6r7x24x11) rfl rfl (by kernel_rfl) (by kernel_rfl) (by kernel_rfl) (fun _ _ _ h => h) (Or.inl ⟨by rfl, ?hy_t6r7x24x11⟩) (by assumption) ?rest_t6r7x24x11
                case hy_t6r7x24x11 => (intro w hSw; (try dsimp only at hSw); go_simp; first | done | with_reducible rfl)
                simp only [List.setIfInBounds_toArray, List.set_cons_succ, List.set_cons_zero]
                refine wpAnyH_done (by kernel_rfl) ?_ _
                go_wp2_with fail
                go_meet
                case rel => exact ⟨X, rfl, rfl, HX.out.put2 _ _, hHeld.2.2.2.out, HNX.out.1, HNX.out.2.1, HNX.out.2.2⟩
        obtain ⟨X, rfl, rfl, hx, hch, hn1, hn2, hn3⟩ := hcut
        have HX := hide hx
        have HC7 := hide hch
        have HNX := hide (And.intro hn1 (And.intro hn2 hn3))
        clear hx hch HCh hn1 hn2 hn3 KN HSS
        rcases HTd.out with ⟨e1, he1, he2⟩ | ⟨x, he1, hxn, hxok, hx1, -, hx3, hx4, -⟩
        · injection he1 with he3 he4
          injection he3 with he5 he6
          subst he4
          subst he5
          subst he6
          have he7 : ¬ (e0 : Int) = 0 := by omega
          obtain ⟨x0, x1⟩ := HX.out.two
          clear he2 HTd
          go_wp2_with fail
          exact ⟨⟨k + 1, n, ⟨r, m⟩, f, hlt, by go_num, HC7.out, HSn.out.1, by omega, HSn.out.2⟩, by simp [intOf]; omega⟩
        · injection he1 with he3 he4
          subst he4
          subst he3
          simp only at hxn hx3
          subst hxn
          have hra := (cmpB_one _ _).1 hx1
          have hrr := (above_iff _ _).1 hra
          simp only at hrr
          have hrb := ((may_iff _).1 hx4).2
          simp only at hrb
          have HFr := hide (HSn.out.2.fresh hxok hra)
          have HXo := hide (And.intro hxok hra)
          have Kxb := fun z => hide (HC.out.cmp ⟨rx, nx⟩ ⟨r, m⟩ z hxok HSn.out.1)
          rw [hx1] at Kxb
          have wk : IntKind.u64.wrap ((r : Int) + 1) = (r : Int) + 1 := by rw [IntKind.wrap_u64]; omega
          have wk2 : (rx : Int) ≤ (r : Int) + 1 := by omega
          have HSS : Hid (∀ z, Below wc.heap.size wc z → (z.cell? ⟨X, 0, none⟩ = some (.int .u64 (rx : Int)) ∧ z.cell? ⟨X, 1, none⟩ = some (.int .i64 nx)) ∧ (z.cell? ⟨B, 0, none⟩ = some (.int .u64 (r : Int)) ∧ z.cell? ⟨B, 1, none⟩ = some (.int .i64 m)) ∧ z.cell? ⟨ba, off + k, none⟩ = some (.int .i64 nx) ∧ (Instr.lookup 42 (.map (some M)) (.agg #[.int .u64 (rx : Int), .int .i64 nx]) false).run Try.prog z = .ok (.int .i64 0) z) := fun z h => ⟨(HX.out.below h).two, (HC7.out.go h).bx.two, by rw [(HA.out.old (HC7.out.go h).below).get hlt, HVk.out], look_run keyedB Try.underlying42 zero_int (HC7.out.go h).mp (key_B HXo.out.1) (by rw [HFr.out]; rfl)⟩
          clear hx1 hx4 hra hrr hrb hxok HTd
          go_upto_region 11 with fail
          have HBd := hide (below_drewN (Below.refl wc.heap.size wc) 1)
          refine wp_region_held_drew (S := fun z => (z.cell? ⟨X, 0, none⟩ = some (.int .u64 (rx : Int)) ∧ z.cell? ⟨X, 1, none⟩ = some (.int .i64 nx)) ∧ (z.cell? ⟨B, 0, none⟩ = some (.int .u64 (r : Int)) ∧ z.cell? ⟨B, 1, none⟩ = some (.int .i64 m)) ∧ z.cell? ⟨ba, off + k, none⟩ = some (.int .i64 nx) ∧ (Instr.lookup 42 (.map (some M)) (.agg #[.int .u64 (rx : Int), .int .i64 nx]) false).run Try.prog z = .ok (.int .i64 0) z) (by kernel_rfl) (HSS.out _ HBd.out) (fun hHeld => ?_)
          (try dsimp only at hHeld)
          refine takeAtQ 0 34 (v := ?v_r11x266_0) rfl rfl (by kernel_rfl) (by kernel_rfl) (by kernel_rfl) (fun _ _ _ h => h) (Or.inl ⟨by rfl, ?hy_r11x266_0⟩) (by assumption) ?rest_r11x266_0
          case hy_r11x266_0 => (intro w hSw; (try dsimp only at hSw); go_simp; first | done | with_reducible rfl)
          simp only [List.setIfInBounds_toArray, List.set_cons_succ, List.set_cons_zero]
          refine takeAtQ 1 35 (v := ?v_r11x266_1) rfl rfl (by kernel_rfl) (by kernel_rfl) (by kernel_rfl) (fun _ _ _ h => h) (Or.inl ⟨by rfl, ?hy_r11x266_1⟩) (by assumption) ?rest_r11x266_1
          case hy_r11x266_1 => (intro w hSw; (try dsimp only at hSw); go_simp; first | done | with_reducible rfl)
          simp only [List.setIfInBounds_toArray, List.set_cons_succ, List.set_cons_zero]
          refine wpAnyH_ready (rs := [2]) (by kernel_rfl) (by simp) ?_
          refine AllReadyH.cons (o := { dst := some 36, op := Go.Op.call { callee := Go.Callee.value (Go.Operand.func 11), args := #[Go.Operand.tmp 34, Go.Operand.tmp 35], argTypes := #[24, 24] }, type := 3, pos := "law.go:110", after := #[{ on := 0, ground := Go.Ground.data }, { on := 1, ground := Go.Ground.data }], guard := none }) rfl (fun K hK => ?_) AllReadyH.nil
          go_simp
          refine (Kxb _).out.mono ?_
          rintro e z1 ⟨rfl, hb1⟩
          have HB1 := hide (HBd.out.trans (hb1.mono HBd.out.size))
          clear hb1
          go_wp2_with fail
          refine hK.out _ _ (HSS.out _ HB1.out) (fun hHeldN => ?_)
          clear hK K hHeld
          (try go_frame)
          have hHeld := hHeldN
          clear hHeldN
          (try dsimp only at hHeld)
          refine takeAtQ 3 37 (v := ?v_r11x266_3) rfl rfl (by kernel_rfl) (by kernel_rfl) (by kernel_rfl) (fun _ _ _ h => h) (Or.inl ⟨by rfl, ?hy_r11x266_3⟩) (by assumption) ?rest_r11x266_3
          case hy_r11x266_3 => (intro w hSw; (try dsimp only at hSw); go_simp; first | done | with_reducible rfl)
          simp only [List.setIfInBounds_toArray, List.set_cons_succ, List.set_cons_zero]
          refine takeAtQ 4 38 (v := ?v_r11x266_4) rfl rfl (by kernel_rfl) (by kernel_rfl) (by kernel_rfl) (fun _ _ _ h => h) (Or.inl ⟨by rfl, ?hy_r11x266_4⟩) (by assumption) ?rest_r11x266_4
          case hy_r11x266_4 => (intro w hSw; (try dsimp only at hSw); go_simp; first | done | with_reducible rfl)
          simp only [List.setIfInBounds_toArray, List.set_cons_succ, List.set_cons_zero]
          refine takeAtQ 5 39 (v := ?v_r11x266_5) rfl rfl (by kernel_rfl) (by kernel_rfl) (by kernel_rfl) (fun _ _ _ h => h) (Or.inl ⟨by rfl, ?hy_r11x266_5⟩) (by assumption) ?rest_r11x266_5
          case hy_r11x266_5 => (intro w hSw; (try dsimp only at hSw); go_simp; first | done | with_reducible rfl)
          simp only [List.setIfInBounds_toArray, List.set_cons_succ, List.set_cons_zero]
          refine takeAtQ 6 40 (v := ?v_r11x266_6) rfl rfl (by kernel_rfl) (by kernel_rfl) (by kernel_rfl) (fun _ _ _ h => h) (Or.inl ⟨by rfl, ?hy_r11x266_6⟩) (by assumption) ?rest_r11x266_6
          case hy_r11x266_6 => (intro w hSw; (try dsimp only at hSw); go_simp; first | done | with_reducible rfl)
          simp only [List.setIfInBounds_toArray, List.set_cons_succ, List.set_cons_zero]
          refine takeAtQ 7 41 (v := ?v_r11x266_7) rfl rfl (by kernel_rfl) (by kernel_rfl) (by kernel_rfl) (fun _ _ _ h => h) (Or.inl ⟨by rfl, ?hy_r11x266_7⟩) (by assumption) ?rest_r11x266_7
          case hy_r11x266_7 => (intro w hSw; (try dsimp only at hSw); go_simp; first | done | with_reducible rfl)
          simp only [List.setIfInBounds_toArray, List.set_cons_succ, List.set_cons_zero]
          refine takeAtQ 8 42 (v := ?v_r11x266_8) rfl rfl (by kernel_rfl) (by kernel_rfl) (by kernel_rfl) (fun _ _ _ h => h) (Or.inl ⟨by rfl, ?hy_r11x266_8⟩) (by assumption) ?rest_r11x266_8
          case hy_r11x266_8 => (intro w hSw; (try dsimp only at hSw); go_simp; first | done | with_reducible rfl)
          simp only [List.setIfInBounds_toArray, List.set_cons_succ, List.set_cons_zero]
          refine takeAtQ 9 43 (v := ?v_r11x266_9) rfl rfl (by kernel_rfl) (by kernel_rfl) (by kernel_rfl) (fun _ _ _ h => h) (Or.inl ⟨by rfl, ?hy_r11x266_9⟩) (by assumption) ?rest_r11x266_9
          case hy_r11x266_9 => (intro w hSw; (try dsimp only at hSw); go_simp; first | done | with_reducible rfl)
          simp only [List.setIfInBounds_toArray, List.set_cons_succ, List.set_cons_zero]
          refine takeAtQ 10 44 (v := ?v_r11x266_10) rfl rfl (by kernel_rfl) (by kernel_rfl) (by kernel_rfl) (fun _ _ _ h => h) (Or.inl ⟨by rfl, ?hy_r11x266_10⟩) (by assumption) ?rest_r11x266_10
          case hy_r11x266_10 => (intro w hSw; (try dsimp only at hSw); go_simp; first | done | with_reducible rfl)
          simp only [List.setIfInBounds_toArray, List.set_cons_succ, List.set_cons_zero]
          refine takeAtQ 11 45 (v := ?v_r11x266_11) rfl rfl (by kernel_rfl) (by kernel_rfl) (by kernel_rfl) (fun _ _ _ h => h) (Or.inl ⟨by rfl, ?hy_r11x266_11⟩) (by assumption) ?rest_r11x266_11
          case hy_r11x266_11 => (intro w hSw; (try dsimp only at hSw); go_simp; first | done | with_reducible rfl)
          simp only [List.setIfInBounds_toArray, List.set_cons_succ, List.set_cons_zero]
          refine takeAtQ 12 46 (v := ?v_r11x266_12) rfl rfl (by kernel_rfl) (by kernel_rfl) (by kernel_rfl) (fun _ _ _ h => h) (Or.inl ⟨by rfl, ?hy_r11x266_12⟩) (by assumption) ?rest_r11x266_12
          case hy_r11x266_12 => (intro w hSw; (try dsimp only at hSw); go_simp; first | done | with_reducible rfl)
          simp only [List.setIfInBounds_toArray, List.set_cons_succ, List.set_cons_zero]
          refine takeAtQ 13 47 (v := ?v_r11x266_13) rfl rfl (by kernel_rfl) (by kernel_rfl) (by kernel_rfl) (fun _ _ _ h => h) (Or.inl ⟨by rfl, ?hy_r11x266_13⟩) (by assumption) ?rest_r11x266_13
          case hy_r11x266_13 => (intro w hSw; (try dsimp only at hSw); go_simp; first | done | with_reducible rfl)
          simp only [List.setIfInBounds_toArray, List.set_cons_succ, List.set_cons_zero]
          refine takeAtQ 14 48 (v := ?v_r11x266_14) rfl rfl (by kernel_rfl) (by kernel_rfl) (by kernel_rfl) (fun _ _ _ h => h) (Or.inl ⟨by rfl, ?hy_r11x266_14⟩) (by assumption) ?rest_r11x266_14
          case hy_r11x266_14 => (intro w hSw; (try dsimp only at hSw); go_simp; first | done | with_reducible rfl)
          simp only [List.setIfInBounds_toArray, List.set_cons_succ, List.set_cons_zero]
          refine takeAtQ 15 49 (v := ?v_r11x266_15) rfl rfl (by kernel_rfl) (by kernel_rfl) (by kernel_rfl) (fun _ _ _ h => h) (Or.inl ⟨by rfl, ?hy_r11x266_15⟩) (by assumption) ?rest_r11x266_15
          case hy_r11x266_15 => (intro w hSw; (try dsimp only at hSw); go_simp; first | done | with_reducible rfl)
          simp only [List.setIfInBounds_toArray, List.set_cons_succ, List.set_cons_zero]
          refine takeAtQ 16 50 (v := ?v_r11x266_16) rfl rfl (by kernel_rfl) (by kernel_rfl) (by kernel_rfl) (fun _ _ _ h => h) (Or.inl ⟨by rfl, ?hy_r11x266_16⟩) (by assumption) ?rest_r11x266_16
          case hy_r11x266_16 => (intro w hSw; (try dsimp only at hSw); go_simp; first | done | with_reducible rfl)
          simp only [List.setIfInBounds_toArray, List.set_cons_succ, List.set_cons_zero]
          refine takeAtQ 17 51 (v := ?v_r11x266_17) rfl rfl (by kernel_rfl) (by kernel_rfl) (by kernel_rfl) (fun _ _ _ h => h) (Or.inl ⟨by rfl, ?hy_r11x266_17⟩) (by assumption) ?rest_r11x266_17
          case hy_r11x266_17 => (intro w hSw; (try dsimp only at hSw); go_simp; first | done | with_reducible rfl)
          simp only [List.setIfInBounds_toArray, List.set_cons_succ, List.set_cons_zero]
          refine takeAtQ 18 52 (v := ?v_r11x266_18) rfl rfl (by kernel_rfl) (by kernel_rfl) (by kernel_rfl) (fun _ _ _ h => h) (Or.inl ⟨by rfl, ?hy_r11x266_18⟩) (by assumption) ?rest_r11x266_18
          case hy_r11x266_18 => (intro w hSw; (try dsimp only at hSw); go_simp; first | done | with_reducible rfl)
          simp only [List.setIfInBounds_toArray, List.set_cons_succ, List.set_cons_zero]
          refine takeAtQ 19 53 (v := ?v_r11x266_19) rfl rfl (by kernel_rfl) (by kernel_rfl) (by kernel_rfl) (fun _ _ _ h => h) (Or.inl ⟨by rfl, ?hy_r11x266_19⟩) (by assumption) ?rest_r11x266_19
          case hy_r11x266_19 => (intro w hSw; (try dsimp only at hSw); go_simp; first | done | with_reducible rfl)
          simp only [List.setIfInBounds_toArray, List.set_cons_succ, List.set_cons_zero]
          refine takeAtQ 20 54 (v := ?v_r11x266_20) rfl rfl (by kernel_rfl) (by kernel_rfl) (by kernel_rfl) (fun _ _ _ h => h) (Or.inl ⟨by rfl, ?hy_r11x266_20⟩) (by assumption) ?rest_r11x266_20
          case hy_r11x266_20 => (intro w hSw; (try dsimp only at hSw); go_simp; first | done | with_reducible rfl)
          simp only [List.setIfInBounds_toArray, List.set_cons_succ, List.set_cons_zero]
          refine takeAtQ 21 55 (v := ?v_r11x266_21) rfl rfl (by kernel_rfl) (by kernel_rfl) (by kernel_rfl) (fun _ _ _ h => h) (Or.inl ⟨by rfl, ?hy_r11x266_21⟩) (by assumption) ?rest_r11x266_21
          case hy_r11x266_21 => (intro w hSw; (try dsimp only at hSw); go_simp; first | done | with_reducible rfl)
          simp only [List.setIfInBounds_toArray, List.set_cons_succ, List.set_cons_zero]
          refine takeAtQ 22 56 (v := ?v_r11x266_22) rfl rfl (by kernel_rfl) (by kernel_rfl) (by kernel_rfl) (fun _ _ _ h => h) (Or.inl ⟨by rfl, ?hy_r11x266_22⟩) (by assumption) ?rest_r11x266_22
          case hy_r11x266_22 => (intro w hSw; (try dsimp only at hSw); go_simp; first | done | with_reducible rfl)
          simp only [List.setIfInBounds_toArray, List.set_cons_succ, List.set_cons_zero]
          refine takeAtQ 23 57 (v := ?v_r11x266_23) rfl rfl (by kernel_rfl) (by kernel_rfl) (by kernel_rfl) (fun _ _ _ h => h) (Or.inl ⟨by rfl, ?hy_r11x266_23⟩) (by assumption) ?rest_r11x266_23
          case hy_r11x266_23 => (intro w hSw; (try dsimp only at hSw); go_simp; first | done | with_reducible rfl)
          simp only [List.setIfInBounds_toArray, List.set_cons_succ, List.set_cons_zero]
          refine takeAtQ 24 58 (v := ?v_r11x266_24) rfl rfl (by kernel_rfl) (by kernel_rfl) (by kernel_rfl) (fun _ _ _ h => h) (Or.inl ⟨by rfl, ?hy_r11x266_24⟩) (by assumption) ?rest_r11x266_24
          case hy_r11x266_24 => (intro w hSw; (try dsimp only at hSw); go_simp; first | done | with_reducible rfl)
          simp only [List.setIfInBounds_toArray, List.set_cons_succ, List.set_cons_zero]
          refine takeAtQ 25 59 (v := ?v_r11x266_25) rfl rfl (by kernel_rfl) (by kernel_rfl) (by kernel_rfl) (fun _ _ _ h => h) (Or.inl ⟨by rfl, ?hy_r11x266_25⟩) (by assumption) ?rest_r11x266_25
          case hy_r11x266_25 => (intro w hSw; (try dsimp only at hSw); go_simp; first | done | with_reducible rfl)
          simp only [List.setIfInBounds_toArray, List.set_cons_succ, List.set_cons_zero]
          refine takeAtQ 26 60 (v := ?v_r11x266_26) rfl rfl (by kernel_rfl) (by kernel_rfl) (by kernel_rfl) (fun _ _ _ h => h) (Or.inl ⟨by rfl, ?hy_r11x266_26⟩) (by assumption) ?rest_r11x266_26
          case hy_r11x266_26 => (intro w hSw; (try dsimp only at hSw); go_simp; first | done | with_reducible rfl)
          simp only [List.setIfInBounds_toArray, List.set_cons_succ, List.set_cons_zero]
          refine wpAnyH_done (by kernel_rfl) ?_ _
          clear hHeld
          go_upto_region 13 with fail
          have HX1 := hide (HX.out.below HB1.out)
          have HC1 := hide (HC7.out.go HB1.out)
          have HNM : Hid (n < maxLen) := by unfold Hid maxLen; omega
          obtain ⟨v0, stp, w1, hE, hLk, hO, hSt⟩ := bump lawB Try.underlying42 zero_int HC1.out.drew.mp HNM.out (key_B HXo.out.1) (by rw [HFr.out]; rfl)
          obtain ⟨w2, hS2, hm2, ht2⟩ := hSt (.int .i64 1)
          have hL0 : (Instr.lookup 42 (.map (some M)) (.agg #[.int .u64 (rx : Int), .int .i64 nx]) false).run Try.prog z1.drew = .ok (.int .i64 0) z1.drew := (HSS.out z1.drew (HB1.out.trans (below_drewN (Below.refl z1.heap.size z1) 1 |>.mono HB1.out.size))).2.2.2
          obtain ⟨x0, x1⟩ := HX1.out.two
          have HTu := hide (And.intro hm2 ht2)
          clear hm2 ht2 hSt
          go_region
          have HC2 := hide (HC1.out.drew.turned HTu.out.2 HTu.out.1)
          have HX2 := hide (HX1.out.same (HTu.out.2.grown.block X HX1.out.lt (by intro e; exact HNX.out.2.1 (Option.some.inj e).symm)))
          clear hE hLk hO hS2 hL0 x0 x1 HTu HX1 HC1 HX HC7 HSS
          obtain ⟨x0, x1⟩ := HX2.out.two
          obtain ⟨b0', b1'⟩ := HC2.out.bx.two
          have bf := HC2.out.bx.free
          go_wp2_with fail
          exact ⟨⟨k + 1, n + 1, ⟨rx, nx⟩, _, hlt, by go_num, HC2.out.turnB, HXo.out.1, by omega, HSn.out.2.put HXo.out.1 HXo.out.2 _⟩, by simp [intOf]; omega⟩
      · go_wp2_with fail
        refine (KW.out _).mono ?_
        rintro e z9 ⟨rfl, hb9⟩
        go_wp2
        go_ret
        exact ⟨rfl, HCh.out.below.trans (hb9.mono HCh.out.below.size)⟩
  · go_wp2_with fail
    refine (KW.out _).mono ?_
    rintro e z9 ⟨rfl, hb9⟩
    go_wp2
    go_ret
    exact ⟨rfl, (one_below w _).trans (hb9.mono (one_below w (.cells #[.int .u64 (b0.r : Int), .int .i64 b0.n] 24)).size)⟩
end Go.Proofs.Ytmpabcojdkpiaaa
