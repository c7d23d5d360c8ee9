/- The law BallotTells, over the contracts. -/
import Derived.Test.YtmpabcojdkpiaaaRow
import Derived.Test.YtmpabcojdkpiaaaCopy
import Derived.Deep.CutBlock
namespace Go.Proofs.Ytmpabcojdkpiaaa
open Go Go.RowKit

/-- Two ballots in boxes of the call's own. -/
structure Duo (w : World) (X Y : Nat) (a b : Bl) (u : World) : Prop where
  x : Box u X #[.int .u64 (a.r : Int), .int .i64 a.n] 24
  y : Box u Y #[.int .u64 (b.r : Int), .int .i64 b.n] 24
  below : Below w.heap.size w u
theorem Duo.new (w : World) (a b : Bl) : Duo w w.heap.size (w.heap.size + 1) a b ((w.alloc (.cells #[.int .u64 (a.r : Int), .int .i64 a.n] 24)).alloc (.cells #[.int .u64 (b.r : Int), .int .i64 b.n] 24)) := by
  refine ⟨(Box.new w _ _).below (one_below _ _), ?_, two_below _ _ _⟩
  have h := Box.new (w.alloc (.cells #[.int .u64 (a.r : Int), .int .i64 a.n] 24)) #[.int .u64 (b.r : Int), .int .i64 b.n] 24
  rw [one_size] at h
  exact h
theorem Duo.go {w u v : World} {X Y : Nat} {a b : Bl} (h : Duo w X Y a b u) (hb : Below u.heap.size u v) : Duo w X Y a b v := ⟨h.x.below hb, h.y.below hb, h.below.trans (hb.mono h.below.size)⟩
theorem Duo.drew {w u : World} {X Y : Nat} {a b : Bl} (h : Duo w X Y a b u) : Duo w X Y a b u.drew := ⟨h.x, h.y, below_drewN h.below 1⟩
theorem allIn_next (l : List Int) (x : Nat) (n : Int) (h : x < l.length) : allIn (l.take (x + 1)) n = (allIn (l.take x) n && decide (0 ≤ l[x] ∧ l[x] < n)) := by
  unfold allIn
  rw [List.take_succ_eq_append_getElem h, List.all_append]
  simp
set_option maxRecDepth 10000 in
set_option maxHeartbeats 8000000 in
theorem BallotTells_any (C : Con) (a b : Bl) (nd : Int) (p : Option Addr) (c : Nat) (l : List Int) (n : Int) (w : World) (ha : a.Ok) (hb : b.Ok) (hnd : I64 nd) (hp : IntsAt w p l) (hpn : p = none → c = 0) (hl : ∀ x ∈ l, I64 x) (hll : l.length ≤ 140737488351232) (hn : I64 n) :
    Calls Try.prog 3 #[.agg #[.int .u64 (a.r : Int), .int .i64 a.n], .agg #[.int .u64 (b.r : Int), .int .i64 b.n], .int .i64 nd, .slice p l.length c, .int .i64 n] w fun e v => e = .returned (.bool true) ∧ Below w.heap.size w v := by
  have KW := hide (works_any C)
  have HC := hide C
  have HP := hide hp
  have HPn := hide hpn
  have HL := hide hl
  have HI := hide (And.intro hnd hn)
  have HD := hide (Duo.new w a b)
  have HO := hide (And.intro ha hb)
  have Aab := fun u => hide (rAbove a b u ha hb)
  have Aba := fun u => hide (rAbove b a u hb ha)
  have Mp := fun u => hide (C.may a u ha)
  have Mr := fun u => hide (rMay a u ha)
  have Kc := fun u => hide (C.cmp a b u ha hb)
  have HCm : Hid (cmpB a b = if above a b = true then 1 else if above b a = true then -1 else 0) := rfl
  clear C hp hpn hl hnd hn ha hb
  generalize above a b = A1 at *
  generalize above b a = A2 at *
  generalize cmpB a b = K at *
  go_enter Try.func3, Try.ntmps3
  by_cases g1 : l.length ≤ 1000
  · obtain ⟨ra, na⟩ := a
    obtain ⟨rb, nb⟩ := b
    go_upto_region 4 with fail
    generalize ((w.alloc (.cells #[.int .u64 (ra : Int), .int .i64 na] 24)).alloc (.cells #[.int .u64 (rb : Int), .int .i64 nb] 24)) = w0 at *
    obtain ⟨x0, x1⟩ := HD.out.x.two
    obtain ⟨y0, y1⟩ := HD.out.y.two
    go_wp2_with fail
    refine (Aab _).out.mono ?_
    rintro e w1 ⟨rfl, hb1⟩
    have H1 := hide (HD.out.go hb1)
    clear hb1 HD x0 x1 y0 y1
    obtain ⟨x0, x1⟩ := H1.out.x.two
    obtain ⟨y0, y1⟩ := H1.out.y.two
    go_upto_if 28 with fail
    go_cut [11] from 29 to 31 (fun s u => s = .int .i64 K ∧ Duo w w.heap.size (w.heap.size + 1) ⟨ra, na⟩ ⟨rb, nb⟩ u)
    case first =>
      cases A1 with
      | true =>
        go_wp2_with fail
        go_meet
        case rel => exact ⟨by rw [HCm.out]; rfl, H1.out⟩
      | false =>
        go_wp2_with fail
        refine (Aba _).out.mono ?_
        rintro e w2 ⟨rfl, hb2⟩
        have H2 := hide (H1.out.go hb2)
        clear hb2 H1 x0 x1 y0 y1
        cases A2 with
        | true =>
          go_wp2_with fail
          go_meet
          case rel => exact ⟨by rw [HCm.out]; rfl, H2.out⟩
        | false =>
          go_wp2_with fail
          go_meet
          case rel => exact ⟨by rw [HCm.out]; rfl, H2.out⟩
    obtain ⟨rfl, h⟩ := hcut
    have H3 := hide h
    clear h H1 x0 x1 y0 y1 Aab Aba HCm
    have HSS : Hid (∀ z, Duo w w.heap.size (w.heap.size + 1) ⟨ra, na⟩ ⟨rb, nb⟩ z → ((z.cell? ⟨w.heap.size, 0, none⟩ = some (.int .u64 (ra : Int)) ∧ z.cell? ⟨w.heap.size, 1, none⟩ = some (.int .i64 na)) ∧ (z.cell? ⟨w.heap.size + 1, 0, none⟩ = some (.int .u64 (rb : Int)) ∧ z.cell? ⟨w.heap.size + 1, 1, none⟩ = some (.int .i64 nb)))) := fun z h => ⟨h.x.two, h.y.two⟩
    go_upto_region 8 with fail
    refine wp_region_held_drew (S := fun z => (z.cell? ⟨w.heap.size, 0, none⟩ = some (.int .u64 (ra : Int)) ∧ z.cell? ⟨w.heap.size, 1, none⟩ = some (.int .i64 na)) ∧ (z.cell? ⟨w.heap.size + 1, 0, none⟩ = some (.int .u64 (rb : Int)) ∧ z.cell? ⟨w.heap.size + 1, 1, none⟩ = some (.int .i64 nb))) (by kernel_rfl) (HSS.out _ H3.out.drew) (fun hHeld => ?_)
    (try dsimp only at hHeld)
    refine takeAtQ 0 32 (v := ?v_r8x88_0) rfl rfl (by kernel_rfl) (by kernel_rfl) (by kernel_rfl) (fun _ _ _ h => h) (Or.inl ⟨by rfl, ?hy_r8x88_0⟩) (by assumption) ?rest_r8x88_0
    case hy_r8x88_0 => (intro w hSw; (try dsimp only at hSw); go_simp; first | done | with_reducible rfl)
    simp only [List.setIfInBounds_toArray, List.set_cons_succ, List.set_cons_zero]
    refine takeAtQ 2 34 (v := ?v_r8x88_2) rfl rfl (by kernel_rfl) (by kernel_rfl) (by kernel_rfl) (fun _ _ _ h => h) (Or.inl ⟨by rfl, ?hy_r8x88_2⟩) (by assumption) ?rest_r8x88_2
    case hy_r8x88_2 => (intro w hSw; (try dsimp only at hSw); go_simp; first | done | with_reducible rfl)
    simp only [List.setIfInBounds_toArray, List.set_cons_succ, List.set_cons_zero]
    refine wpAnyH_ready (rs := [1]) (by kernel_rfl) (by simp) ?_
    refine AllReadyH.cons (o := { dst := some 33, op := Go.Op.call { callee := Go.Callee.value (Go.Operand.func 9), args := #[Go.Operand.tmp 32], argTypes := #[24] }, type := 4, pos := "law.go:29", after := #[{ on := 0, ground := Go.Ground.data }], guard := none }) rfl (fun K hK => ?_) AllReadyH.nil
    go_simp
    refine (Mp _).out.mono ?_
    rintro e z1 ⟨rfl, hb1⟩
    have H4 := hide (H3.out.drew.go hb1)
    clear hb1
    go_wp2_with fail
    refine hK.out _ _ (HSS.out _ H4.out) (fun hHeldN => ?_)
    clear hK K hHeld
    (try go_frame)
    have hHeld := hHeldN
    clear hHeldN
    (try dsimp only at hHeld)
    refine wpAnyH_ready (rs := [3]) (by kernel_rfl) (by simp) ?_
    refine AllReadyH.cons (o := { dst := some 35, op := Go.Op.call { callee := Go.Callee.value (Go.Operand.func 10), args := #[Go.Operand.tmp 34], argTypes := #[24] }, type := 4, pos := "law.go:29", after := #[{ on := 2, ground := Go.Ground.data }, { on := 1, ground := Go.Ground.chain }], guard := none }) rfl (fun K hK => ?_) AllReadyH.nil
    go_simp
    refine (Mr _).out.mono ?_
    rintro e z2 ⟨rfl, hb2⟩
    have H5 := hide (H4.out.go hb2)
    clear hb2
    go_wp2_with fail
    refine hK.out _ _ (HSS.out _ H5.out) (fun hHeldN => ?_)
    clear hK K hHeld
    (try go_frame)
    have hHeld := hHeldN
    clear hHeldN
    (try dsimp only at hHeld)
    refine takeAtQ 4 36 (v := ?v_r8x88_4) rfl rfl (by kernel_rfl) (by kernel_rfl) (by kernel_rfl) (fun _ _ _ h => h) (Or.inl ⟨by rfl, ?hy_r8x88_4⟩) (by assumption) ?rest_r8x88_4
    case hy_r8x88_4 => (intro w hSw; (try dsimp only at hSw); go_simp; first | done | with_reducible rfl)
    simp only [List.setIfInBounds_toArray, List.set_cons_succ, List.set_cons_zero]
    refine takeAtQ 5 37 (v := ?v_r8x88_5) rfl rfl (by kernel_rfl) (by kernel_rfl) (by kernel_rfl) (fun _ _ _ h => h) (Or.inl ⟨by rfl, ?hy_r8x88_5⟩) (by assumption) ?rest_r8x88_5
    case hy_r8x88_5 => (intro w hSw; (try dsimp only at hSw); go_simp; first | done | with_reducible rfl)
    simp only [List.setIfInBounds_toArray, List.set_cons_succ, List.set_cons_zero]
    refine takeAtQ 6 38 (v := ?v_r8x88_6) rfl rfl (by kernel_rfl) (by kernel_rfl) (by kernel_rfl) (fun _ _ _ h => h) (Or.inl ⟨by rfl, ?hy_r8x88_6⟩) (by assumption) ?rest_r8x88_6
    case hy_r8x88_6 => (intro w hSw; (try dsimp only at hSw); go_simp; first | done | with_reducible rfl)
    simp only [List.setIfInBounds_toArray, List.set_cons_succ, List.set_cons_zero]
    refine takeAtQ 7 39 (v := ?v_r8x88_7) rfl rfl (by kernel_rfl) (by kernel_rfl) (by kernel_rfl) (fun _ _ _ h => h) (Or.inl ⟨by rfl, ?hy_r8x88_7⟩) (by assumption) ?rest_r8x88_7
    case hy_r8x88_7 => (intro w hSw; (try dsimp only at hSw); go_simp; first | done | with_reducible rfl)
    simp only [List.setIfInBounds_toArray, List.set_cons_succ, List.set_cons_zero]
    refine takeAtQ 9 41 (v := ?v_r8x88_9) rfl rfl (by kernel_rfl) (by kernel_rfl) (by kernel_rfl) (fun _ _ _ h => h) (Or.inl ⟨by rfl, ?hy_r8x88_9⟩) (by assumption) ?rest_r8x88_9
    case hy_r8x88_9 => (intro w hSw; (try dsimp only at hSw); go_simp; first | done | with_reducible rfl)
    simp only [List.setIfInBounds_toArray, List.set_cons_succ, List.set_cons_zero]
    refine wpAnyH_ready (rs := [8]) (by kernel_rfl) (by simp) ?_
    refine AllReadyH.cons (o := { dst := some 40, op := Go.Op.call { callee := Go.Callee.value (Go.Operand.func 11), args := #[Go.Operand.tmp 38, Go.Operand.tmp 39], argTypes := #[24, 24] }, type := 3, pos := "law.go:29", after := #[{ on := 6, ground := Go.Ground.data }, { on := 7, ground := Go.Ground.data }, { on := 5, ground := Go.Ground.chain }, { on := 5, ground := Go.Ground.guard }], guard := some (5, false) }) rfl (fun K hK => ?_) AllReadyH.nil
    go_simp
    refine (Kc _).out.mono ?_
    rintro e z3 ⟨rfl, hb3⟩
    have H6 := hide (H5.out.go hb3)
    clear hb3
    go_wp2_with fail
    refine hK.out _ _ (HSS.out _ H6.out) (fun hHeldN => ?_)
    clear hK K hHeld
    (try go_frame)
    have hHeld := hHeldN
    clear hHeldN
    (try dsimp only at hHeld)
    refine takeAtQ 10 42 (v := ?v_r8x88_10) rfl rfl (by kernel_rfl) (by kernel_rfl) (by kernel_rfl) (fun _ _ _ h => h) (Or.inl ⟨by rfl, ?hy_r8x88_10⟩) (by assumption) ?rest_r8x88_10
    case hy_r8x88_10 => (intro w hSw; (try dsimp only at hSw); go_simp; first | done | with_reducible rfl)
    simp only [List.setIfInBounds_toArray, List.set_cons_succ, List.set_cons_zero]
    refine takeAtQ 11 43 (v := ?v_r8x88_11) rfl rfl (by kernel_rfl) (by kernel_rfl) (by kernel_rfl) (fun _ _ _ h => h) (Or.inl ⟨by rfl, ?hy_r8x88_11⟩) (by assumption) ?rest_r8x88_11
    case hy_r8x88_11 => (intro w hSw; (try dsimp only at hSw); go_simp; first | done | with_reducible rfl)
    simp only [List.setIfInBounds_toArray, List.set_cons_succ, List.set_cons_zero]
    refine wpAnyH_done (by kernel_rfl) ?_ _
    clear hHeld
    clear H3 H4 H5 HSS Mp Kc
    obtain ⟨x0, x1⟩ := H6.out.x.two
    have KN := fun u => hide (HC.out.next ⟨ra, na⟩ nd u HO.out.1 HI.out.1)
    have KR := fun u h1 h2 => hide (rNext ⟨ra, na⟩ nd u HO.out.1 h1 h2)
    have HNo : Hid (may ⟨ra, na⟩ = false ∨ node nd = false → next ⟨ra, na⟩ nd = (noBl, 2)) := fun h => by
      unfold next
      rw [if_pos]
      rcases h with h | h
      · rw [h]; rfl
      · rw [h]; simp
    generalize next ⟨ra, na⟩ nd = N at *
    obtain ⟨⟨rx, nx⟩, e0⟩ := N
    simp only at KN KR
    go_wp2_with fail
    refine (KN _).out.mono ?_
    rintro e z4 ⟨rfl, hb4⟩
    have H7 := hide (H6.out.go hb4)
    clear hb4 H6 x0 x1 KN
    have HU : Hid (Duo w w.heap.size (w.heap.size + 1) ⟨ra, na⟩ ⟨rb, nb⟩ ((z4.alloc (.cells #[.int .u64 (rx : Int), .int .i64 nx] 24)).alloc (.cells #[.int .u64 0, .int .i64 0] 24)) ∧ Duo z4 z4.heap.size (z4.heap.size + 1) ⟨rx, nx⟩ noBl ((z4.alloc (.cells #[.int .u64 (rx : Int), .int .i64 nx] 24)).alloc (.cells #[.int .u64 0, .int .i64 0] 24)) ∧ w.heap.size ≤ z4.heap.size) := ⟨H7.out.go (two_below _ _ _), Duo.new z4 ⟨rx, nx⟩ noBl, H7.out.below.size⟩
    go_upto_region 12 with fail
    generalize (z4.alloc (.cells #[.int .u64 (rx : Int), .int .i64 nx] 24)).alloc (.cells #[.int .u64 0, .int .i64 0] 24) = z5 at *
    have HX0 := hide HU.out.2.1.x
    have HY0 := hide HU.out.2.1.y
    have HD0 := hide HU.out.1
    have HBd := hide HU.out.2.2
    clear HU H7
    generalize z4.heap.size = X at *
    go_cut [60] from 51 to 59 (fun s u => s = .bool (may ⟨ra, na⟩ && node nd) ∧ Below z5.heap.size z5 u)
    case first =>
      obtain ⟨x0, x1⟩ := HD0.out.x.two
      have HNd : Hid (node nd = decide (0 ≤ nd ∧ nd < 7)) := rfl
      clear HNo KR
      generalize may ⟨ra, na⟩ = M at *
      generalize node nd = ND at *
      go_wp2_with fail
      refine (Mr _).out.mono ?_
      rintro e z6 ⟨rfl, hb6⟩
      have HB6 := hide hb6
      clear hb6
      cases M with
      | false =>
        go_wp2_with fail
        go_meet
        case rel => exact ⟨rfl, HB6.out⟩
      | true =>
        by_cases k1 : 0 ≤ nd
        · have HE : Hid ((true && ND) = decide (nd < 7)) := by
            unfold Hid
            rw [HNd.out]
            show decide (0 ≤ nd ∧ nd < 7) = _
            exact decide_eq_decide.2 (by omega)
          go_wp2_with fail
          go_meet
          case rel => exact ⟨by rw [HE.out], HB6.out⟩
        · have HE : Hid ((true && ND) = false) := by
            unfold Hid
            rw [HNd.out]
            show decide (0 ≤ nd ∧ nd < 7) = _
            exact decide_eq_false (by omega)
          go_wp2_with fail
          go_meet
          case rel => exact ⟨by rw [HE.out], HB6.out⟩
    obtain ⟨rfl, hb6⟩ := hcut
    have HX := hide (HX0.out.below hb6)
    have HY := hide (HY0.out.below hb6)
    have HD := hide (HD0.out.go hb6)
    clear hb6 HX0 HY0 HD0 Mr
    obtain ⟨G, hG⟩ : ∃ G, (may ⟨ra, na⟩ && node nd) = G := ⟨_, rfl⟩
    rw [hG]
    have HG := hide hG
    clear hG
    go_upto_if 60 with fail
    go_cut [15] from 61 to 66 (fun s u => s = .int .i64 (e0 : Int) ∧ Box u X #[.int .u64 (rx : Int), .int .i64 nx] 24 ∧ Box u (X + 1) #[.int .u64 (rx : Int), .int .i64 nx] 24 ∧ Below w.heap.size w u)
    case first =>
      cases G with
      | false =>
        obtain ⟨he1, he2⟩ := Prod.mk.inj (HNo.out (Bool.and_eq_false_iff.1 HG.out))
        obtain ⟨he3, he4⟩ := Bl.mk.inj he1
        subst he2
        subst he3
        subst he4
        clear he1 HNo KR HG
        go_wp2_with fail
        go_meet
        case rel => exact ⟨rfl, HX.out, HY.out, HD.out.below⟩
      | true =>
        have hyes := Bool.and_eq_true_iff.1 HG.out
        have KT := fun u => KR u hyes.1 hyes.2
        clear KR hyes HNo HG
        obtain ⟨x0, x1⟩ := HD.out.x.two
        go_wp2_with fail
        refine (KT _).out.mono ?_
        rintro e z7 ⟨rfl, hb7⟩
        have HX7 := hide (HX.out.below hb7)
        have HY7 := hide (HY.out.below hb7)
        have HD7 := hide (HD.out.go hb7)
        clear hb7 HX HY HD x0 x1 KT
        obtain ⟨y0, y1⟩ := HY7.out.two
        have yf := HY7.out.free
        go_wp2_with fail
        go_meet
        case rel => exact ⟨rfl, put2_other HX7.out _ _ (by omega), HY7.out.put2 _ _, put2_below HD7.out.below (by have := HBd.out; omega) _ _⟩
    obtain ⟨rfl, hx, hy, hbb⟩ := hcut
    have HX8 := hide hx
    have HY8 := hide hy
    have HB8 := hide hbb
    clear hx hy hbb HX HY HD HNo KR HO HG
    obtain ⟨x0, x1⟩ := HX8.out.two
    obtain ⟨y0, y1⟩ := HY8.out.two
    have KM := fun z => hide (HC.out.majority n z HI.out.2)
    have KQ := fun a' c' z h => hide (HC.out.quorum a' c' l n z h g1 HL.out HI.out.2)
    obtain ⟨⟨m0, g0⟩, hmj⟩ : ∃ z, majority n = z := ⟨_, rfl⟩
    obtain ⟨⟨q0, h0⟩, hqu⟩ : ∃ z, quorum l n = z := ⟨_, rfl⟩
    simp only [hmj] at KM
    simp only [hqu] at KQ
    have HMj := hide hmj
    have HQu := hide hqu
    clear hmj hqu HC
    go_wp2_with fail
    refine (KM _).out.mono ?_
    rintro e z9 ⟨rfl, hb9⟩
    have HB9 := hide (HB8.out.trans (hb9.mono HB8.out.size))
    have HPc := hide (HP.out.old HB9.out)
    clear hb9 HB8 HX8 HY8 x0 x1 y0 y1 KM
    go_wp2_with (at_builtin; refine wpList_copy rfl _ _ rfl rfl _ _ _ rfl HPc.out HPn.out (by omega) ?_)
    intro a1 c1 z10 hi10 hb10
    have HB10 := hide (HB9.out.trans (hb10.mono HB9.out.size))
    have KQ' := KQ a1 c1 z10 hi10
    clear hi10 hb10 HB9 HPc KQ
    go_wp2_with fail
    refine KQ'.out.mono ?_
    rintro e z11 ⟨rfl, hb11⟩
    have HB11 := hide (HB10.out.trans (hb11.mono HB10.out.size))
    clear hb11 HB10 KQ' HBd
    by_cases k1 : 1 ≤ n
    · by_cases k2 : n ≤ 7
      · obtain ⟨k, rfl⟩ : ∃ k : Nat, n = (k : Int) := ⟨n.toNat, by omega⟩
        have hs : size (k : Int) = true := (size_iff _).2 ⟨k1, k2⟩
        have hm1 := HMj.out
        have hq1 := HQu.out
        unfold majority at hm1
        unfold quorum at hq1
        rw [hs, if_pos rfl] at hm1 hq1
        rw [Int.toNat_natCast] at hm1 hq1
        obtain ⟨e1, e2⟩ := Prod.mk.inj hm1
        subst e2
        have hmi : (k : Int) / 2 + 1 = (m0 : Int) := by omega
        have KR1 := fun z => hide (rMajority k z (by omega) (by omega))
        simp only [hmi] at KR1
        have HQ1 := hide hq1
        have KR2 := fun z h => hide (rQuorum p c l k z h g1 (by omega) (by omega))
        have HKk : Hid (1 ≤ k ∧ k ≤ 7) := by unfold Hid; omega
        clear hm1 hq1 HMj HQu hs hmi e1
        go_wp2_with fail
        refine (KR1 _).out.mono ?_
        rintro e z12 ⟨rfl, hz⟩
        obtain rfl := hz.symm
        clear hz KR1
        go_wp2_with fail
        have HPc := hide (HP.out.old HB11.out)
        have HQ2 := hide (KR2 z11 HPc.out)
        clear KR2
        go_loop [20, 21] (fun mv iv => ∃ x : Nat, x ≤ l.length ∧ iv = .int .i64 (x : Int) ∧ mv = .bool (allIn (l.take x) (k : Int))) (fun _ iv => l.length - (intOf iv).toNat)
        case atStart => exact ⟨0, Nat.zero_le _, rfl, rfl⟩
        case round =>
          obtain ⟨x, hx, rfl, rfl⟩ := hrel
          by_cases hlt : x < l.length
          · have HT := hide (allIn_next l x (k : Int) hlt)
            obtain ⟨b1, o1, e1, hc⟩ := HPc.out.there (by omega)
            subst e1
            have c0 := hc x hlt
            clear hc
            generalize l[x] = V at *
            cases hd : allIn (l.take x) (k : Int) with
            | false =>
              rw [hd] at HT
              go_wp2
              go_round
              case rel => exact ⟨x + 1, hlt, by go_num, by rw [HT.out]; rfl⟩
              case measure => simp [intOf]; omega
            | true =>
              rw [hd] at HT
              by_cases hv : 0 ≤ V
              · have HE : Hid (decide (0 ≤ V ∧ V < (k : Int)) = decide (V < (k : Int))) := decide_eq_decide.2 (by omega)
                rw [HE.out] at HT
                go_wp2
                go_round
                case rel => exact ⟨x + 1, hlt, by go_num, by rw [HT.out]; rfl⟩
                case measure => simp [intOf]; omega
              · have HE : Hid (decide (0 ≤ V ∧ V < (k : Int)) = false) := decide_eq_false (by omega)
                rw [HE.out] at HT
                go_wp2
                go_round
                case rel => exact ⟨x + 1, hlt, by go_num, by rw [HT.out]; rfl⟩
                case measure => simp [intOf]; omega
          · have hx2 : x = l.length := by omega
            subst hx2
            rw [List.take_length]
            have hq := HQ1.out
            cases hd : allIn l (k : Int) with
            | false =>
              rw [hd] at hq
              obtain ⟨e3, e4⟩ := Prod.mk.inj hq
              subst e3
              subst e4
              clear hq HQ1 HQ2
              go_wp2_with fail
              refine (KW.out _).mono ?_
              rintro e z15 ⟨rfl, hb15⟩
              go_wp2
              go_ret
              exact ⟨rfl, HB11.out.trans (hb15.mono HB11.out.size)⟩
            | true =>
              rw [hd, if_pos rfl] at hq
              obtain ⟨e3, e4⟩ := Prod.mk.inj hq
              subst e4
              rw [e3] at HQ2
              clear hq HQ1 e3
              go_wp2_with fail
              refine HQ2.out.mono ?_
              rintro e z14 ⟨rfl, hz⟩
              obtain rfl := hz.symm
              clear hz HQ2
              go_wp2_with fail
              refine (KW.out _).mono ?_
              rintro e z15 ⟨rfl, hb15⟩
              go_wp2
              go_ret
              exact ⟨rfl, HB11.out.trans (hb15.mono HB11.out.size)⟩
      · have hs : size n = false := by
          cases hh : size n with
          | false => rfl
          | true => have := (size_iff n).1 hh; omega
        have hm1 := HMj.out
        have hq1 := HQu.out
        unfold majority at hm1
        unfold quorum at hq1
        rw [hs] at hm1 hq1
        obtain ⟨e1, e2⟩ := Prod.mk.inj hm1
        obtain ⟨e3, e4⟩ := Prod.mk.inj hq1
        subst e1
        subst e2
        subst e3
        subst e4
        have k3 : decide (n ≤ 7) = false := decide_eq_false k2
        clear hm1 hq1 HMj HQu hs
        go_wp2_with fail
        refine (KW.out _).mono ?_
        rintro e z9 ⟨rfl, hb9⟩
        go_wp2
        go_ret
        exact ⟨rfl, HB11.out.trans (hb9.mono HB11.out.size)⟩
    · have hs : size n = false := by
        cases hh : size n with
        | false => rfl
        | true => have := (size_iff n).1 hh; omega
      have hm1 := HMj.out
      have hq1 := HQu.out
      unfold majority at hm1
      unfold quorum at hq1
      rw [hs] at hm1 hq1
      obtain ⟨e1, e2⟩ := Prod.mk.inj hm1
      obtain ⟨e3, e4⟩ := Prod.mk.inj hq1
      subst e1
      subst e2
      subst e3
      subst e4
      clear hm1 hq1 HMj HQu hs
      go_wp2_with fail
      refine (KW.out _).mono ?_
      rintro e z9 ⟨rfl, hb9⟩
      go_wp2
      go_ret
      exact ⟨rfl, HB11.out.trans (hb9.mono HB11.out.size)⟩
  · go_wp2_with fail
    refine (KW.out _).mono ?_
    rintro e z9 ⟨rfl, hb9⟩
    go_wp2
    go_ret
    exact ⟨rfl, HD.out.below.trans (hb9.mono HD.out.below.size)⟩
end Go.Proofs.Ytmpabcojdkpiaaa
