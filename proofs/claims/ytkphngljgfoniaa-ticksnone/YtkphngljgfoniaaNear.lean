/- The law TicksNear, over the contracts. -/
import Derived.Test.YtkphngljgfoniaaPlays
namespace Go.Proofs.Ytkphngljgfoniaa
open Go Go.RowKit

/-- The clocks, and a row of numbers beside them. -/
structure Near (TAt : World → Nat → Ck → (Nat → Prop) → Prop) (B : Nat) (W u : World) (p g n : Nat) (c : Ck) (F : Nat → Prop) (bs : List Int) : Prop where
  dd : TAt u p c F
  ok : c.Ok
  row : NumsAt u g n bs
  apart : ∀ i, F i → i ≠ g
  own : ∀ i, F i → B ≤ i
  ownG : B ≤ g
  below : Below B W u
  base : B ≤ W.heap.size
theorem Near.size {TAt : World → Nat → Ck → (Nat → Prop) → Prop} {B : Nat} {W u : World} {p g n : Nat} {c : Ck} {F : Nat → Prop} {bs : List Int} (h : Near TAt B W u p g n c F bs) : B ≤ u.heap.size := Nat.le_trans h.base h.below.size
theorem Near.old {TAt : World → Nat → Ck → (Nat → Prop) → Prop} (C : Con TAt) {B : Nat} {W u v : World} {p g n : Nat} {c : Ck} {F : Nat → Prop} {bs : List Int} (h : Near TAt B W u p g n c F bs) (hb : Below u.heap.size u v) : Near TAt B W v p g n c F bs :=
  ⟨C.below h.dd hb, h.ok, h.row.below hb, h.apart, h.own, h.ownG, h.below.trans (hb.mono h.size), h.base⟩
theorem Near.drew {TAt : World → Nat → Ck → (Nat → Prop) → Prop} (C : Con TAt) {B : Nat} {W u : World} {p g n : Nat} {c : Ck} {F : Nat → Prop} {bs : List Int} (h : Near TAt B W u p g n c F bs) : Near TAt B W u.drew p g n c F bs := h.old C (below_drewN (Below.refl _ _) 1)
theorem Near.step {TAt : World → Nat → Ck → (Nat → Prop) → Prop} {B : Nat} {W u v : World} {p g n : Nat} {c c' : Ck} {F F' : Nat → Prop} {bs : List Int} (h : Near TAt B W u p g n c F bs) (hd : TAt v p c' F') (hok : c'.Ok) (hl : Loc F F' u v) : Near TAt B W v p g n c' F' bs :=
  ⟨hd, hok, h.row.same (hl.block g h.row.lt (fun hF => h.apart g hF rfl)), fun i hi => (by
    rcases hl.own i hi with h1 | h1
    · exact h.apart i h1
    · have := h.row.lt; omega), hl.beyond h.own h.size, h.ownG, h.below.trans (hl.below h.own h.size), h.base⟩
theorem Near.set {TAt : World → Nat → Ck → (Nat → Prop) → Prop} (C : Con TAt) {B : Nat} {W u : World} {p g n : Nat} {c : Ck} {F : Nat → Prop} {bs : List Int} (h : Near TAt B W u p g n c F bs) (k : Nat) (x : Int) : Near TAt B W (u.setCell ⟨g, k, none⟩ (.int .i64 x)) p g n c F (bs.set k x) :=
  ⟨C.same h.dd (fun i hi => Below.heap_setCell u ⟨g, k, none⟩ _ i (h.apart i hi)), h.ok, h.row.set k x, h.apart, h.own, h.ownG, h.below.setCell (p := ⟨g, k, none⟩) h.ownG _, h.base⟩
/-- What stands in the row in the midst of the look. -/
theorem mix_set (a b : List Int) (h : a.length = b.length) (k : Nat) (hk : k < a.length) : (a.take k ++ b.drop k).set k a[k] = a.take (k + 1) ++ b.drop (k + 1) := by
  have e1 : (a.take k).length = k := by rw [List.length_take]; omega
  rw [List.set_append_right _ _ (by omega), e1, Nat.sub_self, List.drop_eq_getElem_cons (by omega : k < b.length), List.set_cons_zero, List.take_succ_eq_append_getElem hk, List.append_assoc]
  rfl
theorem mix_at (a b : List Int) (h : a.length = b.length) (k : Nat) (hk : k < a.length) : (a.take k ++ b.drop k)[k]? = b[k]? := by
  have e1 : (a.take k).length = k := by rw [List.length_take]; omega
  rw [List.getElem?_append_right (by omega), e1, Nat.sub_self, List.getElem?_drop]
  rfl
theorem mix_len (a b : List Int) (h : a.length = b.length) (k : Nat) (hk : k ≤ a.length) : (a.take k ++ b.drop k).length = a.length := by
  rw [List.length_append, List.length_take, List.length_drop]; omega
/-- What is counted from far off is the same. -/
theorem apart_far {l : List Int} (h : Times l) (hs : 1 ≤ l.length) : high (-1) l - low 4611686018427387904 l = apart l := by
  obtain ⟨x, m, rfl⟩ : ∃ x m, l = x :: m := by cases l with | nil => simp at hs | cons x m => exact ⟨x, m, rfl⟩
  have hx := h x (List.mem_cons_self ..)
  unfold apart
  rw [high_any (x :: m) (-1) x ⟨x, List.mem_cons_self .., by omega⟩ ⟨x, List.mem_cons_self .., Int.le_refl _⟩, low_any (x :: m) 4611686018427387904 x ⟨x, List.mem_cons_self .., by omega⟩ ⟨x, List.mem_cons_self .., Int.le_refl _⟩]
  rfl
theorem low_far {l : List Int} (h : Times l) (k : Nat) : 0 ≤ low 4611686018427387904 (l.take k) ∧ low 4611686018427387904 (l.take k) ≤ 4611686018427387904 := by
  refine ⟨?_, (low_le _ _).1⟩
  rcases low_mem (l.take k) 4611686018427387904 with e | e
  · rw [e]; decide
  · exact (h.take k _ e).1
theorem high_far {l : List Int} (h : Times l) (k : Nat) : -1 ≤ high (-1) (l.take k) ∧ high (-1) (l.take k) ≤ 17592186044416 := by
  refine ⟨(high_le _ _).1, ?_⟩
  rcases high_mem (l.take k) (-1) with e | e
  · rw [e]; decide
  · exact (h.take k _ e).2
set_option maxRecDepth 10000 in
set_option maxHeartbeats 8000000 in
theorem TicksNear_any {TAt : World → Nat → Ck → (Nat → Prop) → Prop} (C : Con TAt) (nn bb : Int) (a : Option Addr) (ca : Nat) (l : List (Int × Int)) (w : World) (h : StepsAt w a l) (hok : ∀ x ∈ l, I64 x.1 ∧ I64 x.2) (hnn : I64 nn) (hbb : I64 bb) (hl : l.length ≤ 140737488351232) :
    Calls Try.prog 4 #[.int .i64 nn, .int .i64 bb, .slice a l.length ca] w fun e w' => e = .returned (.bool true) ∧ Below w.heap.size w w' := by
  have HC := hide C
  have HS := hide h
  have HOk := hide hok
  clear C h hok
  by_cases h300 : 300 < l.length
  · have KA := hide (alive_any HC.out w)
    have hz : (300 : Int) < (l.length : Int) := by omega
    go_enter Try.func4, Try.ntmps4
    go_wp2_with fail
    refine KA.out.mono ?_
    rintro e w5 ⟨rfl, hb5⟩
    have HB5 := hide hb5
    clear hb5
    go_wp2
    go_ret
    exact ⟨rfl, HB5.out⟩
  have hz : ¬ (300 : Int) < (l.length : Int) := by omega
  by_cases hin : 1 ≤ nn ∧ nn ≤ 128 ∧ 0 ≤ bb ∧ bb ≤ 17592186044416
  rotate_left 1
  · have KN := hide (HC.out.newNot nn bb w hnn hbb hin)
    clear hin hnn hbb
    go_enter Try.func4, Try.ntmps4
    go_wp2_with fail
    refine KN.out.mono ?_
    rintro e w1 ⟨rfl, hb1⟩
    have HB1 := hide hb1
    clear hb1 KN
    have KA := hide (alive_any HC.out w1)
    go_wp2_with fail
    refine KA.out.mono ?_
    rintro e w5 ⟨rfl, hb5⟩
    have HB5 := hide (bnext HB1.out hb5)
    clear hb5
    go_wp2
    go_ret
    exact ⟨rfl, HB5.out⟩
  obtain ⟨n, rfl⟩ : ∃ n : Nat, nn = (n : Int) := ⟨nn.toNat, by omega⟩
  have hn1 : 1 ≤ n := by omega
  have hn2 : n ≤ 128 := by omega
  have hb0 : 0 ≤ bb ∧ bb ≤ 17592186044416 := hin.2.2
  have KN := hide (HC.out.new n bb w hn1 hn2 hin.2.2.1 hin.2.2.2)
  have HO0 := hide (Ck.Ok.new hn1 hn2 hin.2.2)
  clear hin hnn hbb
  go_enter Try.func4, Try.ntmps4
  go_wp2_with fail
  refine KN.out.mono ?_
  rintro e w1 ⟨p, F, rfl, h1, hF, hb1⟩
  have H1 := hide (Has.mk (W := w) (B := w.heap.size) h1 HO0.out hF hb1)
  clear h1 hF hb1 KN
  have KL := fun u (hu : TAt u p (Ck.new n bb) F) => hide (HC.out.len p _ F u hu HO0.out)
  rw [show (Ck.new n bb).t.length = n from List.length_replicate] at KL
  go_wp2_with fail
  refine (KL _ H1.out.at_).out.mono ?_
  rintro e w2 ⟨rfl, hb⟩
  have H2 := hide (H1.out.old HC.out hb H1.out.below.size)
  clear hb H1
  go_wp2_with fail
  refine (KL _ H2.out.at_).out.mono ?_
  rintro e w3 ⟨rfl, hb⟩
  have H3 := hide (H2.out.old HC.out hb H2.out.below.size)
  clear hb H2
  go_wp2_with fail
  refine (KL _ H3.out.at_).out.mono ?_
  rintro e w4 ⟨rfl, hb⟩
  have H4 := hide (H3.out.old HC.out hb H3.out.below.size)
  clear hb H3 KL
  have hmk := nmake n (by omega) w4
  have HR := hide (NumsAt.new w4 n (by omega))
  rw [show Array.replicate n (Value.int .i64 0) = zeros n from rfl] at HR
  have HAB := hide ((Below.refl w4.heap.size w4).alloc (Nat.le_refl _) (.cells (zeros n) 2))
  generalize zeros n = Z at *
  have HB0 : Hid (Near TAt w.heap.size w (w4.alloc (.cells Z 2)) p w4.heap.size n (Ck.new n bb) F (Ck.new n bb).t) :=
    ⟨HC.out.below H4.out.at_ HAB.out, HO0.out, HR.out, fun i hi => (by have := HC.out.lt H4.out.at_ i hi; omega), H4.out.own, H4.out.below.size, H4.out.below.trans (HAB.out.mono H4.out.below.size), Nat.le_refl _⟩
  have HLn : Hid ((Ck.new n bb).t.length = n ∧ (Ck.new n bb).b = bb ∧ decide ((Ck.new n bb).m ≤ bb) = true) := ⟨List.length_replicate, rfl, decide_eq_true hb0.1⟩
  clear HR HAB H4
  go_wp2_with fail
  generalize (w4.alloc (.cells Z 2)) = W1 at *
  generalize w4.heap.size = g at *
  clear hmk
  go_loopw [10, 11, 12, 13, 14, 15, 16] (fun ws i _ _ _ _ _ wr => ∃ (j : Nat) (c : Ck) (F : Nat → Prop), j ≤ l.length ∧ i = .int .i64 (j : Int) ∧ ws = .bool (decide (c.m ≤ bb)) ∧ Near TAt w.heap.size w wr p g n c F c.t ∧ c.t.length = n ∧ c.b = bb) (fun _ i _ _ _ _ _ _ => l.length - (intOf i).toNat)
  case atStart => exact ⟨0, Ck.new n bb, F, Nat.zero_le _, rfl, by rw [HLn.out.2.2], HB0.out, HLn.out.1, HLn.out.2.1⟩
  case round =>
    obtain ⟨j, c, F1, hj, rfl, rfl, hB, hln, hcb⟩ := hrel
    have HB := hide hB
    clear hB HB0
    by_cases hlt : j < l.length
    · obtain ⟨b, off, rfl, e1, e2⟩ := HS.out.there j hlt
      obtain ⟨hx, hy⟩ := HOk.out _ (List.getElem_mem hlt)
      have hbw := World.block_lt_of_cell? w _ e1
      have HSS : Hid (∀ z, Below w.heap.size w z → z.cell? ⟨b, off + j * 2, none⟩ = some (.int .i64 l[j].1) ∧ z.cell? ⟨b, off + j * 2 + 1, none⟩ = some (.int .i64 l[j].2)) := fun z hz => ⟨(hz.cell (p := ⟨b, off + j * 2, none⟩) hbw).trans e1, (hz.cell (p := ⟨b, off + j * 2 + 1, none⟩) hbw).trans e2⟩
      have hok1 := HB.out.ok.tick l[j].1 l[j].2
      have HLn1 : Hid ((c.tick l[j].1 l[j].2).2.t.length = n ∧ (c.tick l[j].1 l[j].2).2.b = bb ∧ c.t.length = n) := ⟨(Ck.tick_len c _ _).trans hln, (Ck.tick_bound c _ _).trans hcb, hln⟩
      have HM : Hid ((c.tick l[j].1 l[j].2).2.m = max c.m (apart (c.tick l[j].1 l[j].2).2.t)) := Ck.tick_most HB.out.ok _ _
      have HUp : Hid (∀ i (hi : i < c.t.length), c.t[i] ≤ (c.tick l[j].1 l[j].2).2.t.getD i 0) := fun i hi => Ck.tick_up c _ _ i hi
      have KT : Hid (∀ u F, TAt u p c F → Calls Try.prog 11 #[.pointer (some ⟨p, 0, none⟩), .int .i64 l[j].1, .int .i64 l[j].2] u fun e v => e = .returned (.int .i64 (((c.tick l[j].1 l[j].2).1 : Nat) : Int)) ∧ ∃ F', TAt v p (c.tick l[j].1 l[j].2).2 F' ∧ Loc F F' u v) := fun u F h => HC.out.tick p c F _ _ u h HB.out.ok hx hy
      have K0 := hide (HB.out.drew HC.out)
      clear e1 e2 hx hy hln hcb HB
      generalize l[j].1 = x at *
      generalize l[j].2 = y at *
      generalize c.tick x y = T at *
      obtain ⟨r, d⟩ := T
      have HOk1 := hide hok1
      clear hok1
      generalize hws : decide (c.m ≤ bb) = ws at *
      have HWs := hide hws
      clear hws
      go_wp2_with fail
      refine wp_region_held_drew (S := fun z => z.cell? ⟨b, off + j * 2, none⟩ = some (.int .i64 x) ∧ z.cell? ⟨b, off + j * 2 + 1, none⟩ = some (.int .i64 y)) (by kernel_rfl) (HSS.out _ K0.out.below) (fun hHeld => ?_)
      (try dsimp only at hHeld)
      refine takeAtQ 0 55 (v := ?v_r13_0) rfl rfl (by kernel_rfl) (by kernel_rfl) (by kernel_rfl) (fun _ _ _ h => h) (Or.inl ⟨by rfl, ?hy_r13_0⟩) (by assumption) ?rest_r13_0
      case hy_r13_0 => (intro w hSw; (try dsimp only at hSw); go_simp; first | done | with_reducible rfl)
      simp only [List.setIfInBounds_toArray, List.set_cons_succ, List.set_cons_zero]
      refine takeAtQ 1 56 (v := ?v_r13_1) rfl rfl (by kernel_rfl) (by kernel_rfl) (by kernel_rfl) (fun _ _ _ h => h) (Or.inl ⟨by rfl, ?hy_r13_1⟩) (by assumption) ?rest_r13_1
      case hy_r13_1 => (intro w hSw; (try dsimp only at hSw); go_simp; first | done | with_reducible rfl)
      simp only [List.setIfInBounds_toArray, List.set_cons_succ, List.set_cons_zero]
      refine takeAtQ 2 57 (v := ?v_r13_2) rfl rfl (by kernel_rfl) (by kernel_rfl) (by kernel_rfl) (fun _ _ _ h => h) (Or.inl ⟨by rfl, ?hy_r13_2⟩) (by assumption) ?rest_r13_2
      case hy_r13_2 => (intro w hSw; (try dsimp only at hSw); go_simp; first | done | with_reducible rfl)
      simp only [List.setIfInBounds_toArray, List.set_cons_succ, List.set_cons_zero]
      refine takeAtQ 3 58 (v := ?v_r13_3) rfl rfl (by kernel_rfl) (by kernel_rfl) (by kernel_rfl) (fun _ _ _ h => h) (Or.inl ⟨by rfl, ?hy_r13_3⟩) (by assumption) ?rest_r13_3
      case hy_r13_3 => (intro w hSw; (try dsimp only at hSw); go_simp; first | done | with_reducible rfl)
      simp only [List.setIfInBounds_toArray, List.set_cons_succ, List.set_cons_zero]
      refine takeAtQ 4 59 (v := ?v_r13_4) rfl rfl (by kernel_rfl) (by kernel_rfl) (by kernel_rfl) (fun _ _ _ h => h) (Or.inl ⟨by rfl, ?hy_r13_4⟩) (by assumption) ?rest_r13_4
      case hy_r13_4 => (intro w hSw; (try dsimp only at hSw); go_simp; first | done | with_reducible rfl)
      simp only [List.setIfInBounds_toArray, List.set_cons_succ, List.set_cons_zero]
      refine takeAtQ 5 60 (v := ?v_r13_5) rfl rfl (by kernel_rfl) (by kernel_rfl) (by kernel_rfl) (fun _ _ _ h => h) (Or.inl ⟨by rfl, ?hy_r13_5⟩) (by assumption) ?rest_r13_5
      case hy_r13_5 => (intro w hSw; (try dsimp only at hSw); go_simp; first | done | with_reducible rfl)
      simp only [List.setIfInBounds_toArray, List.set_cons_succ, List.set_cons_zero]
      refine takeAtQ 6 61 (v := ?v_r13_6) rfl rfl (by kernel_rfl) (by kernel_rfl) (by kernel_rfl) (fun _ _ _ h => h) (Or.inl ⟨by rfl, ?hy_r13_6⟩) (by assumption) ?rest_r13_6
      case hy_r13_6 => (intro w hSw; (try dsimp only at hSw); go_simp; first | done | with_reducible rfl)
      simp only [List.setIfInBounds_toArray, List.set_cons_succ, List.set_cons_zero]
      refine takeAtQ 7 62 (v := ?v_r13_7) rfl rfl (by kernel_rfl) (by kernel_rfl) (by kernel_rfl) (fun _ _ _ h => h) (Or.inl ⟨by rfl, ?hy_r13_7⟩) (by assumption) ?rest_r13_7
      case hy_r13_7 => (intro w hSw; (try dsimp only at hSw); go_simp; first | done | with_reducible rfl)
      simp only [List.setIfInBounds_toArray, List.set_cons_succ, List.set_cons_zero]
      refine takeAtQ 8 63 (v := ?v_r13_8) rfl rfl (by kernel_rfl) (by kernel_rfl) (by kernel_rfl) (fun _ _ _ h => h) (Or.inl ⟨by rfl, ?hy_r13_8⟩) (by assumption) ?rest_r13_8
      case hy_r13_8 => (intro w hSw; (try dsimp only at hSw); go_simp; first | done | with_reducible rfl)
      simp only [List.setIfInBounds_toArray, List.set_cons_succ, List.set_cons_zero]
      refine takeAtQ 9 64 (v := ?v_r13_9) rfl rfl (by kernel_rfl) (by kernel_rfl) (by kernel_rfl) (fun _ _ _ h => h) (Or.inl ⟨by rfl, ?hy_r13_9⟩) (by assumption) ?rest_r13_9
      case hy_r13_9 => (intro w hSw; (try dsimp only at hSw); go_simp; first | done | with_reducible rfl)
      simp only [List.setIfInBounds_toArray, List.set_cons_succ, List.set_cons_zero]
      refine takeAtQ 10 65 (v := ?v_r13_10) rfl rfl (by kernel_rfl) (by kernel_rfl) (by kernel_rfl) (fun _ _ _ h => h) (Or.inl ⟨by rfl, ?hy_r13_10⟩) (by assumption) ?rest_r13_10
      case hy_r13_10 => (intro w hSw; (try dsimp only at hSw); go_simp; first | done | with_reducible rfl)
      simp only [List.setIfInBounds_toArray, List.set_cons_succ, List.set_cons_zero]
      refine wpAnyH_ready (rs := [11]) (by kernel_rfl) (by simp) ?_
      refine AllReadyH.cons (o := { dst := some 66, op := Go.Op.call { callee := Go.Callee.value (Go.Operand.func 11), args := #[Go.Operand.tmp 55, Go.Operand.tmp 60, Go.Operand.tmp 65], argTypes := #[24, 3, 2] }, type := 25, pos := "law.go:76", after := #[{ on := 0, ground := Go.Ground.data }, { on := 5, ground := Go.Ground.data }, { on := 10, ground := Go.Ground.data }], guard := none }) rfl (fun K hK => ?_) AllReadyH.nil
      go_simp
      refine (KT.out _ _ K0.out.dd).mono ?_
      rintro e z1 ⟨rfl, F2, h2, l2⟩
      have K1 := hide (K0.out.step h2 HOk1.out l2)
      clear h2 l2 K0
      go_wp2_with fail
      refine hK.out _ _ (HSS.out _ K1.out.below) (fun hHeldN => ?_)
      clear hK K hHeld
      (try go_frame)
      have hHeld := hHeldN
      clear hHeldN
      (try dsimp only at hHeld)
      refine wpAnyH_done (by kernel_rfl) ?_ _
      clear hHeld
      clear KT HSS
      have KA := hide (fun s u F hu (hs : s < d.t.length) => HC.out.at_ p d F s u hu HOk1.out hs)
      have hdn := HLn1.out.1
      have hcn := HLn1.out.2.2
      have HTm := hide HOk1.out.times
      go_wp2_with fail
      go_loopw [12, 13, 14, 15, 16] (fun lo hi k _ _ wz => ∃ s : Nat, s ≤ n ∧ k = .int .i64 (s : Int) ∧ lo = .int .i64 (low 4611686018427387904 (d.t.take s)) ∧ hi = .int .i64 (high (-1) (d.t.take s)) ∧ Near TAt w.heap.size w wz p g n d F2 (d.t.take s ++ c.t.drop s)) (fun _ _ k _ _ _ => n - (intOf k).toNat)
      case atStart => exact ⟨0, Nat.zero_le _, rfl, rfl, rfl, K1.out⟩
      case round =>
        obtain ⟨s, hs, rfl, rfl, rfl, hN⟩ := hrel
        have HN := hide hN
        clear hN K1
        have hlo := low_far HTm.out s
        have hhi := high_far HTm.out s
        by_cases hsn : s < n
        · have hsd : s < d.t.length := by omega
          have hsc : s < c.t.length := by omega
          have hml := hide (mix_len d.t c.t (by omega) s (by omega))
          have KA1 := hide (KA.out s wr F2 HN.out.dd hsd)
          have HL := hide (low_next 4611686018427387904 d.t s hsd)
          have HH := hide (high_next (-1) d.t s hsd)
          have hup : c.t[s] ≤ d.t[s] := by
            have := HUp.out s hsc
            rw [List.getD_eq_getElem?_getD, List.getElem?_eq_getElem hsd] at this
            exact this
          have hy := HTm.out _ (List.getElem_mem hsd)
          have HSet : Hid (∀ z, Near TAt w.heap.size w z p g n d F2 (d.t.take s ++ c.t.drop s) → z.cell? ⟨g, s, none⟩ = some (.int .i64 c.t[s]) ∧ z.frozen? ⟨g, s, none⟩ = false ∧ Near TAt w.heap.size w (z.setCell ⟨g, s, none⟩ (.int .i64 d.t[s])) p g n d F2 (d.t.take (s + 1) ++ c.t.drop (s + 1))) := fun z hz => by
            have hl1 : s < (d.t.take s ++ c.t.drop s).length := by have := hml.out; omega
            have e1 := hz.row.cell s hl1
            have e2 := mix_at d.t c.t (by omega) s hsd
            rw [List.getElem?_eq_getElem hl1, List.getElem?_eq_getElem hsc] at e2
            rw [Option.some.inj e2] at e1
            have e3 := hz.set HC.out s d.t[s]
            rw [mix_set d.t c.t (by omega) s hsd] at e3
            exact ⟨e1, hz.row.free s, e3⟩
          clear hml
          generalize d.t[s] = yv at *
          generalize c.t[s] = xv at *
          generalize low 4611686018427387904 (d.t.take s) = lo at *
          generalize high (-1) (d.t.take s) = hi at *
          generalize h1 : low 4611686018427387904 (d.t.take (s + 1)) = lo2 at *
          generalize h2 : high (-1) (d.t.take (s + 1)) = hi2 at *
          have H1 := hide h1
          have H2 := hide h2
          clear h1 h2
          have hm1 : (if yv < lo then yv else lo) = lo2 := by have := HL.out; split <;> omega
          have hm2 : (if hi < yv then yv else hi) = hi2 := by have := HH.out; split <;> omega
          go_wp2_with fail
          refine KA1.out.mono ?_
          rintro e z2 ⟨rfl, hb⟩
          obtain ⟨f1, f2, f3⟩ := HSet.out z2 (HN.out.old HC.out hb)
          have HF3 := hide f3
          clear hb f3 HSet KA1 HN HL HH hsd hsc
          go_wp2_with fail
          exact ⟨⟨s + 1, hsn, by go_num, by rw [H1.out], by rw [H2.out], HF3.out⟩, by simp [intOf] <;> omega⟩
        · have hse : s = n := by omega
          subst hse
          have hN2 := HN.out
          have htk : d.t.take s = d.t := List.take_of_length_le (by omega)
          rw [htk, List.drop_of_length_le (by omega), List.append_nil] at hN2
          rw [htk] at hlo hhi ⊢
          have hfar := apart_far HTm.out (by omega)
          have hle := low_le d.t 4611686018427387904
          have HN2 := hide hN2
          have KD : Hid (∀ u F, TAt u p d F → Calls Try.prog 13 #[.pointer (some ⟨p, 0, none⟩)] u fun e v => e = .returned (.int .i64 (apart d.t)) ∧ Below u.heap.size u v) := fun u F h => HC.out.apart p d F u h HOk1.out
          have KW : Hid (∀ u F, TAt u p d F → Calls Try.prog 15 #[.pointer (some ⟨p, 0, none⟩)] u fun e v => e = .returned (.bool (decide (d.m ≤ bb))) ∧ Below u.heap.size u v) := fun u F h => (by have := HC.out.within p d F u h HOk1.out; rw [HLn1.out.2.1] at this; exact this)
          have hA := apart_fit HTm.out
          have hmx := HM.out
          have HEnd : Hid (∀ v, Near TAt w.heap.size w v p g s d F2 d.t → ∃ (j2 : Nat) (c2 : Ck) (F2 : Nat → Prop), j2 ≤ l.length ∧ Value.int .i64 ((j : Int) + 1) = .int .i64 (j2 : Int) ∧ Value.bool (decide (d.m ≤ bb)) = .bool (decide (c2.m ≤ bb)) ∧ Near TAt w.heap.size w v p g s c2 F2 c2.t ∧ c2.t.length = s ∧ c2.b = bb) := fun v hv => ⟨j + 1, d, F2, hlt, by go_num, rfl, hv, HLn1.out.1, HLn1.out.2.1⟩
          clear hN2 htk HTm HUp hle HN KA HM
          generalize low 4611686018427387904 d.t = lo at *
          generalize high (-1) d.t = hi at *
          generalize apart d.t = A at *
          have hws := HWs.out
          have hcn0 : d.m ≤ bb → c.m ≤ bb := fun h => by omega
          by_cases hw : d.m ≤ bb
          · rw [decide_eq_true hw] at KW HEnd
            have hwt : ws = true := by rw [← hws]; exact decide_eq_true (hcn0 hw)
            have hAb : ¬ bb < hi - lo := by omega
            subst hwt
            clear hws hcn0 HWs hmx hw
            have hAe : A = hi - lo := by omega
            subst hAe
            clear hfar
            have HM0 := hide HN2.out
            go_wp2_with fail
            refine (KD.out _ _ HM0.out.dd).mono ?_
            rintro e z3 ⟨rfl, hb⟩
            have HM1 := hide (HM0.out.old HC.out hb)
            clear hb HM0
            go_wp2_with fail
            refine (KW.out _ _ HM1.out.dd).mono ?_
            rintro e z4 ⟨rfl, hb⟩
            have HM2 := hide (HM1.out.old HC.out hb)
            clear hb HM1
            go_wp2_with fail
            refine (KW.out _ _ HM2.out.dd).mono ?_
            rintro e z5 ⟨rfl, hb⟩
            have HM3 := hide (HM2.out.old HC.out hb)
            clear hb HM2
            go_wp2_with fail
            refine (KW.out _ _ HM3.out.dd).mono ?_
            rintro e z6 ⟨rfl, hb⟩
            have HM4 := hide (HM3.out.old HC.out hb)
            clear hb HM3
            go_wp2_with fail
            refine (KW.out _ _ HM4.out.dd).mono ?_
            rintro e z7 ⟨rfl, hb⟩
            have HM5 := hide (HM4.out.old HC.out hb)
            clear hb HM4
            go_wp2_with fail
            exact ⟨HEnd.out _ HM5.out, by simp [intOf] <;> omega⟩
          · rw [decide_eq_false hw] at KW HEnd
            by_cases hc : c.m ≤ bb
            · have hwt : ws = true := by rw [← hws]; exact decide_eq_true hc
              have hAb : ¬ hi - lo ≤ bb := by omega
              subst hwt
              clear hws hcn0 HWs hmx hw hc
              have hAe : A = hi - lo := by omega
              subst hAe
              clear hfar
              have HM0 := hide HN2.out
              go_wp2_with fail
              refine (KD.out _ _ HM0.out.dd).mono ?_
              rintro e z3 ⟨rfl, hb⟩
              have HM1 := hide (HM0.out.old HC.out hb)
              clear hb HM0
              go_wp2_with fail
              refine (KW.out _ _ HM1.out.dd).mono ?_
              rintro e z4 ⟨rfl, hb⟩
              have HM2 := hide (HM1.out.old HC.out hb)
              clear hb HM1
              go_wp2_with fail
              refine (KW.out _ _ HM2.out.dd).mono ?_
              rintro e z5 ⟨rfl, hb⟩
              have HM3 := hide (HM2.out.old HC.out hb)
              clear hb HM2
              go_wp2_with fail
              refine (KW.out _ _ HM3.out.dd).mono ?_
              rintro e z6 ⟨rfl, hb⟩
              have HM4 := hide (HM3.out.old HC.out hb)
              clear hb HM3
              go_wp2_with fail
              refine (KW.out _ _ HM4.out.dd).mono ?_
              rintro e z7 ⟨rfl, hb⟩
              have HM5 := hide (HM4.out.old HC.out hb)
              clear hb HM4
              go_wp2_with fail
              exact ⟨HEnd.out _ HM5.out, by simp [intOf] <;> omega⟩
            · have hwt : ws = false := by rw [← hws]; exact decide_eq_false hc
              subst hwt
              clear hws hcn0 HWs hmx hw hc
              have hAe : A = hi - lo := by omega
              subst hAe
              clear hfar
              have HM0 := hide HN2.out
              go_wp2_with fail
              refine (KD.out _ _ HM0.out.dd).mono ?_
              rintro e z3 ⟨rfl, hb⟩
              have HM1 := hide (HM0.out.old HC.out hb)
              clear hb HM0
              go_wp2_with fail
              refine (KW.out _ _ HM1.out.dd).mono ?_
              rintro e z4 ⟨rfl, hb⟩
              have HM2 := hide (HM1.out.old HC.out hb)
              clear hb HM1
              go_wp2_with fail
              refine (KW.out _ _ HM2.out.dd).mono ?_
              rintro e z5 ⟨rfl, hb⟩
              have HM3 := hide (HM2.out.old HC.out hb)
              clear hb HM2
              go_wp2_with fail
              refine (KW.out _ _ HM3.out.dd).mono ?_
              rintro e z6 ⟨rfl, hb⟩
              have HM4 := hide (HM3.out.old HC.out hb)
              clear hb HM3
              go_wp2_with fail
              exact ⟨HEnd.out _ HM4.out, by simp [intOf] <;> omega⟩
    · have KA := hide (alive_any HC.out wr)
      clear hln hcb
      go_wp2_with fail
      refine KA.out.mono ?_
      rintro e w5 ⟨rfl, hb5⟩
      have HB5 := hide (HB.out.old HC.out hb5)
      clear hb5
      go_wp2
      go_ret
      exact ⟨rfl, HB5.out.below⟩
end Go.Proofs.Ytkphngljgfoniaa
