/- The law TicksPlay, over the contracts. -/
import Derived.Test.YtkphngljgfoniaaAlive
import Derived.Test.YtkphngljgfoniaaRefTick
import Derived.Test.YtkphngljgfoniaaHand
namespace Go.Proofs.Ytkphngljgfoniaa
open Go Go.RowKit

/-- Both clocks, side by side, and the script. -/
structure Both (TAt : World → Nat → Ck → (Nat → Prop) → Prop) (B : Nat) (W u : World) (p q g k : Nat) (c : Ck) (F : Nat → Prop) : Prop where
  dd : TAt u p c F
  rr : RAt u q g k c
  ok : c.Ok
  apart : ∀ i, F i → ¬ RF q g i
  ownD : ∀ i, F i → B ≤ i
  ownR : ∀ i, RF q g i → B ≤ i
  below : Below B W u
  base : B ≤ W.heap.size
theorem Both.size {TAt : World → Nat → Ck → (Nat → Prop) → Prop} {B : Nat} {W u : World} {p q g k : Nat} {c : Ck} {F : Nat → Prop} (h : Both TAt B W u p q g k c F) : B ≤ u.heap.size := Nat.le_trans h.base h.below.size
theorem RF.lt {u : World} {q g k : Nat} {c : Ck} (h : RAt u q g k c) : ∀ i, RF q g i → i < u.heap.size := fun i hi => by
  rcases hi with rfl | rfl
  · exact h.lt.1
  · exact h.lt.2
theorem Both.old {TAt : World → Nat → Ck → (Nat → Prop) → Prop} (C : Con TAt) {B : Nat} {W u v : World} {p q g k : Nat} {c : Ck} {F : Nat → Prop} (h : Both TAt B W u p q g k c F) (hb : Below u.heap.size u v) : Both TAt B W v p q g k c F :=
  ⟨C.below h.dd hb, h.rr.below hb, h.ok, h.apart, h.ownD, h.ownR, h.below.trans (hb.mono h.size), h.base⟩
theorem Both.drew {TAt : World → Nat → Ck → (Nat → Prop) → Prop} (C : Con TAt) {B : Nat} {W u : World} {p q g k : Nat} {c : Ck} {F : Nat → Prop} (h : Both TAt B W u p q g k c F) : Both TAt B W u.drew p q g k c F := h.old C (below_drewN (Below.refl _ _) 1)
/-- In the midst of a step: one of them has gone on, or both. -/
structure Mid (TAt : World → Nat → Ck → (Nat → Prop) → Prop) (B : Nat) (W u : World) (p q g k : Nat) (c d : Ck) (F : Nat → Prop) : Prop where
  dd : TAt u p c F
  rr : RAt u q g k d
  apart : ∀ i, F i → ¬ RF q g i
  ownD : ∀ i, F i → B ≤ i
  ownR : ∀ i, RF q g i → B ≤ i
  below : Below B W u
  base : B ≤ W.heap.size
theorem Mid.size {TAt : World → Nat → Ck → (Nat → Prop) → Prop} {B : Nat} {W u : World} {p q g k : Nat} {c d : Ck} {F : Nat → Prop} (h : Mid TAt B W u p q g k c d F) : B ≤ u.heap.size := Nat.le_trans h.base h.below.size
theorem Both.mid {TAt : World → Nat → Ck → (Nat → Prop) → Prop} {B : Nat} {W u : World} {p q g k : Nat} {c : Ck} {F : Nat → Prop} (h : Both TAt B W u p q g k c F) : Mid TAt B W u p q g k c c F := ⟨h.dd, h.rr, h.apart, h.ownD, h.ownR, h.below, h.base⟩
theorem Mid.both {TAt : World → Nat → Ck → (Nat → Prop) → Prop} {B : Nat} {W u : World} {p q g k : Nat} {c : Ck} {F : Nat → Prop} (h : Mid TAt B W u p q g k c c F) (hok : c.Ok) : Both TAt B W u p q g k c F := ⟨h.dd, h.rr, hok, h.apart, h.ownD, h.ownR, h.below, h.base⟩
theorem Mid.old {TAt : World → Nat → Ck → (Nat → Prop) → Prop} (C : Con TAt) {B : Nat} {W u v : World} {p q g k : Nat} {c d : Ck} {F : Nat → Prop} (h : Mid TAt B W u p q g k c d F) (hb : Below u.heap.size u v) : Mid TAt B W v p q g k c d F :=
  ⟨C.below h.dd hb, h.rr.below hb, h.apart, h.ownD, h.ownR, h.below.trans (hb.mono h.size), h.base⟩
theorem Mid.stepD {TAt : World → Nat → Ck → (Nat → Prop) → Prop} {B : Nat} {W u v : World} {p q g k : Nat} {c c' d : Ck} {F F' : Nat → Prop} (h : Mid TAt B W u p q g k c d F) (hd : TAt v p c' F') (hl : Loc F F' u v) : Mid TAt B W v p q g k c' d F' :=
  ⟨hd, h.rr.same (hl.other h.apart (RF.lt h.rr) q (Or.inl rfl)) (hl.other h.apart (RF.lt h.rr) g (Or.inr rfl)), hl.apart h.apart (RF.lt h.rr), hl.beyond h.ownD h.size, h.ownR, h.below.trans (hl.below h.ownD h.size), h.base⟩
theorem Mid.stepR {TAt : World → Nat → Ck → (Nat → Prop) → Prop} (C : Con TAt) {B : Nat} {W u v : World} {p q g k : Nat} {c d d' : Ck} {F : Nat → Prop} (h : Mid TAt B W u p q g k c d F) (hr : RAt v q g k d') (hl : Loc (RF q g) (RF q g) u v) : Mid TAt B W v p q g k c d' F :=
  ⟨C.same h.dd (hl.other (fun i hi hF => h.apart i hF hi) (C.lt h.dd)), hr, h.apart, h.ownD, h.ownR, h.below.trans (hl.below h.ownR h.size), h.base⟩
theorem RAt.new (u : World) (n : Nat) (b : Int) (hn : n ≤ 4096) : RAt ((u.alloc (.cells (zeros n) 2)).alloc (.cells #[.slice (some ⟨u.heap.size, 0, none⟩) n n, .int .i64 b, .int .i64 0] 33)) (u.heap.size + 1) u.heap.size n (Ck.new n b) := by
  refine ⟨?_, ?_⟩
  · have h := heap_alloc_last (u.alloc (.cells (zeros n) 2)) (.cells #[.slice (some ⟨u.heap.size, 0, none⟩) n n, .int .i64 b, .int .i64 0] 33)
    rw [World.size_alloc] at h
    rw [h]
    unfold Ck.new
    rw [List.length_replicate]
  · exact (NumsAt.new u n hn).below ((Below.refl _ _).alloc (Nat.le_refl _) _)
set_option maxRecDepth 10000 in
set_option maxHeartbeats 8000000 in
theorem TicksPlay_any {TAt : World → Nat → Ck → (Nat → Prop) → Prop} (C : Con TAt) (nn bb : Int) (a : Option Addr) (ca : Nat) (l : List (Int × Int)) (w : World) (h : StepsAt w a l) (hok : ∀ x ∈ l, I64 x.1 ∧ I64 x.2) (hnn : I64 nn) (hbb : I64 bb) (hl : l.length ≤ 140737488351232) :
    Calls Try.prog 3 #[.int .i64 nn, .int .i64 bb, .slice a l.length ca] w fun e w' => e = .returned (.bool true) ∧ Below w.heap.size w w' := by
  have HC := hide C
  have HS := hide h
  have HOk := hide hok
  clear C h hok
  by_cases h300 : 300 < l.length
  · have KA := hide (alive_any HC.out w)
    have hz : (300 : Int) < (l.length : Int) := by omega
    go_enter Try.func3, Try.ntmps3
    go_wp2_with fail
    refine KA.out.mono ?_
    rintro e w5 ⟨rfl, hb5⟩
    have HB5 := hide hb5
    clear hb5
    go_wp2
    go_ret
    exact ⟨rfl, HB5.out⟩
  have hz : ¬ (300 : Int) < (l.length : Int) := by omega
  by_cases hin : 1 ≤ nn ∧ nn ≤ 128 ∧ 0 ≤ bb ∧ bb ≤ 17592186044416
  rotate_left 1
  · have KN := hide (HC.out.newNot nn bb w hnn hbb hin)
    have KR := fun v => hide (rMay nn bb v)
    rw [decide_eq_false hin] at KR
    clear hin hnn hbb
    go_enter Try.func3, Try.ntmps3
    go_wp2_with fail
    refine KN.out.mono ?_
    rintro e w1 ⟨rfl, hb1⟩
    have HB1 := hide hb1
    clear hb1 KN
    go_wp2_with fail
    refine (KR w1).out.mono ?_
    rintro e w2 ⟨rfl, hw2⟩
    obtain rfl := hw2.symm
    clear hw2 KR
    have KA := hide (alive_any HC.out w1)
    go_wp2_with fail
    refine KA.out.mono ?_
    rintro e w5 ⟨rfl, hb5⟩
    have HB5 := hide (bnext HB1.out hb5)
    clear hb5
    go_wp2
    go_ret
    exact ⟨rfl, HB5.out⟩
  have KR := fun v => hide (rMay nn bb v)
  rw [decide_eq_true hin] at KR
  obtain ⟨n, rfl⟩ : ∃ n : Nat, nn = (n : Int) := ⟨nn.toNat, by omega⟩
  have hn1 : 1 ≤ n := by omega
  have hn2 : n ≤ 128 := by omega
  have KN := hide (HC.out.new n bb w hn1 hn2 hin.2.2.1 hin.2.2.2)
  have HO0 := hide (Ck.Ok.new hn1 hn2 hin.2.2)
  clear hin hnn hbb
  go_enter Try.func3, Try.ntmps3
  go_wp2_with fail
  refine KN.out.mono ?_
  rintro e w1 ⟨p, F, rfl, h1, hF, hb1⟩
  have H1 := hide (Has.mk (W := w) (B := w.heap.size) h1 HO0.out hF hb1)
  clear h1 hF hb1 KN
  go_wp2_with fail
  refine (KR w1).out.mono ?_
  rintro e w2 ⟨rfl, hw2⟩
  obtain rfl := hw2.symm
  clear hw2 KR
  have KL := hide (HC.out.len p _ F w1 H1.out.at_ H1.out.ok)
  rw [show (Ck.new n bb).t.length = n from List.length_replicate] at KL
  go_wp2_with fail
  refine KL.out.mono ?_
  rintro e w3 ⟨rfl, hb⟩
  have H3 := hide (H1.out.old HC.out hb H1.out.below.size)
  clear hb KL H1
  have hmk := nmake n (by omega) w3
  have HR := hide (RAt.new w3 n bb (by omega))
  have HAB := hide (((Below.refl w3.heap.size w3).alloc (Nat.le_refl _) (.cells (zeros n) 2)).alloc (by simp) (.cells #[.slice (some ⟨w3.heap.size, 0, none⟩) n n, .int .i64 bb, .int .i64 0] 33))
  generalize zeros n = Z at *
  have HB0 : Hid (Both TAt w.heap.size w ((w3.alloc (.cells Z 2)).alloc (.cells #[.slice (some ⟨w3.heap.size, 0, none⟩) n n, .int .i64 bb, .int .i64 0] 33)) p (w3.heap.size + 1) w3.heap.size n (Ck.new n bb) F) :=
    ⟨HC.out.below H3.out.at_ HAB.out, HR.out, HO0.out, fun i hi hr => (by have := HC.out.lt H3.out.at_ i hi; rcases hr with rfl | rfl <;> omega), H3.out.own, fun i hr => (by have := H3.out.below.size; rcases hr with rfl | rfl <;> omega), H3.out.below.trans (HAB.out.mono H3.out.below.size), Nat.le_refl _⟩
  have HLn : Hid ((Ck.new n bb).t.length = n ∧ (Ck.new n bb).b = bb) := ⟨List.length_replicate, rfl⟩
  clear HR HAB H3
  go_wp2_with fail
  generalize ((w3.alloc (.cells Z 2)).alloc (.cells #[.slice (some ⟨w3.heap.size, 0, none⟩) n n, .int .i64 bb, .int .i64 0] 33)) = W1 at *
  generalize w3.heap.size + 1 = q at *
  generalize w3.heap.size = g at *
  clear hmk
  go_loopw [10, 11, 12, 13] (fun i _ _ _ wr => ∃ (j : Nat) (c : Ck) (F : Nat → Prop), j ≤ l.length ∧ i = .int .i64 (j : Int) ∧ Both TAt w.heap.size w wr p q g n c F ∧ c.t.length = n ∧ c.b = bb) (fun i _ _ _ _ => l.length - (intOf i).toNat)
  case atStart => exact ⟨0, Ck.new n bb, F, Nat.zero_le _, rfl, HB0.out, HLn.out⟩
  case round =>
    obtain ⟨j, c, F1, hj, rfl, hB, hln, hcb⟩ := hrel
    have HB := hide hB
    clear hB HB0
    by_cases hlt : j < l.length
    · obtain ⟨b, off, rfl, e1, e2⟩ := HS.out.there j hlt
      obtain ⟨hx, hy⟩ := HOk.out _ (List.getElem_mem hlt)
      have hbw := World.block_lt_of_cell? w _ e1
      have HE := hide (And.intro e1 (And.intro e2 hbw))
      have hok1 := HB.out.ok.tick l[j].1 l[j].2
      have HLn1 : Hid ((c.tick l[j].1 l[j].2).2.t.length = n ∧ (c.tick l[j].1 l[j].2).2.b = bb) := ⟨(Ck.tick_len c _ _).trans hln, (Ck.tick_bound c _ _).trans hcb⟩
      have KT : Hid (∀ u F, TAt u p c F → Calls Try.prog 11 #[.pointer (some ⟨p, 0, none⟩), .int .i64 l[j].1, .int .i64 l[j].2] u fun e v => e = .returned (.int .i64 (((c.tick l[j].1 l[j].2).1 : Nat) : Int)) ∧ ∃ F', TAt v p (c.tick l[j].1 l[j].2).2 F' ∧ Loc F F' u v) := fun u F h => HC.out.tick p c F _ _ u h HB.out.ok hx hy
      have KR : Hid (∀ u, RAt u q g n c → Calls Try.prog 12 #[.pointer (some ⟨q, 0, none⟩), .int .i64 l[j].1, .int .i64 l[j].2] u fun e v => e = .returned (.int .i64 (((c.tick l[j].1 l[j].2).1 : Nat) : Int)) ∧ RAt v q g n (c.tick l[j].1 l[j].2).2 ∧ Loc (RF q g) (RF q g) u v) := fun u h => rTick q g n c _ _ u h HB.out.ok hx
      have K0 := hide (Both.drew HC.out HB.out).mid
      clear e1 e2 hx hy hln hcb HB
      generalize l[j].1 = x at *
      generalize l[j].2 = y at *
      generalize c.tick x y = T at *
      obtain ⟨r, d⟩ := T
      have HOk1 := hide hok1
      clear hok1
      have KA : Hid (∀ u F, TAt u p d F → Calls Try.prog 13 #[.pointer (some ⟨p, 0, none⟩)] u fun e v => e = .returned (.int .i64 (apart d.t)) ∧ Below u.heap.size u v) := fun u F h => HC.out.apart p d F u h HOk1.out
      have KB : Hid (∀ u, RAt u q g n d → Calls Try.prog 14 #[.pointer (some ⟨q, 0, none⟩)] u fun e v => e = .returned (.int .i64 (apart d.t)) ∧ Below u.heap.size u v) := fun u h => rApart q g n d u h HOk1.out.some HOk1.out.few HOk1.out.times
      have KW : Hid (∀ u F, TAt u p d F → Calls Try.prog 15 #[.pointer (some ⟨p, 0, none⟩)] u fun e v => e = .returned (.bool (decide (d.m ≤ bb))) ∧ Below u.heap.size u v) := fun u F h => (by have := HC.out.within p d F u h HOk1.out; rw [HLn1.out.2] at this; exact this)
      generalize apart d.t = A at *
      go_wp2_with fail
      have HSS : Hid (∀ z, Below w.heap.size w z → z.cell? ⟨b, off + j * 2, none⟩ = some (.int .i64 x) ∧ z.cell? ⟨b, off + j * 2 + 1, none⟩ = some (.int .i64 y)) := fun z hz => ⟨(hz.cell (p := ⟨b, off + j * 2, none⟩) HE.out.2.2).trans HE.out.1, (hz.cell (p := ⟨b, off + j * 2 + 1, none⟩) HE.out.2.2).trans HE.out.2.1⟩
      clear HE
      refine wp_region_held_drew (S := fun z => z.cell? ⟨b, off + j * 2, none⟩ = some (.int .i64 x) ∧ z.cell? ⟨b, off + j * 2 + 1, none⟩ = some (.int .i64 y)) (by kernel_rfl) (HSS.out _ K0.out.below) (fun hHeld => ?_)
      (try dsimp only at hHeld)
      refine takeAtQ 0 60 (v := ?v_r12_0) rfl rfl (by kernel_rfl) (by kernel_rfl) (by kernel_rfl) (fun _ _ _ h => h) (Or.inl ⟨by rfl, ?hy_r12_0⟩) (by assumption) ?rest_r12_0
      case hy_r12_0 => (intro w hSw; (try dsimp only at hSw); go_simp; first | done | with_reducible rfl)
      simp only [List.setIfInBounds_toArray, List.set_cons_succ, List.set_cons_zero]
      refine takeAtQ 1 61 (v := ?v_r12_1) rfl rfl (by kernel_rfl) (by kernel_rfl) (by kernel_rfl) (fun _ _ _ h => h) (Or.inl ⟨by rfl, ?hy_r12_1⟩) (by assumption) ?rest_r12_1
      case hy_r12_1 => (intro w hSw; (try dsimp only at hSw); go_simp; first | done | with_reducible rfl)
      simp only [List.setIfInBounds_toArray, List.set_cons_succ, List.set_cons_zero]
      refine takeAtQ 2 62 (v := ?v_r12_2) rfl rfl (by kernel_rfl) (by kernel_rfl) (by kernel_rfl) (fun _ _ _ h => h) (Or.inl ⟨by rfl, ?hy_r12_2⟩) (by assumption) ?rest_r12_2
      case hy_r12_2 => (intro w hSw; (try dsimp only at hSw); go_simp; first | done | with_reducible rfl)
      simp only [List.setIfInBounds_toArray, List.set_cons_succ, List.set_cons_zero]
      refine takeAtQ 3 63 (v := ?v_r12_3) rfl rfl (by kernel_rfl) (by kernel_rfl) (by kernel_rfl) (fun _ _ _ h => h) (Or.inl ⟨by rfl, ?hy_r12_3⟩) (by assumption) ?rest_r12_3
      case hy_r12_3 => (intro w hSw; (try dsimp only at hSw); go_simp; first | done | with_reducible rfl)
      simp only [List.setIfInBounds_toArray, List.set_cons_succ, List.set_cons_zero]
      refine takeAtQ 4 64 (v := ?v_r12_4) rfl rfl (by kernel_rfl) (by kernel_rfl) (by kernel_rfl) (fun _ _ _ h => h) (Or.inl ⟨by rfl, ?hy_r12_4⟩) (by assumption) ?rest_r12_4
      case hy_r12_4 => (intro w hSw; (try dsimp only at hSw); go_simp; first | done | with_reducible rfl)
      simp only [List.setIfInBounds_toArray, List.set_cons_succ, List.set_cons_zero]
      refine takeAtQ 5 65 (v := ?v_r12_5) rfl rfl (by kernel_rfl) (by kernel_rfl) (by kernel_rfl) (fun _ _ _ h => h) (Or.inl ⟨by rfl, ?hy_r12_5⟩) (by assumption) ?rest_r12_5
      case hy_r12_5 => (intro w hSw; (try dsimp only at hSw); go_simp; first | done | with_reducible rfl)
      simp only [List.setIfInBounds_toArray, List.set_cons_succ, List.set_cons_zero]
      refine takeAtQ 6 66 (v := ?v_r12_6) rfl rfl (by kernel_rfl) (by kernel_rfl) (by kernel_rfl) (fun _ _ _ h => h) (Or.inl ⟨by rfl, ?hy_r12_6⟩) (by assumption) ?rest_r12_6
      case hy_r12_6 => (intro w hSw; (try dsimp only at hSw); go_simp; first | done | with_reducible rfl)
      simp only [List.setIfInBounds_toArray, List.set_cons_succ, List.set_cons_zero]
      refine takeAtQ 7 67 (v := ?v_r12_7) rfl rfl (by kernel_rfl) (by kernel_rfl) (by kernel_rfl) (fun _ _ _ h => h) (Or.inl ⟨by rfl, ?hy_r12_7⟩) (by assumption) ?rest_r12_7
      case hy_r12_7 => (intro w hSw; (try dsimp only at hSw); go_simp; first | done | with_reducible rfl)
      simp only [List.setIfInBounds_toArray, List.set_cons_succ, List.set_cons_zero]
      refine takeAtQ 8 68 (v := ?v_r12_8) rfl rfl (by kernel_rfl) (by kernel_rfl) (by kernel_rfl) (fun _ _ _ h => h) (Or.inl ⟨by rfl, ?hy_r12_8⟩) (by assumption) ?rest_r12_8
      case hy_r12_8 => (intro w hSw; (try dsimp only at hSw); go_simp; first | done | with_reducible rfl)
      simp only [List.setIfInBounds_toArray, List.set_cons_succ, List.set_cons_zero]
      refine takeAtQ 9 69 (v := ?v_r12_9) rfl rfl (by kernel_rfl) (by kernel_rfl) (by kernel_rfl) (fun _ _ _ h => h) (Or.inl ⟨by rfl, ?hy_r12_9⟩) (by assumption) ?rest_r12_9
      case hy_r12_9 => (intro w hSw; (try dsimp only at hSw); go_simp; first | done | with_reducible rfl)
      simp only [List.setIfInBounds_toArray, List.set_cons_succ, List.set_cons_zero]
      refine takeAtQ 10 70 (v := ?v_r12_10) rfl rfl (by kernel_rfl) (by kernel_rfl) (by kernel_rfl) (fun _ _ _ h => h) (Or.inl ⟨by rfl, ?hy_r12_10⟩) (by assumption) ?rest_r12_10
      case hy_r12_10 => (intro w hSw; (try dsimp only at hSw); go_simp; first | done | with_reducible rfl)
      simp only [List.setIfInBounds_toArray, List.set_cons_succ, List.set_cons_zero]
      refine takeAtQ 12 72 (v := ?v_r12_12) rfl rfl (by kernel_rfl) (by kernel_rfl) (by kernel_rfl) (fun _ _ _ h => h) (Or.inl ⟨by rfl, ?hy_r12_12⟩) (by assumption) ?rest_r12_12
      case hy_r12_12 => (intro w hSw; (try dsimp only at hSw); go_simp; first | done | with_reducible rfl)
      simp only [List.setIfInBounds_toArray, List.set_cons_succ, List.set_cons_zero]
      refine takeAtQ 13 73 (v := ?v_r12_13) rfl rfl (by kernel_rfl) (by kernel_rfl) (by kernel_rfl) (fun _ _ _ h => h) (Or.inl ⟨by rfl, ?hy_r12_13⟩) (by assumption) ?rest_r12_13
      case hy_r12_13 => (intro w hSw; (try dsimp only at hSw); go_simp; first | done | with_reducible rfl)
      simp only [List.setIfInBounds_toArray, List.set_cons_succ, List.set_cons_zero]
      refine takeAtQ 14 74 (v := ?v_r12_14) rfl rfl (by kernel_rfl) (by kernel_rfl) (by kernel_rfl) (fun _ _ _ h => h) (Or.inl ⟨by rfl, ?hy_r12_14⟩) (by assumption) ?rest_r12_14
      case hy_r12_14 => (intro w hSw; (try dsimp only at hSw); go_simp; first | done | with_reducible rfl)
      simp only [List.setIfInBounds_toArray, List.set_cons_succ, List.set_cons_zero]
      refine takeAtQ 15 75 (v := ?v_r12_15) rfl rfl (by kernel_rfl) (by kernel_rfl) (by kernel_rfl) (fun _ _ _ h => h) (Or.inl ⟨by rfl, ?hy_r12_15⟩) (by assumption) ?rest_r12_15
      case hy_r12_15 => (intro w hSw; (try dsimp only at hSw); go_simp; first | done | with_reducible rfl)
      simp only [List.setIfInBounds_toArray, List.set_cons_succ, List.set_cons_zero]
      refine takeAtQ 16 76 (v := ?v_r12_16) rfl rfl (by kernel_rfl) (by kernel_rfl) (by kernel_rfl) (fun _ _ _ h => h) (Or.inl ⟨by rfl, ?hy_r12_16⟩) (by assumption) ?rest_r12_16
      case hy_r12_16 => (intro w hSw; (try dsimp only at hSw); go_simp; first | done | with_reducible rfl)
      simp only [List.setIfInBounds_toArray, List.set_cons_succ, List.set_cons_zero]
      refine takeAtQ 17 77 (v := ?v_r12_17) rfl rfl (by kernel_rfl) (by kernel_rfl) (by kernel_rfl) (fun _ _ _ h => h) (Or.inl ⟨by rfl, ?hy_r12_17⟩) (by assumption) ?rest_r12_17
      case hy_r12_17 => (intro w hSw; (try dsimp only at hSw); go_simp; first | done | with_reducible rfl)
      simp only [List.setIfInBounds_toArray, List.set_cons_succ, List.set_cons_zero]
      refine takeAtQ 18 78 (v := ?v_r12_18) rfl rfl (by kernel_rfl) (by kernel_rfl) (by kernel_rfl) (fun _ _ _ h => h) (Or.inl ⟨by rfl, ?hy_r12_18⟩) (by assumption) ?rest_r12_18
      case hy_r12_18 => (intro w hSw; (try dsimp only at hSw); go_simp; first | done | with_reducible rfl)
      simp only [List.setIfInBounds_toArray, List.set_cons_succ, List.set_cons_zero]
      refine takeAtQ 19 79 (v := ?v_r12_19) rfl rfl (by kernel_rfl) (by kernel_rfl) (by kernel_rfl) (fun _ _ _ h => h) (Or.inl ⟨by rfl, ?hy_r12_19⟩) (by assumption) ?rest_r12_19
      case hy_r12_19 => (intro w hSw; (try dsimp only at hSw); go_simp; first | done | with_reducible rfl)
      simp only [List.setIfInBounds_toArray, List.set_cons_succ, List.set_cons_zero]
      refine takeAtQ 20 80 (v := ?v_r12_20) rfl rfl (by kernel_rfl) (by kernel_rfl) (by kernel_rfl) (fun _ _ _ h => h) (Or.inl ⟨by rfl, ?hy_r12_20⟩) (by assumption) ?rest_r12_20
      case hy_r12_20 => (intro w hSw; (try dsimp only at hSw); go_simp; first | done | with_reducible rfl)
      simp only [List.setIfInBounds_toArray, List.set_cons_succ, List.set_cons_zero]
      refine takeAtQ 21 81 (v := ?v_r12_21) rfl rfl (by kernel_rfl) (by kernel_rfl) (by kernel_rfl) (fun _ _ _ h => h) (Or.inl ⟨by rfl, ?hy_r12_21⟩) (by assumption) ?rest_r12_21
      case hy_r12_21 => (intro w hSw; (try dsimp only at hSw); go_simp; first | done | with_reducible rfl)
      simp only [List.setIfInBounds_toArray, List.set_cons_succ, List.set_cons_zero]
      refine takeAtQ 22 82 (v := ?v_r12_22) rfl rfl (by kernel_rfl) (by kernel_rfl) (by kernel_rfl) (fun _ _ _ h => h) (Or.inl ⟨by rfl, ?hy_r12_22⟩) (by assumption) ?rest_r12_22
      case hy_r12_22 => (intro w hSw; (try dsimp only at hSw); go_simp; first | done | with_reducible rfl)
      simp only [List.setIfInBounds_toArray, List.set_cons_succ, List.set_cons_zero]
      refine wpAnyH_ready (rs := [11]) (by kernel_rfl) (by simp) ?_
      refine AllReadyH.cons (o := { dst := some 71, op := Go.Op.call { callee := Go.Callee.value (Go.Operand.func 11), args := #[Go.Operand.tmp 60, Go.Operand.tmp 65, Go.Operand.tmp 70], argTypes := #[24, 3, 2] }, type := 25, pos := "law.go:44", after := #[{ on := 0, ground := Go.Ground.data }, { on := 5, ground := Go.Ground.data }, { on := 10, ground := Go.Ground.data }], guard := none }) rfl (fun K hK => ?_) AllReadyH.nil
      go_simp
      refine (KT.out _ _ K0.out.dd).mono ?_
      rintro e z1 ⟨rfl, F2, h2, l2⟩
      have K1 := hide (K0.out.stepD h2 l2)
      clear h2 l2 K0
      go_wp2_with fail
      refine hK.out _ _ (HSS.out _ K1.out.below) (fun hHeldN => ?_)
      clear hK K hHeld
      (try go_frame)
      have hHeld := hHeldN
      clear hHeldN
      (try dsimp only at hHeld)
      refine wpAnyH_ready (rs := [23]) (by kernel_rfl) (by simp) ?_
      refine AllReadyH.cons (o := { dst := some 83, op := Go.Op.call { callee := Go.Callee.value (Go.Operand.func 12), args := #[Go.Operand.tmp 72, Go.Operand.tmp 77, Go.Operand.tmp 82], argTypes := #[30, 3, 2] }, type := 25, pos := "law.go:44", after := #[{ on := 12, ground := Go.Ground.data }, { on := 17, ground := Go.Ground.data }, { on := 22, ground := Go.Ground.data }, { on := 11, ground := Go.Ground.chain }], guard := none }) rfl (fun K hK => ?_) AllReadyH.nil
      go_simp
      refine (KR.out _ K1.out.rr).mono ?_
      rintro e z2 ⟨rfl, h3, l3⟩
      have K2 := hide (K1.out.stepR HC.out h3 l3)
      clear h3 l3 K1
      go_wp2_with fail
      refine hK.out _ _ (HSS.out _ K2.out.below) (fun hHeldN => ?_)
      clear hK K hHeld
      (try go_frame)
      have hHeld := hHeldN
      clear hHeldN
      (try dsimp only at hHeld)
      refine wpAnyH_weak (S' := fun z => z.cell? ⟨q, 2, none⟩ = some (.int .i64 d.m) ∧ z.cell? ⟨b, off + j * 2, none⟩ = some (.int .i64 x) ∧ z.cell? ⟨b, off + j * 2 + 1, none⟩ = some (.int .i64 y)) (fun z h => h.2) ?_
      have hHeldN : (fun z : World => z.cell? ⟨q, 2, none⟩ = some (.int .i64 d.m) ∧ z.cell? ⟨b, off + j * 2, none⟩ = some (.int .i64 x) ∧ z.cell? ⟨b, off + j * 2 + 1, none⟩ = some (.int .i64 y)) z2 := ⟨K2.out.rr.cell2, hHeld⟩
      clear hHeld
      have hHeld := hHeldN
      clear hHeldN
      (try dsimp only at hHeld)
      refine takeAtQ 24 84 (v := ?v_r12_24) rfl rfl (by kernel_rfl) (by kernel_rfl) (by kernel_rfl) (fun _ _ _ h => h) (Or.inl ⟨by rfl, ?hy_r12_24⟩) (by assumption) ?rest_r12_24
      case hy_r12_24 => (intro w hSw; (try dsimp only at hSw); go_simp; first | done | with_reducible rfl)
      simp only [List.setIfInBounds_toArray, List.set_cons_succ, List.set_cons_zero]
      refine takeAtQ 25 85 (v := ?v_r12_25) rfl rfl (by kernel_rfl) (by kernel_rfl) (by kernel_rfl) (fun _ _ _ h => h) (Or.inl ⟨by rfl, ?hy_r12_25⟩) (by assumption) ?rest_r12_25
      case hy_r12_25 => (intro w hSw; (try dsimp only at hSw); go_simp; first | done | with_reducible rfl)
      simp only [List.setIfInBounds_toArray, List.set_cons_succ, List.set_cons_zero]
      refine takeAtQ 26 86 (v := ?v_r12_26) rfl rfl (by kernel_rfl) (by kernel_rfl) (by kernel_rfl) (fun _ _ _ h => h) (Or.inl ⟨by rfl, ?hy_r12_26⟩) (by assumption) ?rest_r12_26
      case hy_r12_26 => (intro w hSw; (try dsimp only at hSw); go_simp; first | done | with_reducible rfl)
      simp only [List.setIfInBounds_toArray, List.set_cons_succ, List.set_cons_zero]
      refine takeAtQ 28 88 (v := ?v_r12_28) rfl rfl (by kernel_rfl) (by kernel_rfl) (by kernel_rfl) (fun _ _ _ h => h) (Or.inl ⟨by rfl, ?hy_r12_28⟩) (by assumption) ?rest_r12_28
      case hy_r12_28 => (intro w hSw; (try dsimp only at hSw); go_simp; first | done | with_reducible rfl)
      simp only [List.setIfInBounds_toArray, List.set_cons_succ, List.set_cons_zero]
      refine wpAnyH_ready (rs := [27]) (by kernel_rfl) (by simp) ?_
      refine AllReadyH.cons (o := { dst := some 87, op := Go.Op.call { callee := Go.Callee.value (Go.Operand.func 13), args := #[Go.Operand.tmp 86], argTypes := #[24] }, type := 2, pos := "law.go:44", after := #[{ on := 26, ground := Go.Ground.data }, { on := 25, ground := Go.Ground.chain }, { on := 25, ground := Go.Ground.guard }], guard := some (25, false) }) rfl (fun K hK => ?_) AllReadyH.nil
      go_simp
      refine (KA.out _ _ K2.out.dd).mono ?_
      rintro e z3 ⟨rfl, hb3⟩
      have K3 := hide (K2.out.old HC.out hb3)
      clear hb3 K2
      go_wp2_with fail
      refine hK.out _ _ (⟨K3.out.rr.cell2, HSS.out _ K3.out.below⟩) (fun hHeldN => ?_)
      clear hK K hHeld
      (try go_frame)
      have hHeld := hHeldN
      clear hHeldN
      (try dsimp only at hHeld)
      refine wpAnyH_ready (rs := [29]) (by kernel_rfl) (by simp) ?_
      refine AllReadyH.cons (o := { dst := some 89, op := Go.Op.call { callee := Go.Callee.value (Go.Operand.func 14), args := #[Go.Operand.tmp 88], argTypes := #[30] }, type := 2, pos := "law.go:44", after := #[{ on := 28, ground := Go.Ground.data }, { on := 27, ground := Go.Ground.chain }, { on := 25, ground := Go.Ground.guard }], guard := some (25, false) }) rfl (fun K hK => ?_) AllReadyH.nil
      go_simp
      refine (KB.out _ K3.out.rr).mono ?_
      rintro e z4 ⟨rfl, hb4⟩
      have K4 := hide (K3.out.old HC.out hb4)
      clear hb4 K3
      go_wp2_with fail
      refine hK.out _ _ (⟨K4.out.rr.cell2, HSS.out _ K4.out.below⟩) (fun hHeldN => ?_)
      clear hK K hHeld
      (try go_frame)
      have hHeld := hHeldN
      clear hHeldN
      (try dsimp only at hHeld)
      refine takeAtQ 30 90 (v := ?v_r12_30) rfl rfl (by kernel_rfl) (by kernel_rfl) (by kernel_rfl) (fun _ _ _ h => h) (Or.inl ⟨by rfl, ?hy_r12_30⟩) (by assumption) ?rest_r12_30
      case hy_r12_30 => (intro w hSw; (try dsimp only at hSw); go_simp; first | done | with_reducible rfl)
      simp only [List.setIfInBounds_toArray, List.set_cons_succ, List.set_cons_zero]
      refine takeAtQ 31 91 (v := ?v_r12_31) rfl rfl (by kernel_rfl) (by kernel_rfl) (by kernel_rfl) (fun _ _ _ h => h) (Or.inl ⟨by rfl, ?hy_r12_31⟩) (by assumption) ?rest_r12_31
      case hy_r12_31 => (intro w hSw; (try dsimp only at hSw); go_simp; first | done | with_reducible rfl)
      simp only [List.setIfInBounds_toArray, List.set_cons_succ, List.set_cons_zero]
      refine takeAtQ 32 92 (v := ?v_r12_32) rfl rfl (by kernel_rfl) (by kernel_rfl) (by kernel_rfl) (fun _ _ _ h => h) (Or.inl ⟨by rfl, ?hy_r12_32⟩) (by assumption) ?rest_r12_32
      case hy_r12_32 => (intro w hSw; (try dsimp only at hSw); go_simp; first | done | with_reducible rfl)
      simp only [List.setIfInBounds_toArray, List.set_cons_succ, List.set_cons_zero]
      refine takeAtQ 33 93 (v := ?v_r12_33) rfl rfl (by kernel_rfl) (by kernel_rfl) (by kernel_rfl) (fun _ _ _ h => h) (Or.inl ⟨by rfl, ?hy_r12_33⟩) (by assumption) ?rest_r12_33
      case hy_r12_33 => (intro w hSw; (try dsimp only at hSw); go_simp; first | done | with_reducible rfl)
      simp only [List.setIfInBounds_toArray, List.set_cons_succ, List.set_cons_zero]
      refine takeAtQ 35 95 (v := ?v_r12_35) rfl rfl (by kernel_rfl) (by kernel_rfl) (by kernel_rfl) (fun _ _ _ h => h) (Or.inl ⟨by rfl, ?hy_r12_35⟩) (by assumption) ?rest_r12_35
      case hy_r12_35 => (intro w hSw; (try dsimp only at hSw); go_simp; first | done | with_reducible rfl)
      simp only [List.setIfInBounds_toArray, List.set_cons_succ, List.set_cons_zero]
      refine takeAtQ 36 96 (v := ?v_r12_36) rfl rfl (by kernel_rfl) (by kernel_rfl) (by kernel_rfl) (fun _ _ _ h => h) (Or.inl ⟨by rfl, ?hy_r12_36⟩) (by assumption) ?rest_r12_36
      case hy_r12_36 => (intro w hSw; (try dsimp only at hSw); go_simp; first | done | with_reducible rfl)
      simp only [List.setIfInBounds_toArray, List.set_cons_succ, List.set_cons_zero]
      refine takeAtQ 37 97 (v := ?v_r12_37) rfl rfl (by kernel_rfl) (by kernel_rfl) (by kernel_rfl) (fun _ _ _ h => h) (Or.inl ⟨by rfl, ?hy_r12_37⟩) (by assumption) ?rest_r12_37
      case hy_r12_37 => (intro w hSw; (try dsimp only at hSw); go_simp; first | done | with_reducible rfl)
      simp only [List.setIfInBounds_toArray, List.set_cons_succ, List.set_cons_zero]
      refine takeAtQ 38 98 (v := ?v_r12_38) rfl rfl (by kernel_rfl) (by kernel_rfl) (by kernel_rfl) (fun _ _ _ h => h) (Or.inl ⟨by rfl, ?hy_r12_38⟩) (by assumption) ?rest_r12_38
      case hy_r12_38 => (intro w hSw; (try dsimp only at hSw); go_simp; first | done | with_reducible rfl)
      simp only [List.setIfInBounds_toArray, List.set_cons_succ, List.set_cons_zero]
      refine takeAtQ 39 99 (v := ?v_r12_39) rfl rfl (by kernel_rfl) (by kernel_rfl) (by kernel_rfl) (fun _ _ _ h => h) (Or.inl ⟨by rfl, ?hy_r12_39⟩) (by assumption) ?rest_r12_39
      case hy_r12_39 => (intro w hSw; (try dsimp only at hSw); go_simp; first | done | with_reducible rfl)
      simp only [List.setIfInBounds_toArray, List.set_cons_succ, List.set_cons_zero]
      refine takeAtQ 40 100 (v := ?v_r12_40) rfl rfl (by kernel_rfl) (by kernel_rfl) (by kernel_rfl) (fun _ _ _ h => h) (Or.inl ⟨by rfl, ?hy_r12_40⟩) (by assumption) ?rest_r12_40
      case hy_r12_40 => (intro w hSw; (try dsimp only at hSw); go_simp; first | done | with_reducible rfl)
      simp only [List.setIfInBounds_toArray, List.set_cons_succ, List.set_cons_zero]
      refine wpAnyH_ready (rs := [34]) (by kernel_rfl) (by simp) ?_
      refine AllReadyH.cons (o := { dst := some 94, op := Go.Op.call { callee := Go.Callee.value (Go.Operand.func 15), args := #[Go.Operand.tmp 93], argTypes := #[24] }, type := 4, pos := "law.go:44", after := #[{ on := 33, ground := Go.Ground.data }, { on := 32, ground := Go.Ground.chain }, { on := 32, ground := Go.Ground.guard }], guard := some (32, false) }) rfl (fun K hK => ?_) AllReadyH.nil
      go_simp
      refine (KW.out _ _ K4.out.dd).mono ?_
      rintro e z5 ⟨rfl, hb5⟩
      have K5 := hide (K4.out.old HC.out hb5)
      clear hb5 K4
      go_wp2_with fail
      refine hK.out _ _ (⟨K5.out.rr.cell2, HSS.out _ K5.out.below⟩) (fun hHeldN => ?_)
      clear hK K hHeld
      (try go_frame)
      have hHeld := hHeldN
      clear hHeldN
      (try dsimp only at hHeld)
      refine takeAtQ 41 101 (v := ?v_r12_41) rfl rfl (by kernel_rfl) (by kernel_rfl) (by kernel_rfl) (fun _ _ _ h => h) (Or.inl ⟨by rfl, ?hy_r12_41⟩) (by assumption) ?rest_r12_41
      case hy_r12_41 => (intro w hSw; (try dsimp only at hSw); go_simp; first | done | with_reducible rfl)
      simp only [List.setIfInBounds_toArray, List.set_cons_succ, List.set_cons_zero]
      refine takeAtQ 42 102 (v := ?v_r12_42) rfl rfl (by kernel_rfl) (by kernel_rfl) (by kernel_rfl) (fun _ _ _ h => h) (Or.inl ⟨by rfl, ?hy_r12_42⟩) (by assumption) ?rest_r12_42
      case hy_r12_42 => (intro w hSw; (try dsimp only at hSw); go_simp; first | done | with_reducible rfl)
      simp only [List.setIfInBounds_toArray, List.set_cons_succ, List.set_cons_zero]
      refine wpAnyH_done (by kernel_rfl) ?_ _
      clear hHeld
      have HB5 := hide (K5.out.both HOk1.out)
      clear KT KR KA KB KW K5 HSS HOk1
      have hln := HLn1.out.1
      go_wp2_with fail
      go_loopw [11, 12, 13] (fun i _ _ wz => ∃ t : Nat, t ≤ n + 2 ∧ i = .int .i64 ((t : Int) - 1) ∧ Both TAt w.heap.size w wz p q g n d F2) (fun i _ _ _ => n + 2 - (intOf i + 1).toNat)
      case atStart => exact ⟨0, Nat.zero_le _, rfl, HB5.out⟩
      case round =>
        obtain ⟨t, ht, rfl, hBz⟩ := hrel
        have HBz := hide hBz
        clear hBz HB5
        by_cases htl : t < n + 2
        · by_cases hin : 1 ≤ t ∧ t ≤ n
          · obtain ⟨s, rfl⟩ : ∃ s, t = s + 1 := ⟨t - 1, by omega⟩
            have hs : s < d.t.length := by omega
            have KA := hide (HC.out.at_ p d F2 s wr HBz.out.dd HBz.out.ok hs)
            rw [show (((s + 1 : Nat) : Int) - 1) = (s : Int) from by omega]
            have hz0 : ((s : Int) == (n : Int)) = false := by simp; omega
            have HN := hide (HBz.out.rr.row)
            clear hin ht
            go_wp2_with fail
            refine KA.out.mono ?_
            rintro e z1 ⟨rfl, hb⟩
            have HB6 := hide (HBz.out.old HC.out hb)
            have e1 := HB6.out.rr.row.cell s hs
            have e0 := HB6.out.rr.cell0
            clear hb KA HBz HN
            generalize d.t[s] = y at *
            generalize d.t.length = dl at *
            go_wp2_with fail
            exact ⟨⟨s + 2, by omega, congrArg (Value.int .i64) (by omega), HB6.out⟩, by simp [intOf] <;> omega⟩
          · have hk : ¬ (0 ≤ (t : Int) - 1 ∧ (t : Int) - 1 < (d.t.length : Int)) := by omega
            have KA := hide (HC.out.atNot p d F2 ((t : Int) - 1) wr HBz.out.dd HBz.out.ok ⟨by omega, by omega⟩ hk)
            rcases (show t = 0 ∨ t = n + 1 from by omega) with rfl | rfl
            · rw [show (((0 : Nat) : Int) - 1) = -1 from rfl] at KA ⊢
              clear hin hk ht
              go_wp2_with fail
              refine KA.out.mono ?_
              rintro e z1 ⟨rfl, hb⟩
              have HB6 := hide (HBz.out.old HC.out hb)
              clear hb KA HBz
              go_wp2_with fail
              exact ⟨⟨1, by omega, rfl, HB6.out⟩, by simp [intOf] <;> omega⟩
            · rw [show (((n + 1 : Nat) : Int) - 1) = (n : Int) from by omega] at KA ⊢
              have hz0 : ((n : Int) == (n : Int)) = true := by simp
              clear hin hk ht
              go_wp2_with fail
              refine KA.out.mono ?_
              rintro e z1 ⟨rfl, hb⟩
              have HB6 := hide (HBz.out.old HC.out hb)
              clear hb KA HBz
              go_wp2_with fail
              exact ⟨⟨n + 2, by omega, congrArg (Value.int .i64) (by omega), HB6.out⟩, by simp [intOf] <;> omega⟩
        · rw [show ((t : Int) - 1) = (n : Int) + 1 from by omega]
          clear htl ht
          go_wp2_with fail
          exact ⟨⟨j + 1, d, F2, hlt, by go_num, HBz.out, HLn1.out⟩, by simp [intOf] <;> omega⟩
    · have KA := hide (alive_any HC.out wr)
      clear hln hcb
      go_wp2_with fail
      refine KA.out.mono ?_
      rintro e w5 ⟨rfl, hb5⟩
      have HB5 := hide (HB.out.old HC.out hb5)
      clear hb5
      go_wp2
      go_ret
      exact ⟨rfl, HB5.out.below⟩
end Go.Proofs.Ytkphngljgfoniaa
