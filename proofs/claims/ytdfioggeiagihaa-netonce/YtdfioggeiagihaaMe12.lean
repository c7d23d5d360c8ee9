/- container/heap over the program's row: up, down. -/
import Derived.Test.YtdfioggeiagihaaMe11
namespace Go.Proofs.Ytdfioggeiagihaa
open Go Go.RowKit

theorem swp_comm {α : Type} (f : Nat → α) (a b : Nat) : swp f a b = swp f b a := by
  funext k
  unfold swp
  by_cases h1 : k = a
  · subst h1
    by_cases h2 : k = b
    · subst h2; rfl
    · rw [if_pos rfl, if_neg h2, if_pos rfl]
  · by_cases h2 : k = b
    · subst h2; rw [if_neg h1, if_pos rfl, if_pos rfl]
    · rw [if_neg h1, if_neg h2, if_neg h2, if_neg h1]
/-- What a rearranged row has in common with the row that it was. -/
structure Mixed (f f' : Nat → Lt) (n : Nat) : Prop where
  st : ∀ x, Stands f' n x ↔ Stands f n x
  on : Once1 f n → Once1 f' n
  far : ∀ k, n ≤ k → f' k = f k
theorem Mixed.refl (f : Nat → Lt) (n : Nat) : Mixed f f n := ⟨fun _ => Iff.rfl, fun h => h, fun _ _ => rfl⟩
theorem Mixed.swp {f f' : Nat → Lt} {n i j : Nat} (h : Mixed f f' n) (hi : i < n) (hj : j < n) : Mixed f (swp f' i j) n :=
  ⟨fun x => (stands_swp hi hj x).trans (h.st x), fun ho => (h.on ho).swp hi hj, fun k hk => by
    unfold Go.Proofs.Ytdfioggeiagihaa.swp
    rw [if_neg (by omega), if_neg (by omega)]
    exact h.far k hk⟩
set_option maxRecDepth 10000 in
set_option maxHeartbeats 2000000 in
theorem pUp (r : Nat) (v : Value) (f : Nat → Lt) (n j : Nat) (w : World) (h : HAt w r v (rowL f n)) (hj : j < n) (hn : n ≤ 4096) (hu : UpInv aheadB f n j) :
    Calls Try.prog 54 #[.iface 76 (.pointer (some ⟨r, 0, none⟩)), .int .i64 (j : Int)] w fun e w' => e = .returned (.tuple #[]) ∧ ∃ f', HAt w' r v (rowL f' n) ∧ IsHeap aheadB f' n ∧ Mixed f f' n ∧ Loc (HF r v) (HF r v) w w' := by
  have mL := mLess
  have mS := mSwap
  have H0 := hide (And.intro h (And.intro hu hj))
  have Hn := hide hn
  clear h hu hj hn
  go_enter Try.func54, Try.ntmps54
  go_wp2_with fail
  go_loopw [1, 4] (fun jv _ u => ∃ (k : Nat) (f' : Nat → Lt), jv = .int .i64 (k : Int) ∧ k < n ∧ HAt u r v (rowL f' n) ∧ UpInv aheadB f' n k ∧ Mixed f f' n ∧ Loc (HF r v) (HF r v) w u) (fun jv _ _ => (intOf jv).toNat)
  case atStart => exact ⟨j, f, rfl, H0.out.2.2, H0.out.1, H0.out.2.1, Mixed.refl f n, Loc.refl _ _⟩
  case round =>
    obtain ⟨k, f', rfl, hk, ha, hv, hm, hl⟩ := hrel
    have HA := hide (And.intro ha (And.intro hv (And.intro hm (And.intro hl hk))))
    have c0 := ha.cell
    have Hk := hide hk
    clear ha hv hm hl
    by_cases hk0 : k = 0
    · subst hk0
      have HD := hide (HA.out.2.1.done (Or.inl rfl))
      go_wp2_with fail
      exact bodyPost_end (results_none rfl _ _ _) rfl ⟨rfl, f', HA.out.1, HD.out, HA.out.2.2.1, HA.out.2.2.2.1⟩
    · have hkn := Hn.out
      obtain ⟨p, hp⟩ : ∃ p, p = par k := ⟨_, rfl⟩
      have hpk : p < k := hp ▸ par_lt (by omega)
      have hpz : ((k : Int) - 1).tdiv 2 = (p : Int) := by
        rw [Int.tdiv_eq_ediv_of_nonneg (by omega), hp]
        unfold par
        omega
      have Hp := hide hp
      clear hp
      have KL := hide (pLess r v f' n k p wr HA.out.1 Hk.out (by have := Hk.out; omega))
      cases hb : aheadB (f' k) (f' p) with
      | false =>
        have HD : Hid (IsHeap aheadB f' n) := HA.out.2.1.done (Or.inr (by rw [← Hp.out]; exact hb))
        rw [hb] at KL
        clear hb
        go_wp2_with fail
        refine KL.out.mono ?_
        rintro e w1 ⟨rfl, hb1⟩
        have H1 := hide (HA.out.1.below hb1)
        have HL1 := hide (HA.out.2.2.2.1.trans (Loc.of_below (HF r v) hb1))
        clear hb1 KL
        go_wp2_with fail
        exact bodyPost_end (results_none rfl _ _ _) rfl ⟨rfl, f', H1.out, HD.out, HA.out.2.2.1, HL1.out⟩
      | true =>
        have HD : Hid (UpInv aheadB (swp f' p k) n p) := by
          have := HA.out.2.1.step aheadB_ordr (by omega) Hk.out (by rw [← Hp.out]; exact hb)
          rw [← Hp.out, swp_comm] at this
          exact this
        rw [hb] at KL
        clear hb
        go_wp2_with fail
        refine KL.out.mono ?_
        rintro e w1 ⟨rfl, hb1⟩
        have H1 := hide (HA.out.1.below hb1)
        have HL1 := hide (HA.out.2.2.2.1.trans (Loc.of_below (HF r v) hb1))
        have KS := hide (pSwap r v f' n p k w1 H1.out (by have := Hk.out; omega) Hk.out)
        have c1 := H1.out.cell
        have HM : Hid (Mixed f (swp f' p k) n) := HA.out.2.2.1.swp (by have := Hk.out; omega) Hk.out
        clear hb1 KL c0 H1
        go_wp2_with fail
        refine KS.out.mono ?_
        rintro e w2 ⟨rfl, ha2, hl2⟩
        have H2 := hide ha2
        have HL2 := hide (HL1.out.trans hl2)
        clear ha2 hl2 KS c1 HL1
        go_wp2_with fail
        exact ⟨⟨p, swp f' p k, rfl, by have := Hk.out; omega, H2.out, HD.out, HM.out, HL2.out⟩, by simp [intOf]; omega⟩
/-- Which of the two below goes up. -/
def kid (f : Nat → Lt) (n k : Nat) : Nat := if 2 * k + 2 < n ∧ aheadB (f (2 * k + 2)) (f (2 * k + 1)) = true then 2 * k + 2 else 2 * k + 1
theorem kid_is (f : Nat → Lt) (n k : Nat) (h : 2 * k + 1 < n) : 0 < kid f n k ∧ kid f n k < n ∧ par (kid f n k) = k ∧ ∀ c, 0 < c → c < n → par c = k → aheadB (f c) (f (kid f n k)) = false := by
  unfold kid
  by_cases h2 : 2 * k + 2 < n ∧ aheadB (f (2 * k + 2)) (f (2 * k + 1)) = true
  · rw [if_pos h2]
    refine ⟨by omega, h2.1, kid2 k, fun c h0 _ hp => ?_⟩
    rcases par_kids h0 hp with rfl | rfl
    · exact aheadB_ordr.asym _ _ h2.2
    · exact aheadB_ordr.irr _
  · rw [if_neg h2]
    refine ⟨by omega, h, kid1 k, fun c h0 hn hp => ?_⟩
    rcases par_kids h0 hp with rfl | rfl
    · exact aheadB_ordr.irr _
    · cases hb : aheadB (f (2 * k + 2)) (f (2 * k + 1)) with
      | false => rfl
      | true => exact absurd ⟨hn, hb⟩ h2
theorem down_done {f : Nat → Lt} {n k : Nat} (h : DownInv aheadB f n k) (h1 : 2 * k + 1 < n) (hl : aheadB (f (kid f n k)) (f k) = false) : IsHeap aheadB f n :=
  h.done (fun c h0 hn hp => aheadB_ordr.trans _ _ _ hl ((kid_is f n k h1).2.2.2 c h0 hn hp))
theorem down_leaf {f : Nat → Lt} {n k : Nat} (h : DownInv aheadB f n k) (h1 : ¬ 2 * k + 1 < n) : IsHeap aheadB f n :=
  h.done (fun c h0 hn hp => by rcases par_kids h0 hp with rfl | rfl <;> omega)
theorem down_step {f : Nat → Lt} {n k : Nat} (h : DownInv aheadB f n k) (h1 : 2 * k + 1 < n) (hl : aheadB (f (kid f n k)) (f k) = true) : DownInv aheadB (swp f k (kid f n k)) n (kid f n k) := by
  obtain ⟨a, b, c, d⟩ := kid_is f n k h1
  exact h.step aheadB_ordr a b c d hl
set_option maxRecDepth 10000 in
set_option maxHeartbeats 4000000 in
theorem pDown (r : Nat) (v : Value) (f : Nat → Lt) (N n : Nat) (w : World) (h : HAt w r v (rowL f N)) (hnN : n ≤ N) (hN : N ≤ 4096) (hd : DownInv aheadB f n 0) :
    Calls Try.prog 55 #[.iface 76 (.pointer (some ⟨r, 0, none⟩)), .int .i64 0, .int .i64 (n : Int)] w fun e w' => (∃ b, e = .returned (.bool b)) ∧ ∃ f', HAt w' r v (rowL f' N) ∧ IsHeap aheadB f' n ∧ Mixed f f' n ∧ Loc (HF r v) (HF r v) w w' := by
  have mL := mLess
  have mS := mSwap
  have H0 := hide (And.intro h hd)
  have Hn := hide (And.intro hnN hN)
  clear h hd hnN hN
  go_enter Try.func55, Try.ntmps55
  go_wp2_with fail
  go_loopw [7, 8, 9, 10] (fun jv _ _ _ u => ∃ (k : Nat) (f' : Nat → Lt), jv = .int .i64 (k : Int) ∧ (k = 0 ∨ k < n) ∧ HAt u r v (rowL f' N) ∧ DownInv aheadB f' n k ∧ Mixed f f' n ∧ Loc (HF r v) (HF r v) w u) (fun jv _ _ _ _ => n - (intOf jv).toNat)
  case atStart => exact ⟨0, f, rfl, Or.inl rfl, H0.out.1, H0.out.2, Mixed.refl f n, Loc.refl _ _⟩
  case round =>
    obtain ⟨k, f', rfl, hk, ha, hv, hm, hl⟩ := hrel
    have HA := hide (And.intro ha (And.intro hv (And.intro hm (And.intro hl hk))))
    have c0 := ha.cell
    have hkb : k ≤ 4096 := by have := Hn.out; omega
    have hnb : n ≤ 4096 := by have := Hn.out; omega
    clear ha hv hm hl hk
    go_upto_region 3 with fail
    obtain ⟨a, ha⟩ : ∃ a : Nat, a = 2 * k + 1 := ⟨_, rfl⟩
    have haz : 2 * (k : Int) + 1 = (a : Int) := by omega
    rw [haz]
    have Ha := hide ha
    have hab : a ≤ 8193 := by omega
    clear haz ha
    by_cases han : a < n
    · have hanz : ¬ (n : Int) ≤ (a : Int) := by omega
      have Hlt : Hid (2 * k + 1 < n) := by have := Ha.out; unfold Hid; omega
      have Han := hide han
      go_upto_region 6 with fail
      obtain ⟨q, hq⟩ : ∃ q : Nat, q = 2 * k + 2 := ⟨_, rfl⟩
      have hqz : (a : Int) + 1 = (q : Int) := by have := Ha.out; omega
      rw [hqz]
      have Hqq := hide hq
      have hqb : q ≤ 8194 := by omega
      clear hqz hq
      by_cases hqn : q < n
      · have hqnz : (q : Int) < (n : Int) := by omega
        have KQ := hide (pLess r v f' N q a wr HA.out.1 (by have := Hn.out; omega) (by have := Hn.out; omega))
        cases hbq : aheadB (f' q) (f' a) with
        | false =>
          have Hkid : Hid (kid f' n k = a) := by
            show kid f' n k = a
            unfold kid
            rw [← Hqq.out, ← Ha.out, hbq, if_neg (fun h => by cases h.2)]
          rw [hbq] at KQ
          clear hbq hqn han
          go_wp2_with fail
          refine KQ.out.mono ?_
          rintro e y ⟨rfl, hby⟩
          have HY := hide (HA.out.1.below hby)
          have HLY := hide (HA.out.2.2.2.1.trans (Loc.of_below (HF r v) hby))
          clear hby KQ c0
          have Hq := hide (kid_is f' n k Hlt.out)
          rw [Hkid.out] at Hq
          have KT := hide (pLess r v f' N a k y HY.out (by have := Hn.out; have := Hq.out.2.1; omega) (by have := Hn.out; have := Hlt.out; omega))
          have cT := HY.out.cell
          cases hbt : aheadB (f' a) (f' k) with
          | false =>
            have HD : Hid (IsHeap aheadB f' n) := down_done HA.out.2.1 Hlt.out (by rw [Hkid.out]; exact hbt)
            rw [hbt] at KT
            clear hbt
            go_wp2_with fail
            refine KT.out.mono ?_
            rintro e z ⟨rfl, hbz⟩
            have HZ := hide (HY.out.below hbz)
            have HLZ := hide (HLY.out.trans (Loc.of_below (HF r v) hbz))
            clear hbz KT cT
            go_wp2_with fail
            try go_wp2
            go_ret
            exact ⟨⟨_, rfl⟩, f', HZ.out, HD.out, HA.out.2.2.1, HLZ.out⟩
          | true =>
            have HD : Hid (DownInv aheadB (swp f' k a) n a) := by
              have := down_step HA.out.2.1 Hlt.out (by rw [Hkid.out]; exact hbt)
              rw [Hkid.out] at this
              exact this
            rw [hbt] at KT
            clear hbt
            go_wp2_with fail
            refine KT.out.mono ?_
            rintro e z ⟨rfl, hbz⟩
            have HZ := hide (HY.out.below hbz)
            have HLZ := hide (HLY.out.trans (Loc.of_below (HF r v) hbz))
            have KS := hide (pSwap r v f' N k a z HZ.out (by have := Hn.out; have := Hlt.out; omega) (by have := Hn.out; have := Hq.out.2.1; omega))
            have cZ := HZ.out.cell
            have HM : Hid (Mixed f (swp f' k a) n) := HA.out.2.2.1.swp (by have := Hlt.out; omega) Hq.out.2.1
            clear hbz KT cT HZ
            go_wp2_with fail
            refine KS.out.mono ?_
            rintro e z2 ⟨rfl, haz2, hlz2⟩
            have HZ2 := hide haz2
            have HLZ2 := hide (HLZ.out.trans hlz2)
            clear haz2 hlz2 KS cZ HLZ
            go_wp2_with fail
            exact ⟨⟨a, swp f' k a, rfl, Or.inr Hq.out.2.1, HZ2.out, HD.out, HM.out, HLZ2.out⟩, by have h1 := Hq.out.2.1; have h2 := par_lt Hq.out.1; rw [Hq.out.2.2.1] at h2; simp [intOf]; omega⟩
        | true =>
          have Hkid : Hid (kid f' n k = q) := by
            show kid f' n k = q
            unfold kid
            rw [← Hqq.out, ← Ha.out, hbq, if_pos ⟨hqn, rfl⟩]
          rw [hbq] at KQ
          clear hbq hqn han
          go_wp2_with fail
          refine KQ.out.mono ?_
          rintro e y ⟨rfl, hby⟩
          have HY := hide (HA.out.1.below hby)
          have HLY := hide (HA.out.2.2.2.1.trans (Loc.of_below (HF r v) hby))
          clear hby KQ c0
          have Hq := hide (kid_is f' n k Hlt.out)
          rw [Hkid.out] at Hq
          have KT := hide (pLess r v f' N q k y HY.out (by have := Hn.out; have := Hq.out.2.1; omega) (by have := Hn.out; have := Hlt.out; omega))
          have cT := HY.out.cell
          cases hbt : aheadB (f' q) (f' k) with
          | false =>
            have HD : Hid (IsHeap aheadB f' n) := down_done HA.out.2.1 Hlt.out (by rw [Hkid.out]; exact hbt)
            rw [hbt] at KT
            clear hbt
            go_wp2_with fail
            refine KT.out.mono ?_
            rintro e z ⟨rfl, hbz⟩
            have HZ := hide (HY.out.below hbz)
            have HLZ := hide (HLY.out.trans (Loc.of_below (HF r v) hbz))
            clear hbz KT cT
            go_wp2_with fail
            try go_wp2
            go_ret
            exact ⟨⟨_, rfl⟩, f', HZ.out, HD.out, HA.out.2.2.1, HLZ.out⟩
          | true =>
            have HD : Hid (DownInv aheadB (swp f' k q) n q) := by
              have := down_step HA.out.2.1 Hlt.out (by rw [Hkid.out]; exact hbt)
              rw [Hkid.out] at this
              exact this
            rw [hbt] at KT
            clear hbt
            go_wp2_with fail
            refine KT.out.mono ?_
            rintro e z ⟨rfl, hbz⟩
            have HZ := hide (HY.out.below hbz)
            have HLZ := hide (HLY.out.trans (Loc.of_below (HF r v) hbz))
            have KS := hide (pSwap r v f' N k q z HZ.out (by have := Hn.out; have := Hlt.out; omega) (by have := Hn.out; have := Hq.out.2.1; omega))
            have cZ := HZ.out.cell
            have HM : Hid (Mixed f (swp f' k q) n) := HA.out.2.2.1.swp (by have := Hlt.out; omega) Hq.out.2.1
            clear hbz KT cT HZ
            go_wp2_with fail
            refine KS.out.mono ?_
            rintro e z2 ⟨rfl, haz2, hlz2⟩
            have HZ2 := hide haz2
            have HLZ2 := hide (HLZ.out.trans hlz2)
            clear haz2 hlz2 KS cZ HLZ
            go_wp2_with fail
            exact ⟨⟨q, swp f' k q, rfl, Or.inr Hq.out.2.1, HZ2.out, HD.out, HM.out, HLZ2.out⟩, by have h1 := Hq.out.2.1; have h2 := par_lt Hq.out.1; rw [Hq.out.2.2.1] at h2; simp [intOf]; omega⟩
      · have hqnz : ¬ (q : Int) < (n : Int) := by omega
        have Hkid : Hid (kid f' n k = a) := by
          show kid f' n k = a
          unfold kid
          rw [← Hqq.out, if_neg (fun h => hqn h.1), Ha.out]
        have HY := hide HA.out.1
        have HLY := hide HA.out.2.2.2.1
        clear hqn han c0
        have Hq := hide (kid_is f' n k Hlt.out)
        rw [Hkid.out] at Hq
        have KT := hide (pLess r v f' N a k wr HY.out (by have := Hn.out; have := Hq.out.2.1; omega) (by have := Hn.out; have := Hlt.out; omega))
        have cT := HY.out.cell
        cases hbt : aheadB (f' a) (f' k) with
        | false =>
          have HD : Hid (IsHeap aheadB f' n) := down_done HA.out.2.1 Hlt.out (by rw [Hkid.out]; exact hbt)
          rw [hbt] at KT
          clear hbt
          go_wp2_with fail
          refine KT.out.mono ?_
          rintro e z ⟨rfl, hbz⟩
          have HZ := hide (HY.out.below hbz)
          have HLZ := hide (HLY.out.trans (Loc.of_below (HF r v) hbz))
          clear hbz KT cT
          go_wp2_with fail
          try go_wp2
          go_ret
          exact ⟨⟨_, rfl⟩, f', HZ.out, HD.out, HA.out.2.2.1, HLZ.out⟩
        | true =>
          have HD : Hid (DownInv aheadB (swp f' k a) n a) := by
            have := down_step HA.out.2.1 Hlt.out (by rw [Hkid.out]; exact hbt)
            rw [Hkid.out] at this
            exact this
          rw [hbt] at KT
          clear hbt
          go_wp2_with fail
          refine KT.out.mono ?_
          rintro e z ⟨rfl, hbz⟩
          have HZ := hide (HY.out.below hbz)
          have HLZ := hide (HLY.out.trans (Loc.of_below (HF r v) hbz))
          have KS := hide (pSwap r v f' N k a z HZ.out (by have := Hn.out; have := Hlt.out; omega) (by have := Hn.out; have := Hq.out.2.1; omega))
          have cZ := HZ.out.cell
          have HM : Hid (Mixed f (swp f' k a) n) := HA.out.2.2.1.swp (by have := Hlt.out; omega) Hq.out.2.1
          clear hbz KT cT HZ
          go_wp2_with fail
          refine KS.out.mono ?_
          rintro e z2 ⟨rfl, haz2, hlz2⟩
          have HZ2 := hide haz2
          have HLZ2 := hide (HLZ.out.trans hlz2)
          clear haz2 hlz2 KS cZ HLZ
          go_wp2_with fail
          exact ⟨⟨a, swp f' k a, rfl, Or.inr Hq.out.2.1, HZ2.out, HD.out, HM.out, HLZ2.out⟩, by have h1 := Hq.out.2.1; have h2 := par_lt Hq.out.1; rw [Hq.out.2.2.1] at h2; simp [intOf]; omega⟩
    · have hanz : (n : Int) ≤ (a : Int) := by omega
      have HD : Hid (IsHeap aheadB f' n) := down_leaf HA.out.2.1 (by have := Ha.out; omega)
      clear han
      go_wp2_with fail
      try go_wp2
      go_ret
      exact ⟨⟨_, rfl⟩, f', HA.out.1, HD.out, HA.out.2.2.1, HA.out.2.2.2.1⟩
end Go.Proofs.Ytdfioggeiagihaa
