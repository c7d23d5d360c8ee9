/- The document's own net: Part, Join. -/
import Derived.Test.YtdfioggeiagihaaRef6
namespace Go.Proofs.Ytdfioggeiagihaa
open Go Go.RowKit

theorem cuts_snoc (cuts : List (Int × Int)) (c : Int × Int) (x y : Int) : cutsOf (cuts ++ [c]) x y = (cutsOf cuts x y || pair c.1 c.2 x y) := by
  unfold cutsOf
  rw [List.any_append]
  simp
theorem pair_true {a b x y : Int} (h : pair a b x y = true) : (x = a ∧ y = b) ∨ (x = b ∧ y = a) := of_decide_eq_true h
theorem part_known {st : Nt} {a b : Int} {m : Nat} (hok : st.Ok m) (hp : st.p a b = true) (x y : Int) : (partN st a b).p x y = st.p x y := by
  show (st.p x y || pair a b x y) = st.p x y
  cases h : pair a b x y with
  | false => simp
  | true =>
    rcases pair_true h with ⟨rfl, rfl⟩ | ⟨rfl, rfl⟩
    · rw [hp]; rfl
    · rw [hok.sym x y, hp]; rfl
/-- Those pairs that are not a, b. -/
def others (a b : Int) (cuts : List (Int × Int)) : List (Int × Int) := cuts.filter (fun c => !pair a b c.1 c.2)
theorem others_of (a b : Int) (cuts : List (Int × Int)) (x y : Int) : cutsOf (others a b cuts) x y = (cutsOf cuts x y && !pair a b x y) := by
  unfold cutsOf others
  induction cuts with
  | nil => rfl
  | cons c cuts ih =>
    rw [List.filter_cons, List.any_cons]
    by_cases hc : pair c.1 c.2 x y = true
    · have e : pair a b c.1 c.2 = pair a b x y := by
        rcases pair_true hc with ⟨h1, h2⟩ | ⟨h1, h2⟩
        · rw [h1, h2]
        · rw [h1, h2, pair_sym]
      rw [e, hc]
      cases h : pair a b x y <;> simp [h, hc] at ih ⊢
      exact ih
    · have hc' : pair c.1 c.2 x y = false := by simpa using hc
      rw [hc']
      cases pair a b c.1 c.2 <;> simp [hc'] at ih ⊢ <;> exact ih
theorem others_next (a b : Int) (cuts : List (Int × Int)) (k : Nat) (h : k < cuts.length) : others a b (cuts.take (k + 1)) = others a b (cuts.take k) ++ if pair a b cuts[k].1 cuts[k].2 = true then [] else [cuts[k]] := by
  unfold others
  rw [List.take_succ_eq_append_getElem h, List.filter_append]
  congr 1
  rw [List.filter_cons]
  cases pair a b cuts[k].1 cuts[k].2 <;> simp
theorem others_few (a b : Int) (cuts : List (Int × Int)) : (others a b cuts).length ≤ cuts.length := List.length_filter_le _ _
theorem news2 (u : World) (a b : Value) (T : TypeId) : ∀ (j : Nat) (v : Value), ([a, b] : List Value)[j]? = some v → (u.alloc (.cells #[a, b] T)).cell? ((⟨u.heap.size, 0, none⟩ : Addr).add j) = some v := by
  intro j v hj
  have hb := Box.new u #[a, b] T
  have e1 : (⟨u.heap.size, 0, none⟩ : Addr).add j = ⟨u.heap.size, j, none⟩ := by unfold Addr.add; split <;> simp_all
  rw [e1]
  exact hb.get j (by simpa using hj)
theorem Nt.part_bad {st : Nt} {a b : Int} (h : (adr a && adr b && !decide (a = b)) = false) : st.part a b = (2, st) := by unfold Nt.part; rw [if_pos h]
theorem Nt.part_ok {st : Nt} {a b : Int} (h : (adr a && adr b && !decide (a = b)) = true) : st.part a b = (0, partN st a b) := by unfold Nt.part; rw [if_neg (by rw [h]; simp)]
theorem Nt.join_bad {st : Nt} {a b : Int} (h : (adr a && adr b && !decide (a = b)) = false) : st.join a b = (2, st) := by unfold Nt.join; rw [if_pos h]
theorem Nt.join_ok {st : Nt} {a b : Int} (h : (adr a && adr b && !decide (a = b)) = true) : st.join a b = (0, joinN st a b) := by unfold Nt.join; rw [if_neg (by rw [h]; simp)]
set_option maxRecDepth 10000 in
set_option maxHeartbeats 2000000 in
theorem rPart (q : Nat) (vL vC : Value) (st : Nt) (cuts : List (Int × Int)) (m : Nat) (a b : Int) (w : World) (h : RAt w q vL vC st cuts) (hok : st.Ok m) (hcu : cuts.length ≤ 4000) :
    Calls Try.prog 21 #[.pointer (some ⟨q, 0, none⟩), .int .i64 a, .int .i64 b] w fun e w' => e = .returned (.int .i64 (((st.part a b).1 : Nat) : Int)) ∧ ∃ vC' cuts', cuts'.length ≤ cuts.length + 1 ∧ RAt w' q vL vC' (st.part a b).2 cuts' ∧ Loc (RF q vL vC) (RF q vL vC') w w' := by
  obtain ⟨i0, hi, hz0, hz1, hz2⟩ := info_parts infoC
  have HI := hide (And.intro hi (And.intro hz0 (And.intro hz1 hz2)))
  have H := hide h
  have KA := fun z => hide (rAddr a z)
  have KB := fun z => hide (rAddr b z)
  have KP := hide (rParted q vL vC st cuts a b w h (by omega))
  have HOk := hide hok
  clear hi hz0 hz1 hz2 h hok
  cases ha : adr a with
  | false =>
    have HE := hide (Nt.part_bad (st := st) (a := a) (b := b) (by rw [ha]; rfl))
    rw [ha] at KA
    clear ha KP
    go_enter Try.func21, Try.ntmps21
    go_wp2_with fail
    refine (KA _).out.mono ?_
    rintro e w1 ⟨rfl, rfl⟩
    go_wp2
    go_ret
    exact ⟨by rw [HE.out]; rfl, vC, cuts, by omega, by rw [HE.out]; exact H.out, Loc.refl _ _⟩
  | true =>
    cases hb : adr b with
    | false =>
      have HE := hide (Nt.part_bad (st := st) (a := a) (b := b) (by rw [ha, hb]; rfl))
      rw [ha] at KA
      rw [hb] at KB
      clear ha hb KP
      go_enter Try.func21, Try.ntmps21
      go_wp2_with fail
      refine (KA _).out.mono ?_
      rintro e w1 ⟨rfl, hw⟩
      obtain rfl := hw.symm
      clear hw KA
      go_wp2_with fail
      refine (KB _).out.mono ?_
      rintro e w1 ⟨rfl, rfl⟩
      go_wp2
      go_ret
      exact ⟨by rw [HE.out]; rfl, vC, cuts, by omega, by rw [HE.out]; exact H.out, Loc.refl _ _⟩
    | true =>
      by_cases hab : a = b
      · have HE := hide (Nt.part_bad (st := st) (a := a) (b := b) (by rw [ha, hb]; simp [hab]))
        rw [ha] at KA
        rw [hb] at KB
        have hz : (a == b) = true := by simp [hab]
        clear ha hb KP hab
        go_enter Try.func21, Try.ntmps21
        go_wp2_with fail
        refine (KA _).out.mono ?_
        rintro e w1 ⟨rfl, hw⟩
        obtain rfl := hw.symm
        clear hw KA
        go_wp2_with fail
        refine (KB _).out.mono ?_
        rintro e w1 ⟨rfl, rfl⟩
        go_wp2
        go_ret
        exact ⟨by rw [HE.out]; rfl, vC, cuts, by omega, by rw [HE.out]; exact H.out, Loc.refl _ _⟩
      · have HE := hide (Nt.part_ok (st := st) (a := a) (b := b) (by rw [ha, hb]; simp [hab]))
        rw [ha] at KA
        rw [hb] at KB
        have hz : (a == b) = false := by simpa using hab
        clear ha hb hab
        cases hpt : st.p a b with
        | true =>
          have HK := hide (part_known HOk.out hpt)
          rw [hpt] at KP
          clear hpt
          go_enter Try.func21, Try.ntmps21
          go_wp2_with fail
          refine (KA _).out.mono ?_
          rintro e w1 ⟨rfl, hw⟩
          obtain rfl := hw.symm
          clear hw KA
          go_wp2_with fail
          refine (KB _).out.mono ?_
          rintro e w1 ⟨rfl, hw⟩
          obtain rfl := hw.symm
          clear hw KB
          go_wp2_with fail
          refine KP.out.mono ?_
          rintro e w1 ⟨rfl, hw⟩
          obtain rfl := hw.symm
          clear hw KP
          go_wp2
          go_ret
          exact ⟨by rw [HE.out]; rfl, vC, cuts, by omega, by rw [HE.out]; exact ⟨H.out.head, H.out.ls, H.out.cs, fun x y => (HK.out x y).trans (H.out.cut x y)⟩, Loc.refl _ _⟩
        | false =>
          rw [hpt] at KP
          clear hpt
          obtain ⟨-, -, q2⟩ := H.out.cells
          have hf2 := H.out.free 2
          obtain ⟨aC, cC, rfl, -, -, -⟩ := H.out.cs.slice
          go_enter Try.func21, Try.ntmps21
          go_wp2_with fail
          refine (KA _).out.mono ?_
          rintro e w1 ⟨rfl, hw⟩
          obtain rfl := hw.symm
          clear hw KA
          go_wp2_with fail
          refine (KB _).out.mono ?_
          rintro e w1 ⟨rfl, hw⟩
          obtain rfl := hw.symm
          clear hw KB
          go_wp2_with fail
          refine KP.out.mono ?_
          rintro e w1 ⟨rfl, hw⟩
          obtain rfl := hw.symm
          clear hw KP
          go_wp2_with (at_builtin; refine wpList_append_own_at _ rfl _ _ 30 rfl 0 72 i0 (.agg #[.int .i64 0, .int .i64 0]) 2 16 Try.underlying30 HI.out.1 HI.out.2.1 HI.out.2.2.1 HI.out.2.2.2 rfl (by decide) (.slice aC cuts.length cC) cuts.length _ rfl (World.ownsRow.alloc H.out.cs _) ⟨w.heap.size, 0, none⟩ 1 1 [.int .i64 a, .int .i64 b] rfl rfl (news2 w _ _ _) (one_cutC [(a, b)]) (by unfold maxLen; omega) (by omega) (Nat.zero_le _) ?_)
          intro v' w1 hown1 hgr1 _ hat1
          obtain ⟨he, hA, hLl⟩ := H.out.grewC (c := (a, b)) (p' := (partN st a b).p) (one_below w _) hgr1 hown1 (by rcases hat1 with h3 | h3; exact Or.inl h3; exact Or.inr ⟨_, by simp, h3⟩) (fun x y => by
            rw [cuts_snoc]
            show (st.p x y || pair a b x y) = _
            rw [H.out.cut])
          have HA := hide (And.intro hA hLl)
          have hh := he.trans H.out.head
          have c2 : w1.cell? ⟨q, 2, none⟩ = some (.slice aC cuts.length cC) := by simp [World.cell?, hh]
          have f2 : w1.frozen? ⟨q, 2, none⟩ = false := by simp [World.frozen?, hh]
          obtain ⟨a2, d2, rfl, -, -, -⟩ := slice_of hown1
          clear hown1 hgr1 hat1 he hA hLl hh q2 hf2
          go_wp2_with fail
          go_ret
          exact ⟨by rw [HE.out]; rfl, _, cuts ++ [(a, b)], by simp, by rw [HE.out]; exact HA.out.1, HA.out.2⟩
theorem pair_here (a b x y : Int) : pair a b x y = ((x == a && y == b) || (x == b && y == a)) := by
  unfold pair
  rw [Bool.eq_iff_iff]
  simp
set_option maxRecDepth 10000 in
set_option maxHeartbeats 2000000 in
theorem rJoin (q : Nat) (vL vC : Value) (st : Nt) (cuts : List (Int × Int)) (a b : Int) (w : World) (h : RAt w q vL vC st cuts) (hcu : cuts.length ≤ 4000) :
    Calls Try.prog 23 #[.pointer (some ⟨q, 0, none⟩), .int .i64 a, .int .i64 b] w fun e w' => e = .returned (.int .i64 (((st.join a b).1 : Nat) : Int)) ∧ ∃ vC' cuts', cuts'.length ≤ cuts.length + 1 ∧ RAt w' q vL vC' (st.join a b).2 cuts' ∧ Loc (RF q vL vC) (RF q vL vC') w w' := by
  obtain ⟨i0, hi, hz0, hz1, hz2⟩ := info_parts infoC
  have HI := hide (And.intro hi (And.intro hz0 (And.intro hz1 hz2)))
  have H := hide h
  have KA := fun z => hide (rAddr a z)
  have KB := fun z => hide (rAddr b z)
  clear hi hz0 hz1 hz2 h
  cases ha : adr a with
  | false =>
    have HE := hide (Nt.join_bad (st := st) (a := a) (b := b) (by rw [ha]; rfl))
    rw [ha] at KA
    clear ha
    go_enter Try.func23, Try.ntmps23
    go_wp2_with fail
    refine (KA _).out.mono ?_
    rintro e w1 ⟨rfl, rfl⟩
    go_wp2
    go_ret
    exact ⟨by rw [HE.out]; rfl, vC, cuts, by omega, by rw [HE.out]; exact H.out, Loc.refl _ _⟩
  | true =>
    cases hb : adr b with
    | false =>
      have HE := hide (Nt.join_bad (st := st) (a := a) (b := b) (by rw [ha, hb]; rfl))
      rw [ha] at KA
      rw [hb] at KB
      clear ha hb
      go_enter Try.func23, Try.ntmps23
      go_wp2_with fail
      refine (KA _).out.mono ?_
      rintro e w1 ⟨rfl, hw⟩
      obtain rfl := hw.symm
      clear hw KA
      go_wp2_with fail
      refine (KB _).out.mono ?_
      rintro e w1 ⟨rfl, rfl⟩
      go_wp2
      go_ret
      exact ⟨by rw [HE.out]; rfl, vC, cuts, by omega, by rw [HE.out]; exact H.out, Loc.refl _ _⟩
    | true =>
      by_cases hab : a = b
      · have HE := hide (Nt.join_bad (st := st) (a := a) (b := b) (by rw [ha, hb]; simp [hab]))
        rw [ha] at KA
        rw [hb] at KB
        have hz : (a == b) = true := by simp [hab]
        clear ha hb hab
        go_enter Try.func23, Try.ntmps23
        go_wp2_with fail
        refine (KA _).out.mono ?_
        rintro e w1 ⟨rfl, hw⟩
        obtain rfl := hw.symm
        clear hw KA
        go_wp2_with fail
        refine (KB _).out.mono ?_
        rintro e w1 ⟨rfl, rfl⟩
        go_wp2
        go_ret
        exact ⟨by rw [HE.out]; rfl, vC, cuts, by omega, by rw [HE.out]; exact H.out, Loc.refl _ _⟩
      · have HE := hide (Nt.join_ok (st := st) (a := a) (b := b) (by rw [ha, hb]; simp [hab]))
        rw [ha] at KA
        rw [hb] at KB
        have hz : (a == b) = false := by simpa using hab
        clear ha hb hab
        obtain ⟨-, -, q2⟩ := H.out.cells
        have hf2 := H.out.free 2
        obtain ⟨aC, cC, rfl, -, -, -⟩ := H.out.cs.slice
        have he2 := eq2
        go_enter Try.func23, Try.ntmps23
        go_wp2_with fail
        refine (KA _).out.mono ?_
        rintro e w1 ⟨rfl, hw⟩
        obtain rfl := hw.symm
        clear hw KA
        go_wp2_with fail
        refine (KB _).out.mono ?_
        rintro e w1 ⟨rfl, hw⟩
        obtain rfl := hw.symm
        clear hw KB q2 hf2
        go_wp2_with fail
        go_loopw [7, 8] (fun lv i u => ∃ k : Nat, k ≤ cuts.length ∧ i = .int .i64 (k : Int) ∧ Recs u 72 2 cutC lv (others a b (cuts.take k)) ∧ Below w.heap.size w u ∧ ∀ g, lv.ownBlock = some g → w.heap.size ≤ g) (fun _ i _ => cuts.length - (intOf i).toNat)
        case atStart => exact ⟨0, Nat.zero_le _, rfl, Recs.nil _ _ _ _, Below.refl _ _, fun g hg => by cases hg⟩
        case round =>
          obtain ⟨k, hk, rfl, hrow, hbe, hnew⟩ := hrel
          have HRow := hide hrow
          have HBe := hide hbe
          have HNew := hide hnew
          have HW := hide (H.out.below hbe)
          obtain ⟨-, -, q2⟩ := (H.out.below hbe).cells
          have hq0 := (H.out.below hbe).free 2
          clear hrow hbe hnew
          by_cases hlt : k < cuts.length
          · obtain ⟨g, c', e', -, -, h4, -⟩ := Recs.there HW.out.cs cutC_len (by omega)
            cases e'
            have e0 : wr.cell? ⟨g, k * 2, none⟩ = some (.int .i64 cuts[k].1) := h4 k 0 hlt (by decide)
            have e1 : wr.cell? ⟨g, k * 2 + 1, none⟩ = some (.int .i64 cuts[k].2) := h4 k 1 hlt (by decide)
            have HC := hide (others_next a b cuts k hlt)
            have HP := hide (pair_here a b cuts[k].1 cuts[k].2)
            have HKc := hide (show cuts[k] = (cuts[k].1, cuts[k].2) from rfl)
            have hkz : (k : Int) < (cuts.length : Int) := by omega
            clear h4 hq0
            generalize hck : cuts[k] = ck at *
            clear hck
            obtain ⟨a0, b0⟩ := ck
            dsimp only at *
            by_cases hA : (a0 == a && b0 == b) = true
            · have HT : Hid (others a b (cuts.take (k + 1)) = others a b (cuts.take k)) := by
                unfold Hid
                have h1 := HC.out
                rw [HP.out, hA] at h1
                simpa using h1
              go_wp2_with fail
              exact ⟨⟨k + 1, hlt, by go_num, by rw [HT.out]; exact HRow.out, HBe.out, HNew.out⟩, by simp [intOf]; omega⟩
            · have hA2 : (a0 == a && b0 == b) = false := by simpa using hA
              by_cases hB : (a0 == b && b0 == a) = true
              · have HT : Hid (others a b (cuts.take (k + 1)) = others a b (cuts.take k)) := by
                  unfold Hid
                  have h1 := HC.out
                  rw [HP.out, hB] at h1
                  simpa using h1
                clear hA
                go_wp2_with fail
                exact ⟨⟨k + 1, hlt, by go_num, by rw [HT.out]; exact HRow.out, HBe.out, HNew.out⟩, by simp [intOf]; omega⟩
              · have hB2 : (a0 == b && b0 == a) = false := by simpa using hB
                have HT : Hid (others a b (cuts.take (k + 1)) = others a b (cuts.take k) ++ [(a0, b0)]) := by
                  unfold Hid
                  have h1 := HC.out
                  rw [HP.out, hA2, hB2] at h1
                  simpa using h1
                have hof : (others a b (cuts.take k)).length ≤ 4000 := by
                  have := others_few a b (cuts.take k)
                  rw [List.length_take] at this
                  omega
                clear hA hB
                generalize others a b (cuts.take k) = O at *
                obtain ⟨aO, cO, rfl, -, -, -⟩ := HRow.out.slice
                go_wp2_with (at_builtin; refine wpList_append_own_at _ rfl _ _ 30 rfl 0 72 i0 (.agg #[.int .i64 0, .int .i64 0]) 2 16 Try.underlying30 HI.out.1 HI.out.2.1 HI.out.2.2.1 HI.out.2.2.2 rfl (by decide) (.slice aO O.length cO) O.length _ rfl (World.ownsRow.alloc HRow.out _) ⟨wr.heap.size, 0, none⟩ 1 1 [.int .i64 a0, .int .i64 b0] rfl rfl (news2 wr _ _ _) (one_cutC [(a0, b0)]) (by unfold maxLen; omega) (by omega) (Nat.zero_le _) ?_)
                intro v' w1 hown1 hgr1 _ hat1
                have hb1 : Below w.heap.size w w1 := (HBe.out.trans ((one_below wr _).mono HBe.out.size)).grown hgr1 (by have := HBe.out.size; simp; omega) (fun j hj => HNew.out j hj)
                have hl1 : Recs w1 72 2 cutC v' (others a b (cuts.take (k + 1))) := by
                  rw [HT.out]
                  unfold Recs
                  rw [List.length_append, List.flatMap_append]
                  exact hown1
                have hn1 : ∀ g, v'.ownBlock = some g → w.heap.size ≤ g := fun j hj => by
                  rcases hat1 with h1 | h1
                  · rw [h1] at hj; exact HNew.out j hj
                  · rw [h1] at hj
                    cases hj
                    have := HBe.out.size
                    simp
                    omega
                have HN := hide (And.intro hl1 (And.intro hb1 hn1))
                clear hown1 hgr1 hat1 hb1 hl1 hn1
                go_wp2_with fail
                exact ⟨⟨k + 1, hlt, by go_num, HN.out.1, HN.out.2.1, HN.out.2.2⟩, by simp [intOf]; omega⟩
          · have hkz : ¬ (k : Int) < (cuts.length : Int) := by omega
            have hrow := HRow.out
            rw [List.take_of_length_le (by omega)] at hrow
            obtain ⟨hA, hLl⟩ := H.out.replC (p' := (joinN st a b).p) HBe.out hrow HNew.out (fun x y => by
              rw [others_of]
              show (st.p x y && !pair a b x y) = _
              rw [H.out.cut])
            have HA := hide (And.intro hA hLl)
            clear hA hLl hrow
            obtain ⟨aO, cO, hO, -⟩ := HRow.out.slice
            subst hO
            go_wp2_with fail
            go_ret
            exact ⟨by rw [HE.out]; rfl, _, others a b cuts, Nat.le_succ_of_le (others_few a b cuts), by rw [HE.out]; exact HA.out.1, HA.out.2⟩
end Go.Proofs.Ytdfioggeiagihaa
