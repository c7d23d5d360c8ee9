/- The document's own net: Ready. -/
import Derived.Test.YtdfioggeiagihaaRef7
import Derived.BigQuiet
namespace Go.Proofs.Ytdfioggeiagihaa
open Go Go.RowKit

def idC (n : Nat) : List Value := [.int .u64 (n : Int)]
theorem idC_len (n : Nat) : (idC n).length = 1 := rfl
theorem infoU : (Try.prog.info? 29).map (fun i => (i.zero, i.size, i.bytes)) = some (some (.int .u64 0), 1, 8) := by kernel_rfl
theorem one_idC (l : List Nat) : ∀ u ∈ l.flatMap idC, u.oneCell' = true := fun u hu => by
  obtain ⟨x, _, hx⟩ := List.mem_flatMap.1 hu
  unfold idC at hx
  simp at hx
  subst hx
  rfl
theorem news1 (u : World) (a : Value) (T : TypeId) : ∀ (j : Nat) (v : Value), ([a] : List Value)[j]? = some v → (u.alloc (.cells #[a] T)).cell? ((⟨u.heap.size, 0, none⟩ : Addr).add j) = some v := by
  intro j v hj
  have hb := Box.new u #[a] T
  have e1 : (⟨u.heap.size, 0, none⟩ : Addr).add j = ⟨u.heap.size, j, none⟩ := by unfold Addr.add; split <;> simp_all
  rw [e1]
  exact hb.get j (by simpa using hj)
/-- The letters of one age among the first ones. -/
def upTo (st : Nt) (g j : Nat) : List Nat := ((st.l.take j).filter (fun x => decide (x.g = g) && !st.p x.a x.b)).map (·.id)
theorem upTo_zero (st : Nt) (g : Nat) : upTo st g 0 = [] := rfl
theorem upTo_all (st : Nt) (g : Nat) : upTo st g st.l.length = (atAge st g).map (·.id) := by unfold upTo atAge; rw [List.take_length]
theorem upTo_next (st : Nt) (g j : Nat) (h : j < st.l.length) : upTo st g (j + 1) = upTo st g j ++ if (decide (st.l[j].g = g) && !st.p st.l[j].a st.l[j].b) = true then [st.l[j].id] else [] := by
  unfold upTo
  rw [List.take_succ_eq_append_getElem h, List.filter_append, List.map_append]
  congr 1
  rw [List.filter_cons]
  cases (decide (st.l[j].g = g) && !st.p st.l[j].a st.l[j].b) <;> simp
theorem upTo_few (st : Nt) (g j : Nat) : (upTo st g j).length ≤ st.l.length := by
  unfold upTo
  rw [List.length_map]
  exact Nat.le_trans (List.length_filter_le _ _) (by rw [List.length_take]; omega)
theorem down_succ (st : Nt) (m : Nat) : (downTo st (m + 1)).map (·.id) = (atAge st (m + 1)).map (·.id) ++ (downTo st m).map (·.id) := by
  rw [show downTo st (m + 1) = atAge st (m + 1) ++ downTo st m from rfl, List.map_append]
theorem down_zero (st : Nt) : (downTo st 0).map (·.id) = (atAge st 0).map (·.id) := rfl
theorem IdsAt.of_recs {u : World} {v : Value} {l : List Nat} (h : Recs u 29 1 idC v l) : ∃ a c, v = .slice a l.length c ∧ IdsAt u a l := by
  by_cases hl : 0 < l.length
  · obtain ⟨g, c, h1, _, _, h4, _⟩ := h.there idC_len hl
    exact ⟨_, c, h1, Or.inr ⟨g, 0, rfl, fun k hk => by have := h4 k 0 hk (by decide); rw [Nat.mul_one, Nat.add_zero] at this; rw [Nat.zero_add]; exact this⟩⟩
  · obtain ⟨a, c, h1, _⟩ := h.slice
    exact ⟨a, c, h1, Or.inl (List.length_eq_zero_iff.1 (by omega))⟩
set_option maxRecDepth 10000 in
set_option maxHeartbeats 4000000 in
theorem rReady (q : Nat) (vL vC : Value) (st : Nt) (cuts : List (Int × Int)) (m : Nat) (w : World) (h : RAt w q vL vC st cuts) (hok : st.Ok m) (hm : m ≤ 1099511627776) (hcu : cuts.length ≤ 4000) :
    Calls Try.prog 13 #[.pointer (some ⟨q, 0, none⟩)] w fun e w' => ∃ a c, e = .returned (.slice a st.ready.length c) ∧ IdsAt w' a st.ready ∧ Below w.heap.size w w' := by
  obtain ⟨i0, hi, hz0, hz1, hz2⟩ := info_parts infoU
  have HI := hide (And.intro hi (And.intro hz0 (And.intro hz1 hz2)))
  have H := hide h
  have hfew := hok.few
  have HAg := hide (fun x hx => Nat.le_trans (hok.ages x hx) hm)
  obtain ⟨q0, -, -⟩ := h.cells
  obtain ⟨aL, cL, rfl, -, -, -⟩ := h.ls.slice
  have HRl := hide (show st.ready = (downTo st (oldest st.l)).map (·.id) from rfl)
  have HOl := hide (oldest_le st.l 1099511627776 HAg.out)
  clear hi hz0 hz1 hz2 h hok
  go_enter Try.func13, Try.ntmps13
  go_wp2_with fail
  go_loop [4, 5] (fun mo i => ∃ k : Nat, k ≤ st.l.length ∧ i = .int .i64 (k : Int) ∧ mo = .int .i64 (oldest (st.l.take k) : Int)) (fun _ i => st.l.length - (intOf i).toNat)
  case atStart => exact ⟨0, Nat.zero_le _, rfl, rfl⟩
  case round =>
    obtain ⟨k, hk, rfl, rfl⟩ := hrel
    by_cases hlt : k < st.l.length
    · obtain ⟨g, c', e', -, -, h4, -⟩ := H.out.letter (by omega)
      cases e'
      have e4 := (h4 k hlt).2.2.2.2
      have hag := HAg.out _ (List.getElem_mem hlt)
      have HN := hide (oldest_next st.l k hlt)
      have hol := oldest_le (st.l.take k) 1099511627776 (fun x hx => HAg.out x (List.mem_of_mem_take hx))
      have hkz : (k : Int) < (st.l.length : Int) := by omega
      clear h4
      generalize st.l[k].g = y at *
      generalize hO2 : oldest (st.l.take (k + 1)) = O2 at *
      have HO2 := hide hO2
      clear hO2
      generalize oldest (st.l.take k) = O1 at *
      have hmx : (if O1 < y then (y : Int) else (O1 : Int)) = (O2 : Int) := by have := HN.out; split <;> omega
      clear hag hol
      go_wp2
      go_round
      case rel => exact ⟨k + 1, hlt, by go_num, by rw [HO2.out]⟩
      case measure => simp [intOf]; omega
    · have hke : k = st.l.length := by omega
      subst hke
      rw [List.take_length]
      have hkz : ¬ (st.l.length : Int) < (st.l.length : Int) := by omega
      generalize hM : oldest st.l = M at *
      have HM := hide hM
      clear hM
      go_wp2_with fail
      go_loopw [3, 6, 7] (fun lv ag _ u => ∃ (z : Nat) (P : List Nat), ag = .int .i64 ((z : Int) - 1) ∧ z ≤ M + 1 ∧ Recs u 29 1 idC lv P ∧ Below w.heap.size w u ∧ (∀ g, lv.ownBlock = some g → w.heap.size ≤ g) ∧ ((z = 0 ∧ P = st.ready) ∨ ∃ g, z = g + 1 ∧ P ++ (downTo st g).map (·.id) = st.ready)) (fun _ ag _ _ => (intOf ag + 1).toNat)
      case atStart => exact ⟨M + 1, [], by congr 1; omega, Nat.le_refl _, Recs.nil _ _ _ _, Below.refl _ _, (fun g hg => by cases hg), Or.inr ⟨M, rfl, by rw [HRl.out]; rfl⟩⟩
      case round =>
        obtain ⟨z, P, rfl, hz, hrow, hbe, hnew, hP⟩ := hrel
        have HRow := hide hrow
        have HBe := hide hbe
        have HNew := hide hnew
        clear hrow hbe hnew
        rcases hP with ⟨rfl, rfl⟩ | ⟨A, rfl, hPA⟩
        · obtain ⟨a, c, rfl, hI⟩ := IdsAt.of_recs HRow.out
          have HF := hide hI
          clear hI
          go_wp2_with fail
          go_ret
          exact ⟨a, c, rfl, HF.out, HBe.out⟩
        · have HPA := hide hPA
          have HMb : Hid (A ≤ 1099511627776) := by unfold Hid; have := HOl.out; have := HM.out; omega
          have hAz : (0 : Int) ≤ ((A + 1 : Nat) : Int) - 1 := by omega
          rw [show ((A + 1 : Nat) : Int) - 1 = (A : Int) from by omega] at hAz ⊢
          have hPl : P.length ≤ 4096 := by
            have h1 := congrArg List.length hPA
            rw [List.length_append] at h1
            have h2 := readyL_few st
            rw [← ready_len] at h2
            omega
          have HPl := hide hPl
          clear hPA hPl
          go_wp2_with fail
          go_loopw [3, 7] (fun lv i u => ∃ j : Nat, j ≤ st.l.length ∧ i = .int .i64 (j : Int) ∧ Recs u 29 1 idC lv (P ++ upTo st A j) ∧ Below w.heap.size w u ∧ ∀ g, lv.ownBlock = some g → w.heap.size ≤ g) (fun _ i _ => st.l.length - (intOf i).toNat)
          case atStart => exact ⟨0, Nat.zero_le _, rfl, by rw [upTo_zero, List.append_nil]; exact HRow.out, HBe.out, HNew.out⟩
          case round =>
            obtain ⟨j, hj, rfl, hrow, hbe, hnew⟩ := hrel
            have HRj := hide hrow
            have HBj := hide hbe
            have HNj := hide hnew
            have HW := hide (H.out.below hbe)
            obtain ⟨p0, -, -⟩ := (H.out.below hbe).cells
            clear hrow hbe hnew
            by_cases hjl : j < st.l.length
            · obtain ⟨g, c', e', -, -, h4, -⟩ := HW.out.letter (by omega)
              cases e'
              obtain ⟨g0, g1, g2, -, g4⟩ := h4 j hjl
              have HU := hide (upTo_next st A j hjl)
              have hul := upTo_few st A j
              have hjz : (j : Int) < (st.l.length : Int) := by omega
              clear h4
              generalize st.l[j] = y at *
              obtain ⟨yi, ya, yb, ys, yg⟩ := y
              dsimp only at *
              have KP := fun n => rParted q _ vC st cuts ya yb (wr.drewN n) (HW.out.below (below_drewN (Below.refl _ _) n)) (by omega)
              generalize hpt : st.p ya yb = pt at *
              have Hpt := hide hpt
              clear hpt
              have HKP := hide KP
              clear KP
              by_cases hg : yg = A
              · subst hg
                have hgz : ((yg : Int) == (yg : Int)) = true := by simp
                go_wp2_with fail
                go_quiet ((go_at_call 32; exact Calls.quiet_of_same (HKP.out _)))
                have hdr := below_drewN (Below.refl wr.heap.size wr) nq
                have HW1 := hide (HW.out.below hdr)
                have HB1 := hide (HBj.out.trans (hdr.mono HBj.out.size))
                have HR1 := hide (HRj.out.below hdr)
                have e0 : (wr.drewN nq).cell? ⟨g, j * 5, none⟩ = some (.int .u64 (yi : Int)) := (hdr.cell (p := ⟨g, j * 5, none⟩) (World.block_lt_of_cell? wr _ g0)).trans g0
                have p1 := HW1.out.cells.1
                clear hdr g0 g1 g2 g4 p0 HW HRj HBj HKP
                generalize wr.drewN nq = u1 at *
                cases pt with
                | true =>
                  have HT : Hid (upTo st yg (j + 1) = upTo st yg j) := by
                    unfold Hid
                    have := HU.out
                    simpa using this
                  go_wp2_with fail
                  exact ⟨⟨j + 1, hjl, by go_num, by rw [HT.out]; exact HR1.out, HB1.out, HNj.out⟩, by simp [intOf]; omega⟩
                | false =>
                  have HT : Hid (upTo st yg (j + 1) = upTo st yg j ++ [yi]) := by
                    unfold Hid
                    have := HU.out
                    simpa using this
                  have hQl : (P ++ upTo st yg j).length ≤ 8192 := by rw [List.length_append]; have := HPl.out; omega
                  have HQ := hide (show P ++ upTo st yg (j + 1) = (P ++ upTo st yg j) ++ [yi] from by rw [HT.out, List.append_assoc])
                  generalize P ++ upTo st yg j = O at *
                  obtain ⟨aO, cO, rfl, -, -, -⟩ := HR1.out.slice
                  go_wp2_with (at_builtin; refine wpList_append_own_at _ rfl _ _ 38 rfl 0 29 i0 (.int .u64 0) 1 8 Try.underlying38 HI.out.1 HI.out.2.1 HI.out.2.2.1 HI.out.2.2.2 rfl (by decide) (.slice aO O.length cO) O.length _ rfl (World.ownsRow.alloc HR1.out _) ⟨u1.heap.size, 0, none⟩ 1 1 [.int .u64 (yi : Int)] rfl rfl (news1 u1 _ _) (one_idC [yi]) (by unfold maxLen; omega) (by omega) (Nat.zero_le _) ?_)
                  intro v' w1 hown1 hgr1 _ hat1
                  have hb1 : Below w.heap.size w w1 := (HB1.out.trans ((one_below u1 _).mono HB1.out.size)).grown hgr1 (by have := HB1.out.size; simp; omega) (fun j hj => HNj.out j hj)
                  have hl1 : Recs w1 29 1 idC v' (P ++ upTo st yg (j + 1)) := by
                    rw [HQ.out]
                    unfold Recs
                    rw [List.length_append, List.flatMap_append]
                    exact hown1
                  have hn1 : ∀ g, v'.ownBlock = some g → w.heap.size ≤ g := fun i hi => by
                    rcases hat1 with h1 | h1
                    · rw [h1] at hi; exact HNj.out i hi
                    · rw [h1] at hi
                      cases hi
                      have := HB1.out.size
                      simp
                      omega
                  have HN := hide (And.intro hl1 (And.intro hb1 hn1))
                  clear hown1 hgr1 hat1 hb1 hl1 hn1
                  go_wp2_with fail
                  exact ⟨⟨j + 1, hjl, by go_num, HN.out.1, HN.out.2.1, HN.out.2.2⟩, by simp [intOf]; omega⟩
              · have hgz : ((yg : Int) == (A : Int)) = false := by simp; omega
                have HT : Hid (upTo st A (j + 1) = upTo st A j) := by
                  unfold Hid
                  have := HU.out
                  rw [decide_eq_false hg] at this
                  simpa using this
                go_wp2_with fail
                go_quiet (fail)
                have hdr := below_drewN (Below.refl wr.heap.size wr) nq
                have HB1 := hide (HBj.out.trans (hdr.mono HBj.out.size))
                have HR1 := hide (HRj.out.below hdr)
                clear hdr
                generalize wr.drewN nq = u1 at *
                go_wp2_with fail
                exact ⟨⟨j + 1, hjl, by go_num, by rw [HT.out]; exact HR1.out, HB1.out, HNj.out⟩, by simp [intOf]; omega⟩
            · obtain rfl : j = st.l.length := by omega
              have hjz : ¬ (st.l.length : Int) < (st.l.length : Int) := by omega
              have HRz := hide (HRj.out)
              rw [upTo_all] at HRz
              have HNx : Hid ((A = 0 ∧ P ++ (atAge st A).map (·.id) = st.ready) ∨ ∃ g, A = g + 1 ∧ (P ++ (atAge st A).map (·.id)) ++ (downTo st g).map (·.id) = st.ready) := by
                cases A with
                | zero => exact Or.inl ⟨rfl, HPA.out⟩
                | succ A =>
                  refine Or.inr ⟨A, rfl, ?_⟩
                  rw [List.append_assoc, ← down_succ]
                  exact HPA.out
              have hAb : (A : Int) ≤ 1099511627776 := by have := HMb.out; omega
              go_wp2_with fail
              exact ⟨⟨A, _, rfl, by omega, HRz.out, HBj.out, HNj.out, HNx.out⟩, by simp [intOf] <;> omega⟩
end Go.Proofs.Ytdfioggeiagihaa
