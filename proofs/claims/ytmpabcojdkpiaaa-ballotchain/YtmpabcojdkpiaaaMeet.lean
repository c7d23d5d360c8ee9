/- The law BallotMeet, over the contracts. -/
import Derived.Test.YtmpabcojdkpiaaaCopy
import Derived.Test.YtmpabcojdkpiaaaWorks
import Derived.Deep.CutBlock
namespace Go.Proofs.Ytmpabcojdkpiaaa
open Go Go.RowKit

set_option maxRecDepth 10000 in
set_option maxHeartbeats 4000000 in
theorem BallotMeet_any (C : Con) (a : Option Addr) (ca : Nat) (l : List Int) (b : Option Addr) (cb : Nat) (m : List Int) (n : Int) (w : World) (ha : IntsAt w a l) (hna : a = none → ca = 0) (hl : ∀ x ∈ l, I64 x) (hll : l.length ≤ 140737488351232) (hb : IntsAt w b m) (hnb : b = none → cb = 0) (hm : ∀ x ∈ m, I64 x) (hmm : m.length ≤ 140737488351232) (hn : I64 n) :
    Calls Try.prog 5 #[.slice a l.length ca, .slice b m.length cb, .int .i64 n] w fun e v => e = .returned (.bool true) ∧ Below w.heap.size w v := by
  have KW := hide (works_any C)
  have HA := hide ha
  have HB := hide hb
  have HL := hide hl
  have HM := hide hm
  have HI := hide hn
  have HC := hide C
  have hna' := hide hna
  have hnb' := hide hnb
  clear ha hb hl hm hn C hna hnb
  go_enter Try.func5, Try.ntmps5
  by_cases g1 : l.length ≤ 100
  · by_cases g2 : m.length ≤ 100
    · have HF := hide (show l.length ≤ 1000 ∧ m.length ≤ 1000 by omega)
      go_wp2_with (at_builtin; refine wpList_copy rfl _ _ rfl rfl _ _ _ rfl HA.out hna'.out (by have := HF.out.1; omega) ?_)
      intro a1 c1 w1 h1 hb1
      have HB1 := hide hb1
      have KQ := hide (HC.out.quorum a1 c1 l n w1 h1 HF.out.1 HL.out HI.out)
      clear h1 hb1
      go_wp2_with fail
      refine KQ.out.mono ?_
      rintro e w2 ⟨rfl, hb2⟩
      have HB2 := hide (bnext HB1.out hb2)
      clear hb2 HB1 KQ
      have HBm := hide (HB.out.old HB2.out)
      go_wp2_with (at_builtin; refine wpList_copy rfl _ _ rfl rfl _ _ _ rfl HBm.out hnb'.out (by have := HF.out.2; omega) ?_)
      intro b1 d1 w3 h3 hb3
      have HB3 := hide (bnext HB2.out hb3)
      have KQ := hide (HC.out.quorum b1 d1 m n w3 h3 HF.out.2 HM.out HI.out)
      clear h3 hb3 HB2 HBm
      go_wp2_with fail
      refine KQ.out.mono ?_
      rintro e w4 ⟨rfl, hb4⟩
      have HB4 := hide (bnext HB3.out hb4)
      clear hb4 HB3 KQ HC
      have HX : Hid ((quorum l n).2 = 0 → (quorum m n).2 = 0 → (quorum l n).1 = true → (quorum m n).1 = true → ∃ x, x ∈ l ∧ x ∈ m) := fun q1 q2 q3 q4 => quorums_meet (Prod.ext q3 q1) (Prod.ext q4 q2)
      generalize (quorum l n).1 = p1 at *
      generalize (quorum l n).2 = e1 at *
      generalize (quorum m n).1 = p2 at *
      generalize (quorum m n).2 = e2 at *
      clear HI HL HM hna' hnb'
      go_upto_region 5 with fail
      by_cases c1 : e1 = 0
      · by_cases c2 : e2 = 0
        · cases p1 with
          | false =>
            go_wp2_with fail
            refine (KW.out _).mono ?_
            rintro e z9 ⟨rfl, hb9⟩
            go_wp2
            go_ret
            exact ⟨rfl, HB4.out.trans (hb9.mono HB4.out.size)⟩
          | true =>
            cases p2 with
            | false =>
              go_wp2_with fail
              refine (KW.out _).mono ?_
              rintro e z9 ⟨rfl, hb9⟩
              go_wp2
              go_ret
              exact ⟨rfl, HB4.out.trans (hb9.mono HB4.out.size)⟩
            | true =>
              have HE := hide (HX.out c1 c2 rfl rfl)
              subst c1
              subst c2
              clear HX HF
              have HAo := hide (HA.out.old HB4.out)
              have HBo := hide (HB.out.old HB4.out)
              go_wp2_with fail
              go_loopw [11, 12] (fun i _ u => ∃ x : Nat, x ≤ l.length ∧ i = .int .i64 (x : Int) ∧ (∀ y (hy : y < l.length), y < x → l[y] ∉ m) ∧ Below w4.heap.size w4 u) (fun i _ _ => l.length - (intOf i).toNat)
              case atStart => exact ⟨0, Nat.zero_le _, rfl, fun y _ h => absurd h (Nat.not_lt_zero y), Below.refl _ _⟩
              case round =>
                obtain ⟨x, hx, rfl, hno, hb5⟩ := hrel
                have HB5 := hide hb5
                have HNO := hide hno
                clear hb5 hno
                by_cases hlt : x < l.length
                · go_wp2_with fail
                  go_loopw [12] (fun j u => ∃ y : Nat, y ≤ m.length ∧ j = .int .i64 (y : Int) ∧ (∀ z (hz : z < m.length), z < y → l[x] ≠ m[z]) ∧ Below w4.heap.size w4 u) (fun j _ => m.length - (intOf j).toNat)
                  case atStart => exact ⟨0, Nat.zero_le _, rfl, fun y _ h => absurd h (Nat.not_lt_zero y), HB5.out⟩
                  case round =>
                    obtain ⟨y, hy, rfl, hno, hb6⟩ := hrel
                    have HB6 := hide hb6
                    have HNI := hide hno
                    clear hb6 hno
                    by_cases hlt2 : y < m.length
                    · obtain ⟨b1, o1, e1, q1⟩ := (HAo.out.old HB6.out).there (by omega)
                      obtain ⟨b2, o2, e2, q2⟩ := (HBo.out.old HB6.out).there (by omega)
                      cases e1
                      cases e2
                      have k1 := q1 x hlt
                      have k2 := q2 y hlt2
                      clear q1 q2
                      have HV : Hid (∃ u v : Int, l[x] = u ∧ m[y] = v) := ⟨_, _, rfl, rfl⟩
                      obtain ⟨u, v, hu, hv⟩ := HV.out
                      rw [hu] at k1
                      rw [hv] at k2
                      have HU := hide hu
                      have HVv := hide hv
                      clear hu hv HV
                      by_cases hc : u = v
                      · go_wp2_with fail
                        go_region
                        go_wp2_with fail
                        refine (KW.out _).mono ?_
                        rintro e z9 ⟨rfl, hb9⟩
                        go_wp2
                        go_ret
                        exact ⟨rfl, HB4.out.trans ((below_drewN HB6.out 1).mono HB4.out.size |>.trans (hb9.mono (by have h1 := HB4.out.size; have h2 := HB6.out.size; exact Nat.le_trans h1 h2)))⟩
                      · have HNE : Hid (∀ z (hz : z < m.length), z < y + 1 → l[x] ≠ m[z]) := fun z hz hlt3 hee => by
                          by_cases hzy : z = y
                          · subst hzy
                            rw [HU.out, HVv.out] at hee
                            exact hc hee
                          · exact HNI.out z hz (by omega) hee
                        go_wp2_with fail
                        go_region
                        go_wp2_with fail
                        exact ⟨⟨y + 1, hlt2, by go_num, HNE.out, below_drewN HB6.out 1⟩, by simp [intOf]; omega⟩
                    · have HNE : Hid (∀ z (hz : z < l.length), z < x + 1 → l[z] ∉ m) := fun z hz hlt3 hee => by
                        by_cases hzx : z = x
                        · subst hzx
                          obtain ⟨t, ht, hte⟩ := List.getElem_of_mem hee
                          exact HNI.out t ht (by omega) hte.symm
                        · exact HNO.out z hz (by omega) hee
                      go_wp2_with fail
                      exact ⟨⟨x + 1, hlt, by go_num, HNE.out, HB6.out⟩, by simp [intOf]; omega⟩
                · exfalso
                  obtain ⟨v, hv1, hv2⟩ := HE.out
                  obtain ⟨t, ht, hte⟩ := List.getElem_of_mem hv1
                  exact HNO.out t ht (by omega) (hte ▸ hv2)
        · have c2' : ¬ (e2 : Int) = 0 := by omega
          clear c2
          go_wp2_with fail
          refine (KW.out _).mono ?_
          rintro e z9 ⟨rfl, hb9⟩
          go_wp2
          go_ret
          exact ⟨rfl, HB4.out.trans (hb9.mono HB4.out.size)⟩
      · have c1' : ¬ (e1 : Int) = 0 := by omega
        clear c1
        go_wp2_with fail
        refine (KW.out _).mono ?_
        rintro e z9 ⟨rfl, hb9⟩
        go_wp2
        go_ret
        exact ⟨rfl, HB4.out.trans (hb9.mono HB4.out.size)⟩
    · go_wp2_with fail
      refine (KW.out _).mono ?_
      rintro e z9 ⟨rfl, hb9⟩
      go_wp2
      go_ret
      exact ⟨rfl, hb9⟩
  · go_wp2_with fail
    refine (KW.out _).mono ?_
    rintro e z9 ⟨rfl, hb9⟩
    go_wp2
    go_ret
    exact ⟨rfl, hb9⟩
end Go.Proofs.Ytmpabcojdkpiaaa
