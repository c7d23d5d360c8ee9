/- The law BlockPlays, over the contracts. -/
import Derived.Test.YtffniclijiekkaaDoes0
namespace Go.Proofs.Ytffniclijiekkaa
open Go Go.RowKit

theorem write_len (st : St) (b : Int) (d : ByteArray) : (st.write b d).2.sure.length = st.sure.length := by
  unfold St.write
  split
  · rfl
  · split
    · rfl
    · split <;> rfl
theorem step_len (st : St) (x : Stp) : (st.step x).sure.length = st.sure.length := by
  unfold St.step
  split
  · exact write_len _ _ _
  · split
    · unfold St.sync
      split
      · rfl
      · exact laid_length _ _
    · split
      · exact crashed_length _ _ _ _
      · split <;> rfl
theorem ints_block {w : World} {a : Option Addr} {l : List Int} (h : IntsAt w a l) : l ≠ [] → ∀ b off, a = some ⟨b, off, none⟩ → b < w.heap.size := fun hne b off e => by
  rcases h with h0 | ⟨b', off', h1, hc⟩
  · exact absurd h0 hne
  · rw [e] at h1
    cases h1
    exact World.block_lt_of_cell? w _ (hc 0 (List.length_pos_iff.2 hne))
set_option maxRecDepth 10000 in
set_option maxHeartbeats 8000000 in
theorem BlockPlays_any {DAt : World → Nat → St → (Nat → Prop) → Prop} (C : Con DAt) (nn : Int) (a : Option Addr) (c : Nat) (l : List Stp) (w : World) (h : StepsAt w a l) (hok : ∀ x ∈ l, x.Ok) (hnn : -9223372036854775808 ≤ nn ∧ nn ≤ 9223372036854775807) (hl : l.length ≤ 140737488351232) :
    Calls Try.prog 3 #[.int .i64 nn, .slice a l.length c] w fun e w' => e = .returned (.bool true) ∧ Below w.heap.size w w' := by
  have KH := hide (heavy_any nn a c l w h hok hl)
  have HC := hide C
  have HS := hide h
  have HOk := hide hok
  clear C h hok
  go_enter Try.func3, Try.ntmps3
  go_wp2_with fail
  refine KH.out.mono ?_
  rintro e w0 ⟨r, rfl, hw0, hr⟩
  obtain rfl := hw0.symm
  clear hw0 KH hl
  cases r
  rotate_left 1
  · have KA := hide (alive_any HC.out w)
    clear hr
    go_wp2_with fail
    refine KA.out.mono ?_
    rintro e w5 ⟨rfl, hb5⟩
    have HB5 := hide hb5
    clear hb5
    go_wp2
    go_ret
    exact ⟨rfl, HB5.out⟩
  obtain ⟨hl, hp, h64⟩ := hr rfl
  have HPk := hide hp
  clear hr hp
  by_cases hin : nn < 1 ∨ 4096 < nn
  · have KN := hide (HC.out.newNot nn w hnn hin)
    have KR := fun v => hide (rNew_not nn v hin)
    clear hin h64
    go_wp2_with fail
    refine KN.out.mono ?_
    rintro e w1 ⟨rfl, hb1⟩
    have HB1 := hide hb1
    clear hb1 KN
    go_wp2_with fail
    refine (KR w1).out.mono ?_
    rintro e w2 ⟨rfl, hw2⟩
    obtain rfl := hw2.symm
    clear hw2 KR
    have KA := hide (alive_any HC.out w1)
    go_wp2_with fail
    refine KA.out.mono ?_
    rintro e w5 ⟨rfl, hb5⟩
    have HB5 := hide (bnext HB1.out hb5)
    clear hb5
    go_wp2
    go_ret
    exact ⟨rfl, HB5.out⟩
  obtain ⟨n, rfl⟩ : ∃ n : Nat, nn = (n : Int) := ⟨nn.toNat, by omega⟩
  have hn1 : 1 ≤ n := by omega
  have hn2 : n ≤ 64 := by omega
  clear hin h64 hnn
  have KN := hide (HC.out.new n w hn1 (by omega))
  go_wp2_with fail
  refine KN.out.mono ?_
  rintro e w1 ⟨p, F, rfl, h1, hF, hb1⟩
  go_wp2_with fail
  refine (rNew n w1 hn1 (by omega)).mono ?_
  rintro e w2 ⟨q, vS, rfl, h2, hq, hR, hb2⟩
  have HBoth : Hid (Both DAt w.heap.size w w2 p q F vS (.slice none 0 0) (St.new n)) :=
    ⟨HC.out.below h1 hb2, h2, fun k h3 h4 => by have h5 := HC.out.lt h1 k h3; have h6 := hR k h4; omega, hF, fun k h4 => Nat.le_trans hb1.size (hR k h4), bnext hb1 hb2, Nat.le_refl _⟩
  have hOk0 := St.Ok.new (n := n) hn1 (by omega)
  have HOk0 := hide hOk0
  clear h1 hF hb1 h2 hq hR hb2 hOk0
  go_wp2_with fail
  go_loopw [9, 10, 11] (fun i _ _ wr => ∃ (k : Nat) (st : St) (F : Nat → Prop) (vL : Value), k ≤ l.length ∧ i = .int .i64 (k : Int) ∧ Both DAt w.heap.size w wr p q F vS vL st ∧ st.Ok ∧ st.loose.length ≤ k ∧ st.sure.length = n) (fun i _ _ _ => l.length - (intOf i).toNat)
  case atStart => exact ⟨0, St.new n, F, .slice none 0 0, Nat.zero_le _, rfl, HBoth.out, HOk0.out, Nat.le_refl _, List.length_replicate ..⟩
  case round =>
    obtain ⟨k, st, F1, vL, hk, rfl, hB, hok, hlo, hsl⟩ := hrel
    have HB := hide hB
    have HOkS := hide hok
    clear hB hok
    by_cases hlt : k < l.length
    · obtain ⟨b, off, rfl, hc⟩ : ∃ b off, a = some ⟨b, off, none⟩ ∧ ∀ j (hj : j < l.length), StepAt wr b (off + j * 5) l[j] := by
        rcases HS.out.old HB.out.below with h0 | h1
        · rw [h0] at hlt; exact absurd hlt (by simp)
        · exact h1
      obtain ⟨e0, e1, e2, e3, e4, e5⟩ := hc k hlt
      have hxo := HOk.out _ (List.getElem_mem hlt)
      have hxp := HPk.out _ (List.getElem_mem hlt)
      have hPw : l[k].picks ≠ [] → ∀ b off, l[k].pa = some ⟨b, off, none⟩ → b < w.heap.size := by
        rcases HS.out with h0 | ⟨b', off', h1, hc'⟩
        · rw [h0] at hlt; exact absurd hlt (by simp)
        · exact ints_block (hc' k hlt).2.2.2.2.2
      have KD := hide (does_any HC.out w.heap.size w wr p q F1 vS vL st l[k] HB.out HOkS.out (by omega) hxo e5 hPw hxp)
      have HStep := hide (And.intro (HOkS.out.step l[k] hxo) (And.intro (step_loose st l[k]) (step_len st l[k])))
      unfold Stp.val at KD
      clear hc hxo hxp hPw e5
      generalize st.step l[k] = st' at *
      go_wp2_with fail
      refine KD.out.mono ?_
      rintro e w3 ⟨rfl, F', vL', hB3⟩
      have HB3 := hide hB3
      have HOk3 := hide HStep.out.1
      have hlo3 : st'.loose.length ≤ k + 1 := by have := HStep.out.2.1; omega
      have hsl3 : st'.sure.length = n := by have := HStep.out.2.2; omega
      clear hB3 HStep KD HB HOkS hlo hsl
      have KL := hide (HC.out.loose p st' F' w3 HB3.out.d HOk3.out (by omega))
      go_wp2_with fail
      refine KL.out.mono ?_
      rintro e w4 ⟨aN, cN, rfl, hN, hb4⟩
      have HB4 := hide (HB3.out.old HC.out hb4)
      have HN := hide hN
      clear hN hb4 KL HB3
      obtain ⟨aL, cL, rfl, _⟩ := slice_of HB4.out.r.loose
      have hc1 := HB4.out.r.cell1
      go_wp2_with fail
      clear hc1 e0 e1 e2 e3 e4
      go_loopw [11] (fun i wz => ∃ t : Nat, t ≤ st'.loose.length ∧ i = .int .i64 (t : Int) ∧ Both DAt w.heap.size w wz p q F' vS (.slice aL st'.loose.length cL) st' ∧ IntsAt wz aN (st'.loose.map fun w => (w.1 : Int))) (fun i _ => st'.loose.length - (intOf i).toNat)
      case atStart => exact ⟨0, Nat.zero_le _, rfl, HB4.out, HN.out⟩
      case round =>
        obtain ⟨t, ht, rfl, hBz, hNz⟩ := hrel
        have HBz := hide hBz
        have HNz := hide hNz
        clear hBz hNz
        by_cases htl : t < st'.loose.length
        · obtain ⟨gL, rfl, hcL⟩ := row_cell HBz.out.r.loose (by omega)
          have f1 := hcL (t * 2) (by omega)
          rw [(looseCells_at st'.loose t htl).1] at f1
          have fq := HBz.out.r.cell1
          obtain ⟨bN, oN, rfl, hcN⟩ : ∃ b off, aN = some ⟨b, off, none⟩ ∧ ∀ j (hj : j < st'.loose.length), wr.cell? ⟨b, off + j, none⟩ = some (.int .i64 ((st'.loose[j].1 : Nat) : Int)) := by
            rcases HNz.out with h0 | ⟨b, off, h1, h2⟩
            · have := congrArg List.length h0; simp at this; rw [this] at htl; exact absurd htl (by simp)
            · exact ⟨b, off, h1, fun j hj => by have := h2 j (by simpa using hj); simpa using this⟩
          have f2 := hcN t htl
          clear hcL hcN
          generalize st'.loose[t].1 = x at *
          go_wp2_with fail
          go_region
          all_goals
            go_wp2
            go_roundw
            case rel => exact ⟨t + 1, htl, by go_num, HBz.out.old HC.out (below_drewN (Below.refl _ _) _), HNz.out.old (below_drewN (Below.refl _ _) _)⟩
            case measure => simp [intOf]; omega
        · have hte : t = st'.loose.length := by omega
          subst hte
          go_wp2
          go_roundw
          case rel => exact ⟨k + 1, st', F', _, hlt, by go_num, HBz.out, HOk3.out, hlo3, hsl3⟩
          case measure => simp [intOf]; omega
    · have hke : k = l.length := by omega
      subst hke
      have KS := hide (HC.out.sure p st F1 wr HB.out.d HOkS.out)
      go_wp2_with fail
      refine KS.out.mono ?_
      rintro e w3 ⟨rfl, hb3⟩
      have HB3 := hide (HB.out.old HC.out hb3)
      clear hb3 KS HB
      have KR := hide (rSure q vS vL st w3 HB3.out.r HOkS.out)
      generalize st.text = T at *
      go_wp2_with fail
      refine KR.out.mono ?_
      rintro e w4 ⟨rfl, hw4⟩
      obtain rfl := hw4.symm
      clear hw4
      have KZ := hide (HC.out.size p st F1 w3 HB3.out.d HOkS.out)
      rw [hsl] at KZ
      go_wp2_with fail
      refine KZ.out.mono ?_
      rintro e w4 ⟨rfl, hb4⟩
      have HB4 := hide (HB3.out.old HC.out hb4)
      clear hb4 KZ HB3 KR
      have KA := hide (alive_any HC.out w4)
      go_wp2_with fail
      refine KA.out.mono ?_
      rintro e w5 ⟨rfl, hb5⟩
      have HB5 := hide (HB4.out.old HC.out hb5)
      clear hb5 KA HB4
      go_wp2
      go_ret
      exact ⟨rfl, HB5.out.below⟩
end Go.Proofs.Ytffniclijiekkaa
