/- The walk of the law VecTimes over its callees' contracts. -/
import Derived.Test.YtklekpbfjcpjlaaVecSums
import Derived.Test.YtklekpbfjcpjlaaSub
import Derived.Test.YtklekpbfjcpjlaaTimesV
namespace Go.Proofs.Ytklekpbfjcpjlaa
open Go.RowKit
attribute [local go_sem ↓] eq23

/-- The cells of k times one vec. -/
def reps (x0 x1 x2 : Int) : Nat → List Value
  | 0 => []
  | k + 1 => reps x0 x1 x2 k ++ [.int .i64 x0, .int .i64 x1, .int .i64 x2]
theorem reps_len (x0 x1 x2 : Int) : ∀ k, (reps x0 x1 x2 k).length = k * 3
  | 0 => rfl
  | k + 1 => by simp [reps, reps_len x0 x1 x2 k]; omega
theorem reps_get (x0 x1 x2 : Int) (i : Nat) : ∀ k, i < k → (reps x0 x1 x2 k)[i * 3]? = some (.int .i64 x0) ∧ (reps x0 x1 x2 k)[i * 3 + 1]? = some (.int .i64 x1) ∧ (reps x0 x1 x2 k)[i * 3 + 2]? = some (.int .i64 x2)
  | 0, h => absurd h (by omega)
  | k + 1, h => by
    have hl := reps_len x0 x1 x2 k
    unfold reps
    by_cases e : i < k
    · have ih := reps_get x0 x1 x2 i k e
      rw [List.getElem?_append_left (by omega), List.getElem?_append_left (by omega), List.getElem?_append_left (by omega)]
      exact ih
    · have e2 : i = k := by omega
      subst e2
      rw [List.getElem?_append_right (by omega), List.getElem?_append_right (by omega), List.getElem?_append_right (by omega), hl]
      refine ⟨?_, ?_, ?_⟩
      · rw [Nat.sub_self]; rfl
      · rw [show i * 3 + 1 - i * 3 = 1 from by omega]; rfl
      · rw [show i * 3 + 2 - i * 3 = 2 from by omega]; rfl
theorem own_vecs {x0 x1 x2 : Int} {base k : Nat} {lv : Value} {wr : World} (hx : I64 x0 ∧ I64 x1 ∧ I64 x2) (h : wr.ownsRow base 23 3 lv k (reps x0 x1 x2 k)) :
    ∃ a cap, lv = .slice a k cap ∧ Vecs a k (fun _ => x0) (fun _ => x1) (fun _ => x2) wr := by
  rcases h.2 with ⟨rfl, rfl⟩ | ⟨g, cap, cur, rfl, _, hg, _, _, _, htake⟩
  · exact ⟨none, 0, rfl, Or.inl rfl⟩
  · refine ⟨some ⟨g, 0, none⟩, cap, rfl, Or.inr ⟨g, 0, rfl, ?_, fun i hi => ⟨hx, ?_⟩⟩⟩
    · rcases Nat.lt_or_ge g wr.heap.size with hlt | hge
      · exact hlt
      · rw [Array.getElem?_eq_none hge] at hg; cases hg
    · have hcell : ∀ o v, (reps x0 x1 x2 k)[o]? = some v → wr.cell? ⟨g, 0 + o, none⟩ = some v := by
        intro o v hv
        rw [← htake] at hv
        rw [Nat.zero_add]
        unfold World.cell?
        rw [hg]
        rw [List.getElem?_take] at hv
        split at hv
        · simpa using hv
        · cases hv
      have hr := reps_get x0 x1 x2 i k hi
      exact ⟨hcell _ _ hr.1, hcell _ _ hr.2.1, hcell _ _ hr.2.2⟩
theorem own_base {x0 x1 x2 : Int} {base k : Nat} {lv : Value} {wr : World} (h : wr.ownsRow base 23 3 lv k (reps x0 x1 x2 k)) : ∀ j, lv.ownBlock = some j → base ≤ j := by
  rcases h.2 with ⟨rfl, rfl⟩ | ⟨g, cap, cur, rfl, hg, _⟩
  · intro j hj; cases hj
  · intro j hj
    simp [Value.ownBlock] at hj
    omega
theorem neg_mul0 (x m : Int) : x * -m = 0 - x * m := by rw [Int.mul_neg]; omega
theorem sumTo_const (x : Int) : ∀ k : Nat, sumTo (fun _ => x) k = x * (k : Int)
  | 0 => by simp [sumTo]
  | k + 1 => by unfold sumTo; rw [sumTo_const x k]; rw [Int.natCast_add, Int.mul_add]; simp

theorem sum_reps (a : Option Addr) (k cap : Nat) (x0 x1 x2 : Int) (W : World) (hk : k ≤ 255) (hv : Vecs a k (fun _ => x0) (fun _ => x1) (fun _ => x2) W) :
    ∀ u, Below W.heap.size W u → Calls Try.prog 15 #[.slice a k cap] u fun e w' => e = .returned (nv (x0 * (k : Int)) (x1 * (k : Int)) (x2 * (k : Int))) ∧ Below u.heap.size u w' := by
  intro u hu
  rcases hv with rfl | ⟨b, off, rfl, hb, hc⟩
  · have h := Sum_zero a cap u
    have e : nv (x0 * ((0 : Nat) : Int)) (x1 * ((0 : Nat) : Int)) (x2 * ((0 : Nat) : Int)) = .tuple #[.agg #[.int .i64 0, .int .i64 0, .int .i64 0], .int .i64 0] := by
      simp only [Int.natCast_zero, Int.mul_zero]
      exact nv_ok rfl rfl rfl
    rw [e]
    exact h
  · have h := Sum_some b off k cap (fun _ => x0) (fun _ => x1) (fun _ => x2) u (by omega) (Nat.lt_of_lt_of_le hb hu.size) (fun i hi => (hc i hi).1.1) (fun i hi => (hc i hi).1.2.1) (fun i hi => (hc i hi).1.2.2)
      (fun i hi => ⟨((bcell hu).1 _ _ hb).trans (hc i hi).2.1, ((bcell hu).1 _ _ hb).trans (hc i hi).2.2.1, ((bcell hu).1 _ _ hb).trans (hc i hi).2.2.2⟩)
    rw [sumTo_const, sumTo_const, sumTo_const] at h
    exact h

set_option maxHeartbeats 2000000 in
theorem VecTimes_walk (x0 x1 x2 : Int) (m : Nat) (hm : m ≤ 255) (hx : I64 x0 ∧ I64 x1 ∧ I64 x2) (w : World) :
    Calls Try.prog 7 #[V3 x0 x1 x2, .int .u8 (m : Int)] w fun e w' => e = .returned (.bool true) ∧ Below w.heap.size w w' := by
  have HX := hide hx
  clear hx
  obtain ⟨i0, hi, hz0, hz1, hz2⟩ := info_parts (P := Try.prog) (e := 23) (z := .agg #[.int .i64 0, .int .i64 0, .int .i64 0]) (size := 3) (bytes := 24) (by kernel_rfl)
  have HI := hide (And.intro hi (And.intro hz0 (And.intro hz1 hz2)))
  clear hi hz0 hz1 hz2
  unfold V3
  go_enter Try.func7, Try.ntmps7
  go_wp2_with fail
  go_loopw [5, 6] (fun lv i wr => ∃ k : Nat, k ≤ m ∧ i = .int .i64 k ∧ wr.ownsRow (w.heap.size + 1) 23 3 lv k (reps x0 x1 x2 k) ∧ Below (w.heap.size + 1) (w.alloc (.cells #[.int .i64 x0, .int .i64 x1, .int .i64 x2] 23)) wr) (fun _ i _ => m - (intOf i).toNat)
  case atStart => exact ⟨0, Nat.zero_le _, rfl, World.ownsRow_nil _ _ _ _, Below.refl _ _⟩
  case round =>
    obtain ⟨k, hk, rfl, hown, hbl⟩ := hrel
    have hc0 : wr.cell? ⟨w.heap.size, 0, none⟩ = some (.int .i64 x0) := (hbl.cell (p := ⟨w.heap.size, 0, none⟩) (by simp)).trans (by simp [go_sem])
    have hc1 : wr.cell? ⟨w.heap.size, 1, none⟩ = some (.int .i64 x1) := (hbl.cell (p := ⟨w.heap.size, 1, none⟩) (by simp)).trans (by simp [go_sem])
    have hc2 : wr.cell? ⟨w.heap.size, 2, none⟩ = some (.int .i64 x2) := (hbl.cell (p := ⟨w.heap.size, 2, none⟩) (by simp)).trans (by simp [go_sem])
    have hsz : w.heap.size + 1 ≤ wr.heap.size := by have := hbl.size; simpa using this
    have HO := hide hown
    have HL := hide hbl
    clear hown hbl
    by_cases hlt : k < m
    · go_wp2_with (at_builtin; refine wpList_append_own _ rfl _ _ 33 rfl (w.heap.size + 1) 23 i0 (.agg #[.int .i64 0, .int .i64 0, .int .i64 0]) 3 24 Try.underlying33 HI.out.1 HI.out.2.1 HI.out.2.2.1 HI.out.2.2.2 rfl (by decide) _ _ _ rfl (HO.out.alloc _) ⟨wr.heap.size, 0, none⟩ 1 1 [.int .i64 x0, .int .i64 x1, .int .i64 x2] rfl rfl ?c1 ?c2 ?c3 ?c4 ?c5 ?_)
      case c1 =>
        intro j u hj
        match j, hj with
        | 0, hj => simp at hj; subst hj; simp [Addr.add, go_sem]
        | 1, hj => simp at hj; subst hj; simp [Addr.add, go_sem]
        | 2, hj => simp at hj; subst hj; simp [Addr.add, go_sem]
      case c2 => intro u hu; simp at hu; rcases hu with rfl | rfl | rfl <;> rfl
      case c3 => unfold maxLen; omega
      case c4 => omega
      case c5 => simp; omega
      · intro lv' w1 hown1 hgrow1 _
        have HO1 := hide hown1
        have HG1 := hide ((HL.out.alloc hsz (.cells #[.int .i64 x0, .int .i64 x1, .int .i64 x2] 23)).grown hgrow1 (by simp; omega) (own_base HO.out))
        clear hown1 hgrow1
        go_wp2
        go_roundw
        case rel => exact ⟨k + 1, by omega, by go_num, HO1.out, HG1.out⟩
        case measure => simp [intOf]; omega
    · have hke : m = k := by omega
      subst hke
      obtain ⟨a, cap, rfl, hvs⟩ := own_vecs HX.out HO.out
      have S1 := sum_reps a m cap x0 x1 x2 wr hm hvs
      have T1 := Times_any x0 x1 x2 (m : Int) ⟨HX.out.1, HX.out.2.1, HX.out.2.2, by unfold I64; omega⟩
      have T2 := Times_any x0 x1 x2 (-(m : Int)) ⟨HX.out.1, HX.out.2.1, HX.out.2.2, by unfold I64; omega⟩
      have HV : Hid (H3 w.heap.size x0 x1 x2 wr) := ⟨hc0, hc1, hc2, by omega⟩
      have HB0 : Hid (Below w.heap.size w wr) := (grow1 w _).trans (HL.out.mono (by omega))
      clear HO HL hvs
      cases hf : (fit (x0 * (m : Int)) && fit (x1 * (m : Int)) && fit (x2 * (m : Int)))
      · have e1 : nv (x0 * (m : Int)) (x1 * (m : Int)) (x2 * (m : Int)) = .tuple #[V3 0 0 0, .int .i64 9] := by unfold nv; rw [hf]; rfl
        obtain ⟨q0, q1, q2, qe, hqq⟩ := nv_form (x0 * -(m : Int)) (x1 * -(m : Int)) (x2 * -(m : Int))
        obtain ⟨r0, r1, r2, re, hrr⟩ := nv_form (0 - 0) (0 - 0) (0 - 0)
        have S2 := Sub_any 0 0 0 0 0 0 ⟨I64_0, I64_0, I64_0, I64_0, I64_0, I64_0⟩
        rw [e1] at T1 S1
        rw [hqq] at T2
        rw [hrr] at S2
        unfold V3 at T1 S1 T2 S2
        have HT1 := hide T1; have HS1 := hide S1; have HT2 := hide T2; have HS2 := hide S2
        clear T1 S1 T2 S2 e1 hqq hrr hf
        go_wp2_with fail
        refine (HT1.out _).mono ?_
        rintro e w1 ⟨rfl, hb1⟩
        have hv1 := HV.out.call hb1
        have HB1 := hide (HB0.out.trans (hb1.mono HB0.out.size))
        have HW1 := hide hb1
        have o1 := hv1
        unfold H3 at o1
        clear hb1 hc0 hc1 hc2
        go_wp2_with fail
        refine (HS1.out _ (HW1.out.trans ((grow1 w1 _).mono HW1.out.size))).mono ?_
        rintro e w2 ⟨rfl, hb2⟩
        have hv2 := (hv1.alloc _).call hb2
        have hp2 := (H3.new w1 0 0 0 23 rfl).call hb2
        have HB2 := hide (HB1.out.trans (((grow1 w1 _).trans (hb2.mono (by simp))).mono HB1.out.size))
        have o2 := hv2
        have op2 := hp2
        unfold H3 at o2 op2
        clear hb2 hv1 o1 HB1 HW1
        go_wp2_with fail
        refine (HT2.out _).mono ?_
        rintro e w3 ⟨rfl, hb3⟩
        have hp3 := (hp2.alloc _).call hb3
        have HB3 := hide (HB2.out.trans (((grow1 w2 _).trans (hb3.mono (by simp))).mono HB2.out.size))
        have op3 := hp3
        unfold H3 at op3
        clear hb3 hv2 o2 op2 hp2 HB2
        go_wp2_with fail
        refine (HS2.out _).mono ?_
        rintro e w4 ⟨rfl, hb4⟩
        have hq4 := (H3.new w3 q0 q1 q2 23 rfl).call hb4
        have HB4 := hide (HB3.out.trans (((grow1 w3 _).trans (hb4.mono (by simp))).mono HB3.out.size))
        unfold H3 at hq4
        clear hb4 op3 hp3 HB3
        go_wp2_with fail
        refine (alive_any _).mono ?_
        rintro e w5 ⟨rfl, hb5⟩
        have HB5 := hide (HB4.out.trans (((grow1 w4 _).trans (hb5.mono (by simp))).mono HB4.out.size))
        clear hb5
        go_wp2
        go_ret
        exact ⟨rfl, HB5.out⟩
      · have hq := Bool.and_eq_true_iff.1 hf
        have hp := Bool.and_eq_true_iff.1 hq.1
        have e1 := nv_ok hp.1 hp.2 hq.2
        obtain ⟨q0, q1, q2, qe, hqq⟩ := nv_form (0 - x0 * (m : Int)) (0 - x1 * (m : Int)) (0 - x2 * (m : Int))
        have S2 := Sub_any 0 0 0 (x0 * (m : Int)) (x1 * (m : Int)) (x2 * (m : Int)) ⟨I64_0, I64_0, I64_0, fit_I64 hp.1, fit_I64 hp.2, fit_I64 hq.2⟩
        rw [e1] at T1 S1
        rw [neg_mul0, neg_mul0, neg_mul0] at T2
        rw [hqq] at T2 S2
        unfold V3 at T1 S1 T2 S2
        generalize hp0 : x0 * (m : Int) = p0 at *
        generalize hp1 : x1 * (m : Int) = p1 at *
        generalize hp2 : x2 * (m : Int) = p2 at *
        have HT1 := hide T1; have HS1 := hide S1; have HT2 := hide T2; have HS2 := hide S2
        clear T1 S1 T2 S2 hq hp e1 hqq hp0 hp1 hp2 hf
        go_wp2_with fail
        refine (HT1.out _).mono ?_
        rintro e w1 ⟨rfl, hb1⟩
        have hv1 := HV.out.call hb1
        have HB1 := hide (HB0.out.trans (hb1.mono HB0.out.size))
        have HW1 := hide hb1
        have o1 := hv1
        unfold H3 at o1
        clear hb1 hc0 hc1 hc2
        go_wp2_with fail
        refine (HS1.out _ (HW1.out.trans ((grow1 w1 _).mono HW1.out.size))).mono ?_
        rintro e w2 ⟨rfl, hb2⟩
        have hv2 := (hv1.alloc _).call hb2
        have hp2 := (H3.new w1 p0 p1 p2 23 rfl).call hb2
        have HB2 := hide (HB1.out.trans (((grow1 w1 _).trans (hb2.mono (by simp))).mono HB1.out.size))
        have o2 := hv2
        have op2 := hp2
        unfold H3 at o2 op2
        clear hb2 hv1 o1 HB1 HW1
        go_wp2_with fail
        refine (HT2.out _).mono ?_
        rintro e w3 ⟨rfl, hb3⟩
        have hp3 := (hp2.alloc _).call hb3
        have HB3 := hide (HB2.out.trans (((grow1 w2 _).trans (hb3.mono (by simp))).mono HB2.out.size))
        have op3 := hp3
        unfold H3 at op3
        clear hb3 hv2 o2 op2 hp2 HB2
        go_wp2_with fail
        refine (HS2.out _).mono ?_
        rintro e w4 ⟨rfl, hb4⟩
        have hq4 := (H3.new w3 q0 q1 q2 23 rfl).call hb4
        have HB4 := hide (HB3.out.trans (((grow1 w3 _).trans (hb4.mono (by simp))).mono HB3.out.size))
        unfold H3 at hq4
        clear hb4 op3 hp3 HB3
        go_wp2_with fail
        refine (alive_any _).mono ?_
        rintro e w5 ⟨rfl, hb5⟩
        have HB5 := hide (HB4.out.trans (((grow1 w4 _).trans (hb5.mono (by simp))).mono HB4.out.size))
        clear hb5
        go_wp2
        go_ret
        exact ⟨rfl, HB5.out⟩

theorem u8_of_wf {x : Int} (h : (Lit.int .u8 x).wf = true) : 0 ≤ x ∧ x ≤ 255 := by
  simp [Lit.wf, IntKind.min, IntKind.max, IntKind.signed, IntKind.bits] at h
  omega
theorem VecTimes_any (x0 x1 x2 n : Int) (h : I64 x0 ∧ I64 x1 ∧ I64 x2 ∧ (0 ≤ n ∧ n ≤ 255)) (w : World) :
    Calls Try.prog 7 #[V3 x0 x1 x2, .int .u8 n] w fun e w' => e = .returned (.bool true) ∧ Below w.heap.size w w' := by
  obtain ⟨m, rfl⟩ := Int.eq_ofNat_of_zero_le h.2.2.2.1
  exact VecTimes_walk x0 x1 x2 m (by have := h.2.2.2.2; omega) ⟨h.1, h.2.1, h.2.2.1⟩ w
end Go.Proofs.Ytklekpbfjcpjlaa
