/- The iterator of package wal, over the closures 72 and 66. Package wal's lay, over the closures 72 and 66. -/
import Derived.Test.YtelkccfjeinlcaaG1Diff
import Derived.Test.YtelkccfjeinlcaaGPw
namespace Go.Proofs.Ytelkccfjeinlcaa
open Go Go.RowKit Frm Go.Shelf
attribute [local go_sem] Oper.semAt_some
set_option maxRecDepth 100000 in
set_option maxHeartbeats 2000000 in
theorem diff1_72_66 (n : Nat) (_hn : 1 ≤ n) (l Ba Bn Bw N pw0 pw1 pn0 : Nat) (K : Nat → Prop) (a b : Nat → ByteArray) (J Jx : List (Nat × ByteArray) → World → Prop) (W : World) (hN : N ≤ 4096) (hJ : AbidesFrom W.heap.size J)
    (hY : ∀ pre x W1, J pre W1 → pre.length < (df a b N).length → YieldAt Fence.wide (n - 1) Try.prog l (encD x) W1 fun e W' =>
      (e = .returned (.bool true) ∧ J (pre ++ [x]) W' ∧ (W1.heap.size ≤ W'.heap.size ∧ Kpt K W1 W')) ∨ (e = .returned (.bool false) ∧ Jx (pre ++ [x]) W'))
    (hK : ∀ k, K k → k < W.heap.size) (hKn : K Bn) (hKw : K Bw)
    (hA : W.cell? ⟨Ba, 2, none⟩ = some (.int .i64 (N : Int))) (hBn : W.cell? ⟨Bn, 0, none⟩ = some (.func (.func 66) #[] #[.pointer (some ⟨pn0, 0, none⟩)])) (hBw : W.cell? ⟨Bw, 0, none⟩ = some (.func (.func 72) #[] #[.pointer (some ⟨pw0, 0, none⟩), .pointer (some ⟨pw1, 0, none⟩)]))
    (hnow : ∀ u i, Kpt K W u → i < N → Calls Try.prog 66 #[.int .i64 (i : Int), .pointer (some ⟨pn0, 0, none⟩)] u fun e u' => e = .returned (.string (b i)) ∧ Below u.heap.size u u')
    (hwas : ∀ u i, Kpt K W u → i < N → Calls Try.prog 72 #[.int .i64 (i : Int), .pointer (some ⟨pw0, 0, none⟩), .pointer (some ⟨pw1, 0, none⟩)] u fun e u' => e = .returned (.string (a i)) ∧ Below u.heap.size u u')
    (h0 : J [] W) :
    CallsIn Fence.wide n Try.prog 89 #[.func (.yield l) #[] #[], .pointer (some ⟨Ba, 0, none⟩), .pointer (some ⟨Bn, 0, none⟩), .pointer (some ⟨Bw, 0, none⟩)] W fun e W' => (∃ v, e = .returned v) ∧
      ((∃ ys, ys = df a b N ∧ J ys W') ∨ (∃ pre, pre <+: df a b N ∧ Jx pre W')) := by
  refine callsIn_of_wp Try.func89 rfl trivial ?_ rfl
  simp only [Try.ntmps89, List.size_toArray, List.length_cons, List.length_nil, Nat.reduceAdd, Nat.reduceSub, Array.replicate_succ, Array.replicate_zero, List.push_toArray, List.append_toArray, List.nil_append, List.cons_append]
  gi_wp2
  gi_loopw [5, 6, 9] (fun _ _ c wr => ∃ k : Nat, k ≤ N ∧ c = .int .i64 (k : Int) ∧ J (df a b k) wr ∧ W.heap.size ≤ wr.heap.size ∧ Kpt K W wr) (fun _ _ c _ => N - (intOf c).toNat)
  case atStart => exact ⟨0, Nat.zero_le _, rfl, h0, Nat.le_refl _, fun _ _ => rfl⟩
  case round =>
    obtain ⟨k, hk, rfl, hJk, hsz, hkp⟩ := hrel
    have HJk := hide hJk
    have HJ := hide hJ
    have HY := hide hY
    have HKP := hide hkp
    have HNW := hide hnow
    have HWS := hide hwas
    have HN := hide hN
    have HK := hide hK
    have HA := hide hA
    have HBn := hide hBn
    have HBw := hide hBw
    have hcn := hkp.cell hKn hBn
    clear hJk hJ hY hkp hnow hwas h0 hN hK hA hBn hBw
    by_cases hlt : k < N
    · have hz : (k : Int) < (N : Int) := by omega
      have hkN : k ≤ 4096 := by have := HN.out; omega
      have hw : IntKind.i64.wrap ((k : Int) + 1) = (k : Int) + 1 := by rw [IntKind.wrap_i64]; omega
      by_cases hab : a k = b k
      · have HD : Hid (df a b (k + 1) = df a b k) := by show _ = _; rw [df_succ, if_pos hab, List.append_nil]
        gi_wp2_with (fail)
        refine ⟨trivial, (callsIn_wide.2 (HNW.out _ k HKP.out hlt)).mono ?_⟩
        rintro e w1 ⟨rfl, hb1⟩
        have HKP1 := hide (HKP.out.below HK.out hsz hb1)
        have hsz1 := Nat.le_trans hsz hb1.size
        have hcw := HKP1.out.cell hKw HBw.out
        have HJ1 := hide (HJ.out _ _ _ none HJk.out (grown_of_below hb1) (fun r e => by cases e))
        clear hb1
        gi_wp2_with (fail)
        refine ⟨trivial, (callsIn_wide.2 (HWS.out _ k HKP1.out hlt)).mono ?_⟩
        rintro e w2 ⟨rfl, hb2⟩
        have HKP2 := hide (HKP1.out.below HK.out hsz1 hb2)
        have hsz2 := Nat.le_trans hsz1 hb2.size
        have hJ2 := HJ.out _ _ _ none HJ1.out (grown_of_below hb2) (fun r e => by cases e)
        clear hb2
        rw [hab]
        have HJ2 := hide hJ2
        clear hJ2
        gi_wp2_with (refine ⟨fun _ h => (by cases h), ?_⟩)
        go_roundw
        case rel => exact ⟨k + 1, hlt, by go_num, by rw [HD.out]; exact HJ2.out, hsz2, HKP2.out⟩
        case measure => simp [intOf]; omega
      · gi_wp2_with (fail)
        refine ⟨trivial, (callsIn_wide.2 (HNW.out _ k HKP.out hlt)).mono ?_⟩
        rintro e w1 ⟨rfl, hb1⟩
        have HKP1 := hide (HKP.out.below HK.out hsz hb1)
        have hsz1 := Nat.le_trans hsz hb1.size
        have hcw := HKP1.out.cell hKw HBw.out
        have HJ1 := hide (HJ.out _ _ _ none HJk.out (grown_of_below hb1) (fun r e => by cases e))
        clear hb1
        gi_wp2_with (fail)
        refine ⟨trivial, (callsIn_wide.2 (HWS.out _ k HKP1.out hlt)).mono ?_⟩
        rintro e w2 ⟨rfl, hb2⟩
        have HKP2 := hide (HKP1.out.below HK.out hsz1 hb2)
        have hsz2 := Nat.le_trans hsz1 hb2.size
        have hJ2 := HJ.out _ _ _ none HJ1.out (grown_of_below hb2) (fun r e => by cases e)
        clear hb2
        have hne : ((b k).toList == (a k).toList) = false := toList_ne (fun e => hab e.symm)
        have hDs : df a b (k + 1) = df a b k ++ [(k, b k)] := by rw [df_succ, if_neg hab]
        have hpre : df a b k ++ [(k, b k)] <+: df a b N := by rw [← hDs, show N = k + 1 + (N - (k + 1)) from by omega]; exact df_prefix a b (k + 1) _
        have hlen : (df a b k).length < (df a b N).length := by
          have := hpre.length_le
          rw [List.length_append] at this
          simp at this
          omega
        obtain ⟨fn, tmps, assign, body, hy0, hR⟩ := HY.out (df a b k) (k, b k) w2 hJ2 hlen
        have hy : (Instr.yield l #[.int .i64 (k : Int), .string (b k)]).run Try.prog w2 = .ok (.round l fn tmps assign body) w2 := hy0
        have HD := hide hDs
        have HP := hide hpre
        clear hy0 hDs hpre hlen hJ2
        gi_wp2
        refine hR.mono ?_
        rintro e W3 (⟨rfl, hJ3, hs3, hk3⟩ | ⟨rfl, hJx3⟩)
        · have HJ3 := hide hJ3
          have HKP3 := hide (HKP2.out.trans hk3)
          clear hJ3 hk3
          gi_wp2
          go_roundw
          case rel => exact ⟨k + 1, hlt, by go_num, by rw [HD.out]; exact HJ3.out, Nat.le_trans hsz2 hs3, HKP3.out⟩
          case measure => simp [intOf]; omega
        · have HJx3 := hide hJx3
          clear hJx3
          gi_wp2
          refine bodyPost_ret (results_none rfl _ _ _) rfl ?_
          exact ⟨⟨_, rfl⟩, .inr ⟨_, HP.out, HJx3.out⟩⟩
    · have hkN : k = N := by omega
      subst hkN
      gi_wp2
      go_end0
      exact ⟨⟨_, rfl⟩, .inl ⟨_, rfl, HJk.out⟩⟩
/-- The iterator's contract. -/
theorem diff_72_66 (n : Nat) (hn : 1 ≤ n) (Ba Bn Bw N pw0 pw1 pn0 : Nat) (K : Nat → Prop) (a b : Nat → ByteArray) (w : World) (hN : N ≤ 4096)
    (hK : ∀ k, K k → k < w.heap.size) (hKa : K Ba) (hKn : K Bn) (hKw : K Bw)
    (hA : w.cell? ⟨Ba, 2, none⟩ = some (.int .i64 (N : Int))) (hBn : w.cell? ⟨Bn, 0, none⟩ = some (.func (.func 66) #[] #[.pointer (some ⟨pn0, 0, none⟩)])) (hBw : w.cell? ⟨Bw, 0, none⟩ = some (.func (.func 72) #[] #[.pointer (some ⟨pw0, 0, none⟩), .pointer (some ⟨pw1, 0, none⟩)]))
    (hnow : ∀ u i, Kpt K w u → i < N → Calls Try.prog 66 #[.int .i64 (i : Int), .pointer (some ⟨pn0, 0, none⟩)] u fun e u' => e = .returned (.string (b i)) ∧ Below u.heap.size u u')
    (hwas : ∀ u i, Kpt K w u → i < N → Calls Try.prog 72 #[.int .i64 (i : Int), .pointer (some ⟨pw0, 0, none⟩), .pointer (some ⟨pw1, 0, none⟩)] u fun e u' => e = .returned (.string (a i)) ∧ Below u.heap.size u u') :
    SeqStopsK Fence.wide n Try.prog 89 #[.pointer (some ⟨Ba, 0, none⟩), .pointer (some ⟨Bn, 0, none⟩), .pointer (some ⟨Bw, 0, none⟩)] encD (fun A B => A.heap.size ≤ B.heap.size ∧ Kpt K A B) (fun ys => ys = df a b N) (fun pre => pre <+: df a b N) (df a b N).length w := fun l J Jx W hW hJ _ hY h0 =>
  have hk : Kpt K w W := fun k hk => hW.block k (hK k hk)
  diff1_72_66 n hn l Ba Bn Bw N pw0 pw1 pn0 K a b J Jx W hN hJ hY (fun k h => Nat.lt_of_lt_of_le (hK k h) hW.size) hKn hKw (hk.cell hKa hA) (hk.cell hKn hBn) (hk.cell hKw hBw) (fun u i hu hi => hnow u i (hk.trans hu) hi) (fun u i hu hi => hwas u i (hk.trans hu) hi) h0
end Go.Proofs.Ytelkccfjeinlcaa
namespace Go.Proofs.Ytelkccfjeinlcaa
open Go Go.RowKit Frm Go.Shelf
attribute [local go_sem] Oper.semAt_some
set_option maxRecDepth 100000 in
set_option maxHeartbeats 4000000 in
theorem lay_72_66 (q o N pw0 pw1 pn0 : Nat) (a b : Nat → ByteArray) (st : St) (F K0 : Nat → Prop) (w : World) (hD : DAt w q st F) (hok : st.Ok) (hlo : st.loose.length + N ≤ 10000) (hN : N ≤ 4096) (ho : o ≤ 4096) (hK0 : ∀ k, K0 k → k < w.heap.size ∧ ¬ F k)
    (hnow : ∀ u i, Kpt K0 w u → i < N → Calls Try.prog 66 #[.int .i64 (i : Int), .pointer (some ⟨pn0, 0, none⟩)] u fun e u' => e = .returned (.string (b i)) ∧ Below u.heap.size u u')
    (hwas : ∀ u i, Kpt K0 w u → i < N → Calls Try.prog 72 #[.int .i64 (i : Int), .pointer (some ⟨pw0, 0, none⟩), .pointer (some ⟨pw1, 0, none⟩)] u fun e u' => e = .returned (.string (a i)) ∧ Below u.heap.size u u') :
    Calls Try.prog 49 #[.agg #[.pointer (some ⟨q, 0, none⟩), .int .i64 (o : Int), .int .i64 (N : Int)], .func (.func 72) #[] #[.pointer (some ⟨pw0, 0, none⟩), .pointer (some ⟨pw1, 0, none⟩)], .func (.func 66) #[] #[.pointer (some ⟨pn0, 0, none⟩)]] w (LaidOut q o N a b st F w) := by
  have hF : ∀ k, F k → k < w.heap.size := con.lt hD
  have hK1 : ∀ k, K0 k → k < w.heap.size := fun k hk => (hK0 k hk).1
  obtain ⟨W0, hW0⟩ : ∃ W0, (((((((w.alloc (.cells #[.pointer (some ⟨q, 0, none⟩), .int .i64 (o : Int), .int .i64 (N : Int)] 87)).alloc (.cells #[.bool false] 4)).alloc (.cells #[.int .i64 0] 26)).alloc (.cells #[.bool false] 4)).alloc (.cells #[.pointer (some ⟨q, 0, none⟩), .int .i64 (o : Int), .int .i64 (N : Int)] 87)).alloc (.cells #[.func (.func 72) #[] #[.pointer (some ⟨pw0, 0, none⟩), .pointer (some ⟨pw1, 0, none⟩)]] 91)).alloc (.cells #[.func (.func 66) #[] #[.pointer (some ⟨pn0, 0, none⟩)]] 91)) = W0 := ⟨_, rfl⟩
  obtain ⟨hI0, hsz0, hA0, hNow0, hWas0, hkp0⟩ := lay_start q o N st F K0 w hD hK0 (.func (.func 72) #[] #[.pointer (some ⟨pw0, 0, none⟩), .pointer (some ⟨pw1, 0, none⟩)]) (.func (.func 66) #[] #[.pointer (some ⟨pn0, 0, none⟩)]) W0 hW0
  have HIT := hide (diff_72_66 5 (by decide) (w.heap.size + 1 + 1 + 1 + 1) (w.heap.size + 1 + 1 + 1 + 1 + 1 + 1) (w.heap.size + 1 + 1 + 1 + 1 + 1) N pw0 pw1 pn0 (KL w.heap.size K0) a b W0 hN (fun k hk => by rw [hsz0]; exact KL.lt hK1 k hk) (Or.inr (Or.inl rfl)) (Or.inr (Or.inr (Or.inr rfl))) (Or.inr (Or.inr (Or.inl rfl))) hA0 hNow0 hWas0
    (fun u i hu hi => hnow u i (fun k hk => (hu k (Or.inl hk)).trans (hkp0 k hk)) hi) (fun u i hu hi => hwas u i (fun k hk => (hu k (Or.inl hk)).trans (hkp0 k hk)) hi))
  have HNW := hide hnow
  have HI0 := hide hI0
  clear hI0 hnow hwas
  refine (callsIn_wide (n := 6)).1 ?_
  refine callsIn_of_wp_marks Try.func49 rfl trivial ?_ rfl
  simp only [Try.ntmps49, List.size_toArray, List.length_cons, List.length_nil, Nat.reduceAdd, Nat.reduceSub, Array.replicate_succ, Array.replicate_zero, List.push_toArray, List.append_toArray, List.nil_append, List.cons_append]
  gi_wp2_with (refine ⟨trivial, ?_⟩; gi_at_call 77; refine (differing_in _ q (o : Int) (N : Int) 72 66 _ _ _).mono ?_; rintro e w' ⟨rfl, rfl⟩)

  clear hW0 hA0 hNow0 hWas0 hkp0
  refine wpIn_rangeFunc_ownH rfl (by decide) (gf := 89) (lb := #[.pointer (some ⟨w.heap.size + 1 + 1 + 1 + 1, 0, none⟩), .pointer (some ⟨w.heap.size + 1 + 1 + 1 + 1 + 1 + 1, 0, none⟩), .pointer (some ⟨w.heap.size + 1 + 1 + 1 + 1 + 1, 0, none⟩)]) rfl trivial (enters_of Try.func89 (by kernel_rfl) rfl)
    HIT.out (fun h k => ⟨Nat.le_trans h.1 k.1, h.2.trans k.2⟩) (fun W l ob ob' hl hh _ _ => kp_put hK1 (by rw [← hsz0]; exact hl)) (Below.refl _ _) (fun _ => rfl)
    (LIn w q o N st F K0) (LOut w q o N st F K0) (LIn.own hK1 (by rw [hsz0]; exact Nat.le_refl _)) (LOut.own hK1 (by rw [hsz0]; exact Nat.le_refl _))
    HI0.out
    (fun x a' _ => a' = { tmps := #[.agg #[.pointer (some ⟨q, 0, none⟩), .int .i64 (o : Int), .int .i64 (N : Int)], .func (.func 72) #[] #[.pointer (some ⟨pw0, 0, none⟩), .pointer (some ⟨pw1, 0, none⟩)], .func (.func 66) #[] #[.pointer (some ⟨pn0, 0, none⟩)], .pointer (some ⟨w.heap.size, 0, none⟩), undef, undef, .pointer (some ⟨w.heap.size + 1, 0, none⟩), .pointer (some ⟨w.heap.size + 1 + 1, 0, none⟩), .pointer (some ⟨w.heap.size + 1 + 1 + 1, 0, none⟩), .int .i64 (x.1 : Int), .string x.2, undef, .agg #[.pointer (some ⟨q, 0, none⟩), .int .i64 (o : Int), .int .i64 (N : Int)], .func (.func 72) #[] #[.pointer (some ⟨pw0, 0, none⟩), .pointer (some ⟨pw1, 0, none⟩)], .func (.func 66) #[] #[.pointer (some ⟨pn0, 0, none⟩)], .func (.func 89) #[] #[.pointer (some ⟨w.heap.size + 1 + 1 + 1 + 1, 0, none⟩), .pointer (some ⟨w.heap.size + 1 + 1 + 1 + 1 + 1 + 1, 0, none⟩), .pointer (some ⟨w.heap.size + 1 + 1 + 1 + 1 + 1, 0, none⟩)], .int .i64 (x.1 : Int), .string x.2, undef, undef, undef, undef, undef, undef, undef, undef, undef, undef, undef, undef], defers := [] }) (fun x a' _ X Y row hs hg hr => hs)
    ?assign ?body ?done ?stop
  case assign =>
    rintro l pre x W K hi hK
    dsimp only [encD]
    have HK := hide hK
    have HI := hide hi
    clear hK hi
    gi_wp2
    exact HK.out _ _ (KeepsFrom.refl _ _) ⟨Nat.le_refl _, fun _ _ => rfl⟩ HI.out rfl
  case body =>
    rintro l pre x a' W hl ⟨r, hr⟩ ⟨F', hi, h0⟩ rfl hlt
    have hst := LayIn.state hi hok hlo (Nat.le_trans (Nat.le_of_lt hlt) (df_length a b N))
    have hc0 := hi.c0
    have hc1 := hi.c1
    have KW := hide (write_any q _ F' (wrap64 ((o : Int) + (x.1 : Int))) x.2 W hi.disk hst.1 hst.2)
    have HI := hide hi
    have H0 := hide h0
    have HKK := hide hK0
    have HFF := hide hF
    have HK1 := hide hK1
    clear hi h0 hst hK0 hF hK1
    by_cases he : ((pw o pre st).2.write (wrap64 ((o : Int) + (x.1 : Int))) x.2).1 = 0
    · rw [he] at KW
      have HE := hide he
      clear he
      gi_wp2_with (fail)
      refine ⟨trivial, CallsIn.mono (F := Fence.wide) (callsIn_wide.2 KW.out) ?_⟩
      rintro e W1 ⟨rfl, F2, hd, hloc⟩
      have h1 := HI.out.write HFF.out HKK.out H0.out hd hloc
      have hfw := h1.w.frozen
      have hcw := h1.w.cell
      have H1 := hide h1
      have HL := hide hloc
      clear h1 hd hloc
      gi_wp2
      exact lay_go HI.out H1.out HL.out HFF.out HKK.out H0.out HE.out
    · have hez : ¬ (((((pw o pre st).2.write (wrap64 ((o : Int) + (x.1 : Int))) x.2).1 : Nat) : Int) = 0) := by omega
      have HE := hide he
      clear he
      generalize hen : ((pw o pre st).2.write (wrap64 ((o : Int) + (x.1 : Int))) x.2).1 = en at *
      have HEN := hide hen
      clear hen
      gi_wp2_with (fail)
      refine ⟨trivial, CallsIn.mono (F := Fence.wide) (callsIn_wide.2 KW.out) ?_⟩
      rintro e W1 ⟨rfl, F2, hd, hloc⟩
      have h1 := HI.out.write HFF.out HKK.out H0.out hd hloc
      have hfb := h1.b.frozen
      have hcb := h1.b.cell
      have hfe := h1.e.frozen
      have hce := h1.e.cell
      have H1 := hide h1
      have HL := hide hloc
      clear h1 hd hloc
      gi_wp2
      exact lay_no HI.out H1.out HL.out HFF.out HK1.out H0.out (HEN.out.symm ▸ HE.out) HEN.out
  case done =>
    rintro D ys W hD rfl ⟨F', hi, h0⟩ hK
    have hfb := hi.b.frozen
    have hcb := hi.b.cell
    have hfe := hi.e.frozen
    have hce := hi.e.cell
    have hcw := hi.w.cell
    have HI := hide hi
    have H0 := hide h0
    have HK := hide hK
    clear hi h0 hK
    gi_wp2
    obtain ⟨hK', k1, k2, hl⟩ := lay_done a b ho hN HI.out hF hK1 H0.out HK.out (by omega)
    refine ⟨by simp, .inl ⟨_, _, rfl, run_takeDeferred hK', ?_⟩⟩
    refine ⟨.tuple #[.bool (!(df a b N).isEmpty), .int .i64 0], ?_, hl⟩
    simp [results, Try.f49, go_sem, k1, k2]
  case stop =>
    rintro D c pre W hD hpre ⟨rfl, h0, F', vW, hi⟩ hK
    obtain ⟨hK', k1, k2, hl⟩ := lay_stop a b ho hN hi hK1 h0 hpre hK (by omega)
    gi_wp2
    refine ⟨by simp, .inl ⟨_, _, rfl, run_takeDeferred hK', ?_⟩⟩
    refine ⟨.tuple #[.bool false, .int .i64 (((pw o pre st).1 : Nat) : Int)], ?_, hl⟩
    simp [results, Try.f49, go_sem, k1, k2]
end Go.Proofs.Ytelkccfjeinlcaa
