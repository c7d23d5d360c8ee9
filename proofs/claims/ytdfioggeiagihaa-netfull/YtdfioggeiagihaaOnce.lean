/- The law NetOnce, over the contracts. -/
import Derived.Test.YtdfioggeiagihaaOnce1
namespace Go.Proofs.Ytdfioggeiagihaa
open Go Go.RowKit

set_option maxRecDepth 10000 in
set_option maxHeartbeats 8000000 in
theorem NetOnce_any {NAt : World → Nat → Nt → (Nat → Prop) → Prop} (C : Con NAt) (a : Option Addr) (c : Nat) (l : List Stp) (w : World) (h : StepsAt w a l) (hok : ∀ x ∈ l, x.Ok) (hl : l.length ≤ 140737488351232) :
    Calls Try.prog 4 #[.slice a l.length c] w fun e w' => e = .returned (.bool true) ∧ Below w.heap.size w w' := by
  have HC := hide C
  have HS := hide h
  have HOk := hide hok
  have KH := hide (heavy_any a c l w h hok hl)
  clear C h hok
  go_enter Try.func4, Try.ntmps4
  go_wp2_with fail
  refine KH.out.mono ?_
  rintro e w1 ⟨r, rfl, hw, hr⟩
  obtain rfl := hw.symm
  clear hw KH
  cases r with
  | true =>
    clear hr
    go_wp2_with fail
    refine (alive_any HC.out w).mono ?_
    rintro e w2 ⟨rfl, hb2⟩
    have HB2 := hide hb2
    clear hb2
    go_wp2
    go_ret
    exact ⟨rfl, HB2.out⟩
  | false =>
    have hl150 := hr rfl
    clear hr
    go_wp2_with fail
    refine (HC.out.new w).mono ?_
    rintro e w2 ⟨p, F, rfl, h1, hF, hb1⟩
    have hmm := @run_makeMap Try.prog
    have HOn : Hid (On NAt w.heap.size w (w2.alloc (.map #[] 0)) p w2.heap.size 0 Nt.new F (fun _ => none)) :=
      ⟨HC.out.below h1 (one_below _ _), Nt.Ok.new, hF, hb1.trans ((one_below w2 _).mono hb1.size), Nat.le_refl _, MAt.made _ _, fun i hi e => (by have := HC.out.lt h1 i hi; omega), hb1.size⟩
    clear h1 hF hb1
    go_wp2_with fail
    generalize w2.alloc (.map #[] 0) = w3 at *
    generalize w2.heap.size = q at *
    clear hmm
    go_loopw [5, 6, 7, 8, 9, 10, 11, 12, 13, 14, 15, 16, 17, 18, 19, 20, 21, 22, 23, 24, 25] (fun hv i _ _ _ _ _ _ _ _ _ _ _ _ _ _ _ _ _ _ _ u => ∃ (k : Nat) (st : Nt) (F : Nat → Prop) (f : Lit → Option Value), k ≤ l.length ∧ i = .int .i64 (k : Int) ∧ hv = .int .i64 (st.l.length : Int) ∧ On NAt w.heap.size w u p q k st F f ∧ Sent st f) (fun _ i _ _ _ _ _ _ _ _ _ _ _ _ _ _ _ _ _ _ _ _ => l.length - (intOf i).toNat)
    case atStart => exact ⟨0, Nt.new, F, _, Nat.zero_le _, rfl, rfl, HOn.out, Sent.new⟩
    case round =>
      obtain ⟨k, st, F1, f, hk, rfl, rfl, hon, hse⟩ := hrel
      have HO := hide hon
      have HSe := hide hse
      clear hon hse HOn
      by_cases hlt : k < l.length
      · obtain ⟨b, off, rfl, hc⟩ := HS.out.there k hlt
        have hxo := HOk.out _ (List.getElem_mem hlt)
        have HXo := hide hxo
        have hbw := World.block_lt_of_cell? w _ hc.1
        obtain ⟨e0, e1, e2, e3, e4⟩ := hc.old (HO.out.below)
        clear hc hxo
        generalize l[k] = x at *
        obtain ⟨xd, xa, xb, xn, xs⟩ := x
        dsimp only at e0 e1 e2 e3 e4
        have hk150 : k ≤ 150 := by omega
        have HR := hide (Rd.start HC.out HO.out #[.int .i64 xd, .int .i64 xa, .int .i64 xb, .int .u64 (xn : Int), .string xs])
        have hfew := HO.out.ok.few
        clear hbw HO
        go_wp2_with fail
        all_goals
          clear e0 e1 e2 e3 e4
          generalize wr.alloc (.cells #[.int .i64 xd, .int .i64 xa, .int .i64 xb, .int .u64 (xn : Int), .string xs] 34) = W1 at *
          generalize wr.heap.size = X at *
          obtain ⟨c0, c1, c2, c3, c4⟩ := HR.out.box.five
        · as_aux_lemma =>
          have hO := HR.out.on.ok.send xa xb xs
          have KT := hide (HC.out.send p st F1 k xa xb xs W1 HR.out.on.net HR.out.on.ok (fine150 hk150) HXo.out.a HXo.out.b HXo.out.s)
          rcases send_ways st xa xb xs with ⟨e, he, hd⟩ | hd
          · rw [hd] at KT hO
            have hE : ((e : Int) == 0) = false := by simp; omega
            have HO := hide hO
            have HZ : Hid ((f (.int .u64 0)).getD noLt.val = .agg #[.int .u64 0, .int .i64 0, .int .i64 0, .string ⟨#[]⟩, .int .i64 0] ∧ (f (.int .u64 0)).isSome = false) := by
              have := HSe.out.at_ 0
              rw [find_zero HR.out.on.ok] at this
              exact ⟨(congrArg (fun o => Option.getD o noLt.val) this).trans rfl, (congrArg Option.isSome this).trans rfl⟩
            clear hd hO he
            go_wp2_with fail
            refine KT.out.mono ?_
            rintro e' w5 ⟨rfl, F5, h5, l5⟩
            have HR5 := hide (HR.out.call h5 l5 HO.out (Nat.le_succ k))
            have hm5 := HR.out.on.map.same (l5.block q HR.out.on.map.lt (fun hF => HR.out.on.apart q hF rfl))
            have HM : Hid (∀ z, Below w5.heap.size w5 z → MAt z 29 q k f) := fun z hz => hm5.below hz
            clear h5 l5 KT HR c0 c1 c2 c3 c4 HO hm5
            obtain ⟨c0, c1, c2, c3, c4⟩ := HR5.out.box.five
            have hXl := HR5.out.box.lt
            have HRT := hide (HR5.out.old HC.out (one_below _ (.cells #[.int .u64 0, .int .i64 0, .int .i64 0, .string ⟨#[]⟩, .int .i64 0] 41)))
            have HST : Hid (Sent (st) (f)) := HSe.out
            have KL := hide (HC.out.len p (st) F5 (k + 1) _ HRT.out.on.net HRT.out.on.ok (fine150 (by omega)))
            clear HR5
            go_wp2_with (first | (at_lookup; refine wpList_look_ok _ rfl _ _ 52 rfl 29 41 keyedU Try.underlying52 zeroLt q _ f rfl (HM.out _ (by first | exact Below.refl _ _ | exact one_below _ _)) (.int .u64 0) (.int .u64 0) rfl (key_u64 (n := 0) (by decide)) _ _ HZ.out.1 HZ.out.2 ?_))
            clear c0 c1 c2 c3 c4
            generalize w5.alloc (.cells #[.int .u64 0, .int .i64 0, .int .i64 0, .string ⟨#[]⟩, .int .i64 0] 41) = w6 at *
            refine KL.out.mono ?_
            rintro e9 w9 ⟨rfl, hb9⟩
            have HO9 := hide (HRT.out.on.old HC.out hb9)
            clear hb9 KL HRT
            go_wp2_with fail
            exact ⟨⟨k + 1, st, F5, f, hlt, by go_num, rfl, HO9.out, HST.out⟩, by simp [intOf]; omega⟩
          · rw [hd] at KT hO
            obtain ⟨N, hN⟩ : ∃ N, N = st.n + 1 := ⟨_, rfl⟩
            have hNb : N < 18446744073709551616 := by have := HR.out.on.ok.last; omega
            have HN := hide hN
            rw [← hN] at KT
            have HO := hide hO
            have HOs := hide HR.out.on.ok
            have HZ : Hid ((f (.int .u64 (N : Int))).getD noLt.val = .agg #[.int .u64 0, .int .i64 0, .int .i64 0, .string ⟨#[]⟩, .int .i64 0] ∧ (f (.int .u64 (N : Int))).isSome = false) := by
              have := HSe.out.at_ N
              rw [HN.out, HR.out.on.ok.find_fresh] at this
              rw [HN.out]
              exact ⟨(congrArg (fun o => Option.getD o noLt.val) this).trans rfl, (congrArg Option.isSome this).trans rfl⟩
            have hKN := hide (key_u64 hNb)
            clear hd hO hN hNb
            go_wp2_with fail
            refine KT.out.mono ?_
            rintro e' w5 ⟨rfl, F5, h5, l5⟩
            have HR5 := hide (HR.out.call h5 l5 HO.out (Nat.le_succ k))
            have hm5 := HR.out.on.map.same (l5.block q HR.out.on.map.lt (fun hF => HR.out.on.apart q hF rfl))
            have HM : Hid (∀ z, Below w5.heap.size w5 z → MAt z 29 q k f) := fun z hz => hm5.below hz
            clear h5 l5 KT HR c0 c1 c2 c3 c4 HO hm5
            obtain ⟨c0, c1, c2, c3, c4⟩ := HR5.out.box.five
            have hXl := HR5.out.box.lt
            have hl0 : (st.l.length : Int) ≤ 4096 := by omega
            go_wp2_with (first | (at_lookup; refine wpList_look_ok _ rfl _ _ 52 rfl 29 41 keyedU Try.underlying52 zeroLt q _ f rfl (HM.out _ (by first | exact Below.refl _ _ | exact one_below _ _)) (.int .u64 (N : Int)) (.int .u64 (N : Int)) rfl hKN.out _ _ HZ.out.1 HZ.out.2 ?_) | (at_mapUpdate; refine wpList_put _ rfl _ _ _ 52 rfl 29 41 keyedU Try.underlying52 q _ f rfl (HM.out _ (by first | exact Below.refl _ _ | exact one_below _ _)) (by unfold maxLen; omega) (.int .u64 (N : Int)) (.agg #[.int .u64 0, .int .i64 xa, .int .i64 xb, .string xs, .int .i64 0]) (.int .u64 (N : Int)) rfl rfl hKN.out True.intro ?_; intro w7 hm7 ht7))
            clear c0 c1 c2 c3 c4
            have HRT := hide ((HR5.out.old HC.out (one_below _ (.cells #[.int .u64 0, .int .i64 0, .int .i64 0, .string ⟨#[]⟩, .int .i64 0] 41))).turned HC.out hm7 ht7 (Nat.le_refl _))
            have HST : Hid (Sent (sendN st xa xb xs) (putF f (.int .u64 (N : Int)) (.agg #[.int .u64 0, .int .i64 xa, .int .i64 xb, .string xs, .int .i64 0]))) := (by rw [HN.out]; exact HSe.out.send HOs.out xa xb xs)
            have KL := hide (HC.out.len p (sendN st xa xb xs) F5 (k + 1) _ HRT.out.on.net HRT.out.on.ok (fine150 (by omega)))
            have hLn : (((sendN st xa xb xs).l.length : Nat) : Int) = (st.l.length : Int) + 1 := (by rw [len_send]; omega)
            rw [hLn] at KL
            have HLn := hide hLn
            clear hLn
            clear hm7 ht7 HR5
            refine KL.out.mono ?_
            rintro e9 w9 ⟨rfl, hb9⟩
            have HO9 := hide (HRT.out.on.old HC.out hb9)
            clear hb9 KL HRT
            go_wp2_with fail
            exact ⟨⟨k + 1, sendN st xa xb xs, F5, _, hlt, by go_num, by rw [HLn.out], HO9.out, HST.out⟩, by simp [intOf]; omega⟩
        · as_aux_lemma =>
          have hO := HR.out.on.ok.double xn
          have KT := hide (HC.out.double p st F1 k xn W1 HR.out.on.net HR.out.on.ok (fine150 hk150) HXo.out.n)
          have hKX := hide (key_u64 HXo.out.n)
          rcases double_ways st xn with ⟨e, he, hd⟩ | ⟨y, hy, hd⟩
          · rw [hd] at KT hO
            have hE : ((e : Int) == 0) = false := by simp; omega
            have HO := hide hO
            obtain ⟨y, hy⟩ := HSe.out.any xn
            rw [bareIs] at hy
            have HY := hide hy
            have HZ : Hid ((f (.int .u64 0)).getD noLt.val = .agg #[.int .u64 0, .int .i64 0, .int .i64 0, .string ⟨#[]⟩, .int .i64 0] ∧ (f (.int .u64 0)).isSome = false) := by
              have := HSe.out.at_ 0
              rw [find_zero HR.out.on.ok] at this
              exact ⟨(congrArg (fun o => Option.getD o noLt.val) this).trans rfl, (congrArg Option.isSome this).trans rfl⟩
            clear hd hO he hy
            go_wp2_with fail
            refine KT.out.mono ?_
            rintro e' w5 ⟨rfl, F5, h5, l5⟩
            have HR5 := hide (HR.out.call h5 l5 HO.out (Nat.le_succ k))
            have hm5 := HR.out.on.map.same (l5.block q HR.out.on.map.lt (fun hF => HR.out.on.apart q hF rfl))
            have HM : Hid (∀ z, Below w5.heap.size w5 z → MAt z 29 q k f) := fun z hz => hm5.below hz
            clear h5 l5 KT HR c0 c1 c2 c3 c4 HO hm5
            obtain ⟨c0, c1, c2, c3, c4⟩ := HR5.out.box.five
            have hXl := HR5.out.box.lt
            go_wp2_with (first | (at_lookup; refine wpList_look_ok _ rfl _ _ 52 rfl 29 41 keyedU Try.underlying52 zeroLt q _ f rfl (HM.out _ (by first | exact Below.refl _ _ | exact one_below _ _)) (.int .u64 (xn : Int)) (.int .u64 (xn : Int)) rfl hKX.out _ _ HY.out rfl ?_) | (at_lookup; refine wpList_look_ok _ rfl _ _ 52 rfl 29 41 keyedU Try.underlying52 zeroLt q _ f rfl (HM.out _ (by first | exact Below.refl _ _ | exact one_below _ _)) (.int .u64 0) (.int .u64 0) rfl (key_u64 (n := 0) (by decide)) _ _ HZ.out.1 HZ.out.2 ?_))
            clear c0 c1 c2 c3 c4
            have HRT := hide (HR5.out.old HC.out ((one_below _ (.cells #[.int .u64 0, .int .i64 y.a, .int .i64 y.b, .string y.s, .int .i64 0] 41)).alloc (by simp) (.cells #[.int .u64 0, .int .i64 0, .int .i64 0, .string ⟨#[]⟩, .int .i64 0] 41)))
            have HST : Hid (Sent (st) (f)) := HSe.out
            have KL := hide (HC.out.len p (st) F5 (k + 1) _ HRT.out.on.net HRT.out.on.ok (fine150 (by omega)))
            clear HR5
            refine KL.out.mono ?_
            rintro e9 w9 ⟨rfl, hb9⟩
            have HO9 := hide (HRT.out.on.old HC.out hb9)
            clear hb9 KL HRT
            go_wp2_with fail
            exact ⟨⟨k + 1, st, F5, f, hlt, by go_num, rfl, HO9.out, HST.out⟩, by simp [intOf]; omega⟩
          · rw [hd] at KT hO
            obtain ⟨N, hN⟩ : ∃ N, N = st.n + 1 := ⟨_, rfl⟩
            have hNb : N < 18446744073709551616 := by have := HR.out.on.ok.last; omega
            have HN := hide hN
            rw [← hN] at KT
            have HO := hide hO
            have HOs := hide HR.out.on.ok
            have HZ : Hid ((f (.int .u64 (N : Int))).getD noLt.val = .agg #[.int .u64 0, .int .i64 0, .int .i64 0, .string ⟨#[]⟩, .int .i64 0] ∧ (f (.int .u64 (N : Int))).isSome = false) := by
              have := HSe.out.at_ N
              rw [HN.out, HR.out.on.ok.find_fresh] at this
              rw [HN.out]
              exact ⟨(congrArg (fun o => Option.getD o noLt.val) this).trans rfl, (congrArg Option.isSome this).trans rfl⟩
            have HY : Hid ((f (.int .u64 (xn : Int))).getD noLt.val = .agg #[.int .u64 0, .int .i64 y.a, .int .i64 y.b, .string y.s, .int .i64 0] ∧ (f (.int .u64 (xn : Int))).isSome = true) := by
              have := HSe.out.at_ xn
              rw [hy] at this
              exact ⟨(congrArg (fun o => Option.getD o noLt.val) this).trans rfl, (congrArg Option.isSome this).trans rfl⟩
            have hKN := hide (key_u64 hNb)
            clear hd hO hN hNb hy
            go_wp2_with fail
            refine KT.out.mono ?_
            rintro e' w5 ⟨rfl, F5, h5, l5⟩
            have HR5 := hide (HR.out.call h5 l5 HO.out (Nat.le_succ k))
            have hm5 := HR.out.on.map.same (l5.block q HR.out.on.map.lt (fun hF => HR.out.on.apart q hF rfl))
            have HM : Hid (∀ z, Below w5.heap.size w5 z → MAt z 29 q k f) := fun z hz => hm5.below hz
            clear h5 l5 KT HR c0 c1 c2 c3 c4 HO hm5
            obtain ⟨c0, c1, c2, c3, c4⟩ := HR5.out.box.five
            have hXl := HR5.out.box.lt
            have hl0 : (st.l.length : Int) ≤ 4096 := by omega
            go_wp2_with (first | (at_lookup; refine wpList_look_ok _ rfl _ _ 52 rfl 29 41 keyedU Try.underlying52 zeroLt q _ f rfl (HM.out _ (by first | exact Below.refl _ _ | exact one_below _ _)) (.int .u64 (xn : Int)) (.int .u64 (xn : Int)) rfl hKX.out _ _ HY.out.1 HY.out.2 ?_) | (at_lookup; refine wpList_look_ok _ rfl _ _ 52 rfl 29 41 keyedU Try.underlying52 zeroLt q _ f rfl (HM.out _ (by first | exact Below.refl _ _ | exact one_below _ _)) (.int .u64 (N : Int)) (.int .u64 (N : Int)) rfl hKN.out _ _ HZ.out.1 HZ.out.2 ?_) | (at_mapUpdate; refine wpList_put _ rfl _ _ _ 52 rfl 29 41 keyedU Try.underlying52 q _ f rfl (HM.out _ ((one_below _ _).alloc (by simp) _)) (by unfold maxLen; omega) (.int .u64 (N : Int)) (.agg #[.int .u64 0, .int .i64 y.a, .int .i64 y.b, .string y.s, .int .i64 0]) (.int .u64 (N : Int)) rfl rfl hKN.out True.intro ?_; intro w7 hm7 ht7))
            clear c0 c1 c2 c3 c4
            have HRT := hide ((HR5.out.old HC.out ((one_below _ (.cells #[.int .u64 0, .int .i64 y.a, .int .i64 y.b, .string y.s, .int .i64 0] 41)).alloc (by simp) (.cells #[.int .u64 0, .int .i64 0, .int .i64 0, .string ⟨#[]⟩, .int .i64 0] 41))).turned HC.out hm7 ht7 (Nat.le_refl _))
            have HST : Hid (Sent (doubleN st y) (putF f (.int .u64 (N : Int)) (.agg #[.int .u64 0, .int .i64 y.a, .int .i64 y.b, .string y.s, .int .i64 0]))) := (by rw [HN.out]; exact HSe.out.double HOs.out y)
            have KL := hide (HC.out.len p (doubleN st y) F5 (k + 1) _ HRT.out.on.net HRT.out.on.ok (fine150 (by omega)))
            have hLn : (((doubleN st y).l.length : Nat) : Int) = (st.l.length : Int) + 1 := (by rw [len_double]; omega)
            rw [hLn] at KL
            have HLn := hide hLn
            clear hLn
            clear hm7 ht7 HR5
            refine KL.out.mono ?_
            rintro e9 w9 ⟨rfl, hb9⟩
            have HO9 := hide (HRT.out.on.old HC.out hb9)
            clear hb9 KL HRT
            go_wp2_with fail
            exact ⟨⟨k + 1, doubleN st y, F5, _, hlt, by go_num, by rw [HLn.out], HO9.out, HST.out⟩, by simp [intOf]; omega⟩
        · as_aux_lemma =>
          have hO := (HR.out.on.ok.dropped xn).more (Nat.le_succ k)
          have KT := hide (HC.out.drop p st F1 k xn W1 HR.out.on.net HR.out.on.ok (fine150 hk150) HXo.out.n)
          have hKX := hide (key_u64 HXo.out.n)
          rcases drop_ways st xn with ⟨e, he, hd⟩ | ⟨y, hy, hd⟩
          · rw [hd] at KT hO
            have hE : ((e : Int) == 0) = false := by simp; omega
            have HO := hide hO
            clear hd hO he
            go_wp2_with fail
            refine KT.out.mono ?_
            rintro e' w5 ⟨rfl, F5, h5, l5⟩
            have HR5 := hide (HR.out.call h5 l5 HO.out (Nat.le_succ k))
            have hm5 := HR.out.on.map.same (l5.block q HR.out.on.map.lt (fun hF => HR.out.on.apart q hF rfl))
            have HM : Hid (∀ z, Below w5.heap.size w5 z → MAt z 29 q k f) := fun z hz => hm5.below hz
            clear h5 l5 KT HR c0 c1 c2 c3 c4 HO hm5
            obtain ⟨c0, c1, c2, c3, c4⟩ := HR5.out.box.five
            have hXl := HR5.out.box.lt
            clear c0 c1 c2 c3 c4
            have HRT := hide (HR5.out)
            have HST : Hid (Sent (st) (f)) := HSe.out
            have KL := hide (HC.out.len p (st) F5 (k + 1) _ HRT.out.on.net HRT.out.on.ok (fine150 (by omega)))
            clear HR5
            go_wp2_with fail
            refine KL.out.mono ?_
            rintro e9 w9 ⟨rfl, hb9⟩
            have HO9 := hide (HRT.out.on.old HC.out hb9)
            clear hb9 KL HRT
            go_wp2_with fail
            exact ⟨⟨k + 1, st, F5, f, hlt, by go_num, rfl, HO9.out, HST.out⟩, by simp [intOf]; omega⟩
          · rw [hd] at KT hO
            have HO := hide hO
            have HLd := hide (len_drop HR.out.on.ok hy)
            have HY : Hid ((f (.int .u64 (xn : Int))).getD noLt.val = .agg #[.int .u64 0, .int .i64 y.a, .int .i64 y.b, .string y.s, .int .i64 0] ∧ (f (.int .u64 (xn : Int))).isSome = true) := by
              have := HSe.out.at_ xn
              rw [hy] at this
              exact ⟨(congrArg (fun o => Option.getD o noLt.val) this).trans rfl, (congrArg Option.isSome this).trans rfl⟩
            clear hd hO hy
            go_wp2_with fail
            refine KT.out.mono ?_
            rintro e' w5 ⟨rfl, F5, h5, l5⟩
            have HR5 := hide (HR.out.call h5 l5 HO.out (Nat.le_succ k))
            have hm5 := HR.out.on.map.same (l5.block q HR.out.on.map.lt (fun hF => HR.out.on.apart q hF rfl))
            have HM : Hid (∀ z, Below w5.heap.size w5 z → MAt z 29 q k f) := fun z hz => hm5.below hz
            clear h5 l5 KT HR c0 c1 c2 c3 c4 HO hm5
            obtain ⟨c0, c1, c2, c3, c4⟩ := HR5.out.box.five
            have hXl := HR5.out.box.lt
            have hl0 : (st.l.length : Int) ≤ 4096 := by omega
            have hl1 : 1 ≤ (st.l.length : Int) := by have := HLd.out; omega
            go_wp2_with (first | (at_lookup; refine wpList_look_ok _ rfl _ _ 52 rfl 29 41 keyedU Try.underlying52 zeroLt q _ f rfl (HM.out _ (by first | exact Below.refl _ _ | exact one_below _ _)) (.int .u64 (xn : Int)) (.int .u64 (xn : Int)) rfl hKX.out _ _ HY.out.1 HY.out.2 ?_) | (at_delete; refine wpList_del _ rfl _ _ 52 29 rfl 41 keyedU Try.underlying52 q _ f rfl (HM.out _ (by first | exact Below.refl _ _ | exact one_below _ _)) (.int .u64 (xn : Int)) (.int .u64 (xn : Int)) rfl hKX.out True.intro ?_; intro w7 hm7 ht7))
            clear c0 c1 c2 c3 c4
            have HRT := hide ((HR5.out.old HC.out (one_below _ (.cells #[.int .u64 0, .int .i64 y.a, .int .i64 y.b, .string y.s, .int .i64 0] 41))).turned HC.out (hm7.mono (Nat.le_succ k)) ht7 (Nat.le_refl _))
            have HST : Hid (Sent (dropN st xn) (delF f (.int .u64 (xn : Int)))) := HSe.out.drop xn
            have KL := hide (HC.out.len p (dropN st xn) F5 (k + 1) _ HRT.out.on.net HRT.out.on.ok (fine150 (by omega)))
            have hLn : (((dropN st xn).l.length : Nat) : Int) = (st.l.length : Int) - 1 := (by have := HLd.out; omega)
            rw [hLn] at KL
            have HLn := hide hLn
            clear hLn
            clear hm7 ht7 HR5
            refine KL.out.mono ?_
            rintro e9 w9 ⟨rfl, hb9⟩
            have HO9 := hide (HRT.out.on.old HC.out hb9)
            clear hb9 KL HRT
            go_wp2_with fail
            exact ⟨⟨k + 1, dropN st xn, F5, _, hlt, by go_num, by rw [HLn.out], HO9.out, HST.out⟩, by simp [intOf]; omega⟩
        · as_aux_lemma =>
          have HO := hide ((HR.out.on.ok.parted xa xb).more (Nat.le_succ k))
          have KT := hide (HC.out.part p st F1 k xa xb W1 HR.out.on.net HR.out.on.ok (fine150 hk150) HXo.out.a HXo.out.b)
          have HSm := hide (part_same st xa xb)
          refine KT.out.mono ?_
          rintro e' w5 ⟨rfl, F5, h5, l5⟩
          have HR5 := hide (HR.out.call h5 l5 HO.out (Nat.le_succ k))
          clear h5 l5 KT HR c0 c1 c2 c3 c4 HO
          have HRT := hide (HR5.out)
          have HST : Hid (Sent ((st.part xa xb).2) (f)) := HSe.out.same HSm.out.1
          have KL := hide (HC.out.len p ((st.part xa xb).2) F5 (k + 1) _ HRT.out.on.net HRT.out.on.ok (fine150 (by omega)))
          have hLn : ((((st.part xa xb).2).l.length : Nat) : Int) = (st.l.length : Int) := (by rw [HSm.out.1])
          rw [hLn] at KL
          have HLn := hide hLn
          clear hLn
          clear HR5
          go_wp2_with fail
          refine KL.out.mono ?_
          rintro e9 w9 ⟨rfl, hb9⟩
          have HO9 := hide (HRT.out.on.old HC.out hb9)
          clear hb9 KL HRT
          go_wp2_with fail
          exact ⟨⟨k + 1, (st.part xa xb).2, F5, f, hlt, by go_num, by rw [HLn.out], HO9.out, HST.out⟩, by simp [intOf]; omega⟩
        · as_aux_lemma =>
          have HO := hide ((HR.out.on.ok.joined xa xb).more (Nat.le_succ k))
          have KT := hide (HC.out.join p st F1 k xa xb W1 HR.out.on.net HR.out.on.ok (fine150 hk150) HXo.out.a HXo.out.b)
          have HSm := hide (join_same st xa xb)
          refine KT.out.mono ?_
          rintro e' w5 ⟨rfl, F5, h5, l5⟩
          have HR5 := hide (HR.out.call h5 l5 HO.out (Nat.le_succ k))
          clear h5 l5 KT HR c0 c1 c2 c3 c4 HO
          have HRT := hide (HR5.out)
          have HST : Hid (Sent ((st.join xa xb).2) (f)) := HSe.out.same HSm.out.1
          have KL := hide (HC.out.len p ((st.join xa xb).2) F5 (k + 1) _ HRT.out.on.net HRT.out.on.ok (fine150 (by omega)))
          have hLn : ((((st.join xa xb).2).l.length : Nat) : Int) = (st.l.length : Int) := (by rw [HSm.out.1])
          rw [hLn] at KL
          have HLn := hide hLn
          clear hLn
          clear HR5
          go_wp2_with fail
          refine KL.out.mono ?_
          rintro e9 w9 ⟨rfl, hb9⟩
          have HO9 := hide (HRT.out.on.old HC.out hb9)
          clear hb9 KL HRT
          go_wp2_with fail
          exact ⟨⟨k + 1, (st.join xa xb).2, F5, f, hlt, by go_num, by rw [HLn.out], HO9.out, HST.out⟩, by simp [intOf]; omega⟩
        · as_aux_lemma =>
          have HO := hide HR.out.on.ok.age
          have KT := hide (HC.out.age p st F1 k W1 HR.out.on.net HR.out.on.ok (fine150 hk150))
          refine KT.out.mono ?_
          rintro e' w5 ⟨rfl, F5, h5, l5⟩
          have HR5 := hide (HR.out.call h5 l5 HO.out (Nat.le_succ k))
          clear h5 l5 KT HR c0 c1 c2 c3 c4 HO
          have HRT := hide (HR5.out)
          have HST : Hid (Sent (ageN st) (f)) := HSe.out.age
          have KL := hide (HC.out.len p (ageN st) F5 (k + 1) _ HRT.out.on.net HRT.out.on.ok (fine150 (by omega)))
          have hLn : (((ageN st).l.length : Nat) : Int) = (st.l.length : Int) := (by rw [len_age])
          rw [hLn] at KL
          have HLn := hide hLn
          clear hLn
          clear HR5
          go_wp2_with fail
          refine KL.out.mono ?_
          rintro e9 w9 ⟨rfl, hb9⟩
          have HO9 := hide (HRT.out.on.old HC.out hb9)
          clear hb9 KL HRT
          go_wp2_with fail
          exact ⟨⟨k + 1, ageN st, F5, f, hlt, by go_num, by rw [HLn.out], HO9.out, HST.out⟩, by simp [intOf]; omega⟩
        · as_aux_lemma =>
          have KR := hide (HC.out.ready p st F1 k W1 HR.out.on.net HR.out.on.ok (fine150 hk150))
          have hrl := hide (Nat.le_trans (Nat.le_of_eq (ready_len st)) (Nat.le_trans (readyL_few st) hfew))
          have HId : Hid (∀ i (h : i < st.ready.length), st.ready[i] < 18446744073709551616) := fun i h => by
            have hm : st.ready[i] ∈ st.ready := List.getElem_mem h
            obtain ⟨y, hy, e⟩ := List.mem_map.1 hm
            have := (HR.out.on.ok.ids y (mem_readyL.1 hy).1).2
            have := HR.out.on.ok.last
            omega
          refine KR.out.mono ?_
          rintro e' w5 ⟨ra, rc, rfl, hI, hb5⟩
          have HR5 := hide (HR.out.old HC.out hb5)
          have HI := hide hI
          clear hb5 KR HR c0 c1 c2 c3 c4 hI
          obtain ⟨c0, c1, c2, c3, c4⟩ := HR5.out.box.five
          have hrl2 := hrl.out
          generalize st.ready = R at *
          by_cases h7 : xd = 7
          · subst h7
            by_cases hr0 : 0 < R.length
            · have hMb := HId.out (xn % R.length) (Nat.mod_lt _ hr0)
              obtain ⟨rb, ro, rfl, hcell⟩ := HI.out.there hr0
              have hce := hcell (xn % R.length) (Nat.mod_lt _ hr0)
              generalize R[xn % R.length]'(Nat.mod_lt _ hr0) = M at *
              have hmod : ((xn : Int) % (R.length : Int)) = ((xn % R.length : Nat) : Int) := by omega
              have hmlt : xn % R.length < R.length := Nat.mod_lt _ hr0
              have hrz : (0 : Int) < (R.length : Int) := by omega
              have hrn : ¬ R.length = 0 := by omega
              have hrnz : ¬ (R.length : Int) = 0 := by omega
              have hcv : (R.length : Int) % 18446744073709551616 = (R.length : Int) := by omega
              clear hcell
              generalize hmm : xn % R.length = mm at *
              clear hmm
              have KT := hide (HC.out.take p st F1 k M w5 HR5.out.on.net HR5.out.on.ok (fine150 hk150) hMb)
              have hO := (HR5.out.on.ok.take M).more (Nat.le_succ k)
              have hKM := hide (key_u64 hMb)
              rcases take_ways st M with ⟨e, he, hd⟩ | ⟨y, hy, hp, hd⟩
              · rw [hd, noLt_is] at KT
                rw [hd] at hO
                have hE : ((e : Int) == 0) = false := by simp; omega
                have HO := hide hO
                clear hd hO he hMb
                go_wp2_with fail
                refine KT.out.mono ?_
                rintro e' w6 ⟨rfl, F6, h6, l6⟩
                have HO9 := hide ((HR5.out.call h6 l6 HO.out (Nat.le_succ k)).on.old HC.out (one_below w6 (.cells #[.int .u64 0, .int .i64 0, .int .i64 0, .string ⟨#[]⟩, .int .i64 0] 41)))
                clear h6 l6 KT HR5 HO c0 c1 c2 c3 c4 hce
                go_wp2_with fail
                exact ⟨⟨k + 1, st, F6, f, hlt, by go_num, rfl, HO9.out, HSe.out⟩, by simp [intOf]; omega⟩
              · rw [hd, valIs, (Nt.find_some hy).2] at KT
                rw [hd] at hO
                have HO := hide hO
                have HLd := hide (len_drop HR5.out.on.ok hy)
                have hen := HR5.out.on.ok.ends y (Nt.find_some hy).1
                have HIa : Hid (I64 y.a ∧ I64 y.b) := ⟨⟨by omega, by omega⟩, ⟨by omega, by omega⟩⟩
                have HY : Hid ((f (.int .u64 (M : Int))).getD noLt.val = .agg #[.int .u64 0, .int .i64 y.a, .int .i64 y.b, .string y.s, .int .i64 0] ∧ (f (.int .u64 (M : Int))).isSome = true) := by
                  have := HSe.out.at_ M
                  rw [hy] at this
                  exact ⟨(congrArg (fun o => Option.getD o noLt.val) this).trans rfl, (congrArg Option.isSome this).trans rfl⟩
                have KP : Hid (∀ z F, Rd NAt w.heap.size w z p q (k + 1) (dropN st M) F f X #[.int .i64 7, .int .i64 xa, .int .i64 xb, .int .u64 (xn : Int), .string xs] → Calls Try.prog 31 #[.pointer (some ⟨p, 0, none⟩), .int .i64 y.a, .int .i64 y.b] z fun e v => e = .returned (.bool false) ∧ Below z.heap.size z v) := fun z F hz => by
                  have := HC.out.parted p (dropN st M) F (k + 1) y.a y.b z hz.on.net hz.on.ok (fine150 (by omega)) HIa.out.1 HIa.out.2
                  rw [show (dropN st M).p y.a y.b = false from hp] at this
                  exact this
                have hl0 : (st.l.length : Int) ≤ 4096 := by omega
                have hl1 : 1 ≤ (st.l.length : Int) := by have := HLd.out; omega
                clear hd hO hy hp hen hMb
                go_wp2_with fail
                refine KT.out.mono ?_
                rintro e' w6 ⟨rfl, F6, h6, l6⟩
                have HR6 := hide (HR5.out.call h6 l6 HO.out (Nat.le_succ k))
                have hm6 := HR5.out.on.map.same (l6.block q HR5.out.on.map.lt (fun hF => HR5.out.on.apart q hF rfl))
                have HM : Hid (∀ z, Below w6.heap.size w6 z → MAt z 29 q k f) := fun z hz => hm6.below hz
                clear h6 l6 KT HR5 HO hm6 c0 c1 c2 c3 c4 hce
                go_wp2_with (first | (at_lookup; refine wpList_look_ok _ rfl _ _ 52 rfl 29 41 keyedU Try.underlying52 zeroLt q _ f rfl (HM.out _ (by first | exact Below.refl _ _ | exact one_below _ _)) (.int .u64 (M : Int)) (.int .u64 (M : Int)) rfl hKM.out _ _ HY.out.1 HY.out.2 ?_))
                have HR8 := hide (HR6.out.old HC.out ((one_below w6 (.cells #[.int .u64 (M : Int), .int .i64 y.a, .int .i64 y.b, .string y.s, .int .i64 (y.g : Int)] 41)).alloc (by simp) (.cells #[.int .u64 0, .int .i64 y.a, .int .i64 y.b, .string y.s, .int .i64 0] 41)))
                have HM8 := hide (HM.out _ ((one_below w6 (.cells #[.int .u64 (M : Int), .int .i64 y.a, .int .i64 y.b, .string y.s, .int .i64 (y.g : Int)] 41)).alloc (by simp) (.cells #[.int .u64 0, .int .i64 y.a, .int .i64 y.b, .string y.s, .int .i64 0] 41)))
                clear HR6 HM
                refine (KP.out _ _ HR8.out).mono ?_
                rintro e' w9 ⟨rfl, hb9⟩
                have HR9 := hide (HR8.out.old HC.out hb9)
                have HM : Hid (∀ z, Below w9.heap.size w9 z → MAt z 29 q k f) := fun z hz => (HM8.out.below hb9).below hz
                clear hb9 HR8 HM8 KP
                go_wp2_with (first | (at_delete; refine wpList_del _ rfl _ _ 52 29 rfl 41 keyedU Try.underlying52 q _ f rfl (HM.out _ (by first | exact Below.refl _ _ | exact one_below _ _)) (.int .u64 (M : Int)) (.int .u64 (M : Int)) rfl hKM.out True.intro ?_; intro w10 hm10 ht10))
                have HRT := hide (HR9.out.turned HC.out (hm10.mono (Nat.le_succ k)) ht10 (Nat.le_refl _))
                have HST : Hid (Sent (dropN st M) (delF f (.int .u64 (M : Int)))) := HSe.out.drop M
                have KL := hide (HC.out.len p (dropN st M) F6 (k + 1) _ HRT.out.on.net HRT.out.on.ok (fine150 (by omega)))
                have hLn : (((dropN st M).l.length : Nat) : Int) = (st.l.length : Int) - 1 := (by have := HLd.out; omega)
                rw [hLn] at KL
                have HLn := hide hLn
                clear hLn
                clear hm10 ht10 HR9
                refine KL.out.mono ?_
                rintro e9 w9 ⟨rfl, hb9⟩
                have HO9 := hide (HRT.out.on.old HC.out hb9)
                clear hb9 KL HRT
                go_wp2_with fail
                exact ⟨⟨k + 1, dropN st M, F6, _, hlt, by go_num, by rw [HLn.out], HO9.out, HST.out⟩, by simp [intOf]; omega⟩
            · have hMb := HXo.out.n
              have hrz : ¬ (0 : Int) < (R.length : Int) := by omega
              have KT := hide (HC.out.take p st F1 k xn w5 HR5.out.on.net HR5.out.on.ok (fine150 hk150) hMb)
              have hO := (HR5.out.on.ok.take xn).more (Nat.le_succ k)
              have hKM := hide (key_u64 hMb)
              rcases take_ways st xn with ⟨e, he, hd⟩ | ⟨y, hy, hp, hd⟩
              · rw [hd, noLt_is] at KT
                rw [hd] at hO
                have hE : ((e : Int) == 0) = false := by simp; omega
                have HO := hide hO
                clear hd hO he hMb
                go_wp2_with fail
                refine KT.out.mono ?_
                rintro e' w6 ⟨rfl, F6, h6, l6⟩
                have HO9 := hide ((HR5.out.call h6 l6 HO.out (Nat.le_succ k)).on.old HC.out (one_below w6 (.cells #[.int .u64 0, .int .i64 0, .int .i64 0, .string ⟨#[]⟩, .int .i64 0] 41)))
                clear h6 l6 KT HR5 HO c0 c1 c2 c3 c4 
                go_wp2_with fail
                exact ⟨⟨k + 1, st, F6, f, hlt, by go_num, rfl, HO9.out, HSe.out⟩, by simp [intOf]; omega⟩
              · rw [hd, valIs, (Nt.find_some hy).2] at KT
                rw [hd] at hO
                have HO := hide hO
                have HLd := hide (len_drop HR5.out.on.ok hy)
                have hen := HR5.out.on.ok.ends y (Nt.find_some hy).1
                have HIa : Hid (I64 y.a ∧ I64 y.b) := ⟨⟨by omega, by omega⟩, ⟨by omega, by omega⟩⟩
                have HY : Hid ((f (.int .u64 (xn : Int))).getD noLt.val = .agg #[.int .u64 0, .int .i64 y.a, .int .i64 y.b, .string y.s, .int .i64 0] ∧ (f (.int .u64 (xn : Int))).isSome = true) := by
                  have := HSe.out.at_ xn
                  rw [hy] at this
                  exact ⟨(congrArg (fun o => Option.getD o noLt.val) this).trans rfl, (congrArg Option.isSome this).trans rfl⟩
                have KP : Hid (∀ z F, Rd NAt w.heap.size w z p q (k + 1) (dropN st xn) F f X #[.int .i64 7, .int .i64 xa, .int .i64 xb, .int .u64 (xn : Int), .string xs] → Calls Try.prog 31 #[.pointer (some ⟨p, 0, none⟩), .int .i64 y.a, .int .i64 y.b] z fun e v => e = .returned (.bool false) ∧ Below z.heap.size z v) := fun z F hz => by
                  have := HC.out.parted p (dropN st xn) F (k + 1) y.a y.b z hz.on.net hz.on.ok (fine150 (by omega)) HIa.out.1 HIa.out.2
                  rw [show (dropN st xn).p y.a y.b = false from hp] at this
                  exact this
                have hl0 : (st.l.length : Int) ≤ 4096 := by omega
                have hl1 : 1 ≤ (st.l.length : Int) := by have := HLd.out; omega
                clear hd hO hy hp hen hMb
                go_wp2_with fail
                refine KT.out.mono ?_
                rintro e' w6 ⟨rfl, F6, h6, l6⟩
                have HR6 := hide (HR5.out.call h6 l6 HO.out (Nat.le_succ k))
                have hm6 := HR5.out.on.map.same (l6.block q HR5.out.on.map.lt (fun hF => HR5.out.on.apart q hF rfl))
                have HM : Hid (∀ z, Below w6.heap.size w6 z → MAt z 29 q k f) := fun z hz => hm6.below hz
                clear h6 l6 KT HR5 HO hm6 c0 c1 c2 c3 c4 
                go_wp2_with (first | (at_lookup; refine wpList_look_ok _ rfl _ _ 52 rfl 29 41 keyedU Try.underlying52 zeroLt q _ f rfl (HM.out _ (by first | exact Below.refl _ _ | exact one_below _ _)) (.int .u64 (xn : Int)) (.int .u64 (xn : Int)) rfl hKM.out _ _ HY.out.1 HY.out.2 ?_))
                have HR8 := hide (HR6.out.old HC.out ((one_below w6 (.cells #[.int .u64 (xn : Int), .int .i64 y.a, .int .i64 y.b, .string y.s, .int .i64 (y.g : Int)] 41)).alloc (by simp) (.cells #[.int .u64 0, .int .i64 y.a, .int .i64 y.b, .string y.s, .int .i64 0] 41)))
                have HM8 := hide (HM.out _ ((one_below w6 (.cells #[.int .u64 (xn : Int), .int .i64 y.a, .int .i64 y.b, .string y.s, .int .i64 (y.g : Int)] 41)).alloc (by simp) (.cells #[.int .u64 0, .int .i64 y.a, .int .i64 y.b, .string y.s, .int .i64 0] 41)))
                clear HR6 HM
                refine (KP.out _ _ HR8.out).mono ?_
                rintro e' w9 ⟨rfl, hb9⟩
                have HR9 := hide (HR8.out.old HC.out hb9)
                have HM : Hid (∀ z, Below w9.heap.size w9 z → MAt z 29 q k f) := fun z hz => (HM8.out.below hb9).below hz
                clear hb9 HR8 HM8 KP
                go_wp2_with (first | (at_delete; refine wpList_del _ rfl _ _ 52 29 rfl 41 keyedU Try.underlying52 q _ f rfl (HM.out _ (by first | exact Below.refl _ _ | exact one_below _ _)) (.int .u64 (xn : Int)) (.int .u64 (xn : Int)) rfl hKM.out True.intro ?_; intro w10 hm10 ht10))
                have HRT := hide (HR9.out.turned HC.out (hm10.mono (Nat.le_succ k)) ht10 (Nat.le_refl _))
                have HST : Hid (Sent (dropN st xn) (delF f (.int .u64 (xn : Int)))) := HSe.out.drop xn
                have KL := hide (HC.out.len p (dropN st xn) F6 (k + 1) _ HRT.out.on.net HRT.out.on.ok (fine150 (by omega)))
                have hLn : (((dropN st xn).l.length : Nat) : Int) = (st.l.length : Int) - 1 := (by have := HLd.out; omega)
                rw [hLn] at KL
                have HLn := hide hLn
                clear hLn
                clear hm10 ht10 HR9
                refine KL.out.mono ?_
                rintro e9 w9 ⟨rfl, hb9⟩
                have HO9 := hide (HRT.out.on.old HC.out hb9)
                clear hb9 KL HRT
                go_wp2_with fail
                exact ⟨⟨k + 1, dropN st xn, F6, _, hlt, by go_num, by rw [HLn.out], HO9.out, HST.out⟩, by simp [intOf]; omega⟩
          · have hMb := HXo.out.n
            have h7b : (xd == 7) = false := by simpa using h7
            clear h7
            have KT := hide (HC.out.take p st F1 k xn w5 HR5.out.on.net HR5.out.on.ok (fine150 hk150) hMb)
            have hO := (HR5.out.on.ok.take xn).more (Nat.le_succ k)
            have hKM := hide (key_u64 hMb)
            rcases take_ways st xn with ⟨e, he, hd⟩ | ⟨y, hy, hp, hd⟩
            · rw [hd, noLt_is] at KT
              rw [hd] at hO
              have hE : ((e : Int) == 0) = false := by simp; omega
              have HO := hide hO
              clear hd hO he hMb
              go_wp2_with fail
              refine KT.out.mono ?_
              rintro e' w6 ⟨rfl, F6, h6, l6⟩
              have HO9 := hide ((HR5.out.call h6 l6 HO.out (Nat.le_succ k)).on.old HC.out (one_below w6 (.cells #[.int .u64 0, .int .i64 0, .int .i64 0, .string ⟨#[]⟩, .int .i64 0] 41)))
              clear h6 l6 KT HR5 HO c0 c1 c2 c3 c4 
              go_wp2_with fail
              exact ⟨⟨k + 1, st, F6, f, hlt, by go_num, rfl, HO9.out, HSe.out⟩, by simp [intOf]; omega⟩
            · rw [hd, valIs, (Nt.find_some hy).2] at KT
              rw [hd] at hO
              have HO := hide hO
              have HLd := hide (len_drop HR5.out.on.ok hy)
              have hen := HR5.out.on.ok.ends y (Nt.find_some hy).1
              have HIa : Hid (I64 y.a ∧ I64 y.b) := ⟨⟨by omega, by omega⟩, ⟨by omega, by omega⟩⟩
              have HY : Hid ((f (.int .u64 (xn : Int))).getD noLt.val = .agg #[.int .u64 0, .int .i64 y.a, .int .i64 y.b, .string y.s, .int .i64 0] ∧ (f (.int .u64 (xn : Int))).isSome = true) := by
                have := HSe.out.at_ xn
                rw [hy] at this
                exact ⟨(congrArg (fun o => Option.getD o noLt.val) this).trans rfl, (congrArg Option.isSome this).trans rfl⟩
              have KP : Hid (∀ z F, Rd NAt w.heap.size w z p q (k + 1) (dropN st xn) F f X #[.int .i64 xd, .int .i64 xa, .int .i64 xb, .int .u64 (xn : Int), .string xs] → Calls Try.prog 31 #[.pointer (some ⟨p, 0, none⟩), .int .i64 y.a, .int .i64 y.b] z fun e v => e = .returned (.bool false) ∧ Below z.heap.size z v) := fun z F hz => by
                have := HC.out.parted p (dropN st xn) F (k + 1) y.a y.b z hz.on.net hz.on.ok (fine150 (by omega)) HIa.out.1 HIa.out.2
                rw [show (dropN st xn).p y.a y.b = false from hp] at this
                exact this
              have hl0 : (st.l.length : Int) ≤ 4096 := by omega
              have hl1 : 1 ≤ (st.l.length : Int) := by have := HLd.out; omega
              clear hd hO hy hp hen hMb
              go_wp2_with fail
              refine KT.out.mono ?_
              rintro e' w6 ⟨rfl, F6, h6, l6⟩
              have HR6 := hide (HR5.out.call h6 l6 HO.out (Nat.le_succ k))
              have hm6 := HR5.out.on.map.same (l6.block q HR5.out.on.map.lt (fun hF => HR5.out.on.apart q hF rfl))
              have HM : Hid (∀ z, Below w6.heap.size w6 z → MAt z 29 q k f) := fun z hz => hm6.below hz
              clear h6 l6 KT HR5 HO hm6 c0 c1 c2 c3 c4 
              go_wp2_with (first | (at_lookup; refine wpList_look_ok _ rfl _ _ 52 rfl 29 41 keyedU Try.underlying52 zeroLt q _ f rfl (HM.out _ (by first | exact Below.refl _ _ | exact one_below _ _)) (.int .u64 (xn : Int)) (.int .u64 (xn : Int)) rfl hKM.out _ _ HY.out.1 HY.out.2 ?_))
              have HR8 := hide (HR6.out.old HC.out ((one_below w6 (.cells #[.int .u64 (xn : Int), .int .i64 y.a, .int .i64 y.b, .string y.s, .int .i64 (y.g : Int)] 41)).alloc (by simp) (.cells #[.int .u64 0, .int .i64 y.a, .int .i64 y.b, .string y.s, .int .i64 0] 41)))
              have HM8 := hide (HM.out _ ((one_below w6 (.cells #[.int .u64 (xn : Int), .int .i64 y.a, .int .i64 y.b, .string y.s, .int .i64 (y.g : Int)] 41)).alloc (by simp) (.cells #[.int .u64 0, .int .i64 y.a, .int .i64 y.b, .string y.s, .int .i64 0] 41)))
              clear HR6 HM
              refine (KP.out _ _ HR8.out).mono ?_
              rintro e' w9 ⟨rfl, hb9⟩
              have HR9 := hide (HR8.out.old HC.out hb9)
              have HM : Hid (∀ z, Below w9.heap.size w9 z → MAt z 29 q k f) := fun z hz => (HM8.out.below hb9).below hz
              clear hb9 HR8 HM8 KP
              go_wp2_with (first | (at_delete; refine wpList_del _ rfl _ _ 52 29 rfl 41 keyedU Try.underlying52 q _ f rfl (HM.out _ (by first | exact Below.refl _ _ | exact one_below _ _)) (.int .u64 (xn : Int)) (.int .u64 (xn : Int)) rfl hKM.out True.intro ?_; intro w10 hm10 ht10))
              have HRT := hide (HR9.out.turned HC.out (hm10.mono (Nat.le_succ k)) ht10 (Nat.le_refl _))
              have HST : Hid (Sent (dropN st xn) (delF f (.int .u64 (xn : Int)))) := HSe.out.drop xn
              have KL := hide (HC.out.len p (dropN st xn) F6 (k + 1) _ HRT.out.on.net HRT.out.on.ok (fine150 (by omega)))
              have hLn : (((dropN st xn).l.length : Nat) : Int) = (st.l.length : Int) - 1 := (by have := HLd.out; omega)
              rw [hLn] at KL
              have HLn := hide hLn
              clear hLn
              clear hm10 ht10 HR9
              refine KL.out.mono ?_
              rintro e9 w9 ⟨rfl, hb9⟩
              have HO9 := hide (HRT.out.on.old HC.out hb9)
              clear hb9 KL HRT
              go_wp2_with fail
              exact ⟨⟨k + 1, dropN st xn, F6, _, hlt, by go_num, by rw [HLn.out], HO9.out, HST.out⟩, by simp [intOf]; omega⟩
      · go_wp2_with fail
        refine (alive_any HC.out _).mono ?_
        rintro e w5 ⟨rfl, hb⟩
        have HB := hide (HO.out.below.trans (hb.mono HO.out.size))
        clear hb
        go_wp2
        go_ret
        exact ⟨rfl, HB.out⟩
end Go.Proofs.Ytdfioggeiagihaa
