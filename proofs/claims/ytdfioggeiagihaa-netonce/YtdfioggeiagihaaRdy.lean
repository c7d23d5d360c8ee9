/- The law NetReady, over the contracts. -/
import Derived.Test.YtdfioggeiagihaaRdy0
import Derived.Deep.CutBlock
namespace Go.Proofs.Ytdfioggeiagihaa
open Go Go.RowKit

set_option maxRecDepth 10000 in
set_option maxHeartbeats 8000000 in
theorem NetReady_any {NAt : World → Nat → Nt → (Nat → Prop) → Prop} (C : Con NAt) (a : Option Addr) (c : Nat) (l : List Stp) (w : World) (h : StepsAt w a l) (hok : ∀ x ∈ l, x.Ok) (hl : l.length ≤ 140737488351232) :
    Calls Try.prog 7 #[.slice a l.length c] w fun e w' => e = .returned (.bool true) ∧ Below w.heap.size w w' := by
  have HC := hide C
  have HS := hide h
  have HOk := hide hok
  have KH := hide (heavy_any a c l w h hok hl)
  clear C h hok
  go_enter Try.func7, Try.ntmps7
  go_wp2_with fail
  refine KH.out.mono ?_
  rintro e w1 ⟨r, rfl, hw, hr⟩
  obtain rfl := hw.symm
  clear hw KH
  cases r with
  | true =>
    clear hr
    go_wp2_with fail
    refine (alive_any HC.out w).mono ?_
    rintro e w2 ⟨rfl, hb2⟩
    have HB2 := hide hb2
    clear hb2
    go_wp2
    go_ret
    exact ⟨rfl, HB2.out⟩
  | false =>
    have hl150 := hr rfl
    clear hr
    go_wp2_with fail
    refine (HC.out.new w).mono ?_
    rintro e w2 ⟨p, F, rfl, h1, hF, hb1⟩
    have hmm := @run_makeMap Try.prog
    have HOn : Hid (On NAt w.heap.size w (w2.alloc (.map #[] 0)) p w2.heap.size 0 Nt.new F (fun _ => none)) :=
      ⟨HC.out.below h1 (one_below _ _), Nt.Ok.new, hF, hb1.trans ((one_below w2 _).mono hb1.size), Nat.le_refl _, MAt.made _ _, fun i hi e => (by have := HC.out.lt h1 i hi; omega), hb1.size⟩
    clear h1 hF hb1
    go_wp2_with fail
    generalize w2.alloc (.map #[] 0) = w3 at *
    generalize w2.heap.size = q at *
    clear hmm
    go_loopw [5, 6, 7, 8, 9, 10, 11, 12, 13, 14, 15, 16] (fun nv i _ _ _ _ _ _ _ _ _ _ u => ∃ (k m : Nat) (st : Nt) (F : Nat → Prop) (f : Lit → Option Value), k ≤ l.length ∧ i = .int .i64 (k : Int) ∧ nv = .int .i64 (m : Int) ∧ m ≤ k ∧ On NAt w.heap.size w u p q k st F f ∧ Born st f m) (fun _ i _ _ _ _ _ _ _ _ _ _ _ => l.length - (intOf i).toNat)
    case atStart => exact ⟨0, 0, Nt.new, F, _, Nat.zero_le _, rfl, rfl, Nat.le_refl _, HOn.out, Born.new⟩
    case round =>
      obtain ⟨k, m, st, F1, f, hk, rfl, rfl, hmk, hon, hbn⟩ := hrel
      have HO := hide hon
      have HBn := hide hbn
      clear hon hbn HOn
      by_cases hlt : k < l.length
      · obtain ⟨b, off, rfl, hc⟩ := HS.out.there k hlt
        have hxo := HOk.out _ (List.getElem_mem hlt)
        have HXo := hide hxo
        have hbw := World.block_lt_of_cell? w _ hc.1
        obtain ⟨e0, e1, e2, e3, e4⟩ := hc.old (HO.out.below)
        clear hc hxo
        generalize l[k] = x at *
        obtain ⟨xd, xa, xb, xn, xs⟩ := x
        dsimp only at e0 e1 e2 e3 e4
        have hk150 : k ≤ 150 := by omega
        have hm150 : (m : Int) ≤ 150 := by omega
        have HR := hide (Rd.start HC.out HO.out #[.int .i64 xd, .int .i64 xa, .int .i64 xb, .int .u64 (xn : Int), .string xs])
        have hfew := HO.out.ok.few
        clear hbw HO
        go_upto_block 2 with fail
        clear e0 e1 e2 e3 e4
        generalize wr.alloc (.cells #[.int .i64 xd, .int .i64 xa, .int .i64 xb, .int .u64 (xn : Int), .string xs] 34) = W1 at *
        generalize wr.heap.size = X at *
        obtain ⟨c0, c1, c2, c3, c4⟩ := HR.out.box.five
        go_cut [5, 8, 9, 10, 11] from 36 to 105 (fun nv _ _ _ _ u => ∃ (st' : Nt) (F' : Nat → Prop) (f' : Lit → Option Value) (m' : Nat), nv = .int .i64 (m' : Int) ∧ m' ≤ k + 1 ∧ Rd NAt w.heap.size w u p q (k + 1) st' F' f' X #[.int .i64 xd, .int .i64 xa, .int .i64 xb, .int .u64 (xn : Int), .string xs] ∧ Born st' f' m')
        case first =>
          go_wp2_with fail
          · as_aux_lemma =>
            have hO := HR.out.on.ok.send xa xb xs
            have KT := hide (HC.out.send p st F1 k xa xb xs W1 HR.out.on.net HR.out.on.ok (fine150 hk150) HXo.out.a HXo.out.b HXo.out.s)
            rcases send_ways st xa xb xs with ⟨e, he, hd⟩ | hd
            · rw [hd] at KT hO
              have hE : ((e : Int) == 0) = false := by simp; omega
              have HO := hide hO
              clear hd hO he
              go_wp2_with fail
              refine KT.out.mono ?_
              rintro e' w5 ⟨rfl, F5, h5, l5⟩
              have HR5 := hide (HR.out.call h5 l5 HO.out (Nat.le_succ k))
              have hm5 := HR.out.on.map.same (l5.block q HR.out.on.map.lt (fun hF => HR.out.on.apart q hF rfl))
              have HM : Hid (∀ z, Below w5.heap.size w5 z → MAt z 29 q k f) := fun z hz => hm5.below hz
              clear h5 l5 KT HR c0 c1 c2 c3 c4 HO hm5
              obtain ⟨c0, c1, c2, c3, c4⟩ := HR5.out.box.five
              clear c0 c1 c2 c3 c4 HM
              go_wp2_with fail
              go_meet
              case rel => exact ⟨st, F5, f, m, rfl, by omega, HR5.out, HBn.out⟩
            · rw [hd] at KT hO
              obtain ⟨N, hN⟩ : ∃ N, N = st.n + 1 := ⟨_, rfl⟩
              have hNb : N < 18446744073709551616 := by have := HR.out.on.ok.last; omega
              have HN := hide hN
              rw [← hN] at KT
              have HO := hide hO
              have HPu : Hid (Born (sendN st xa xb xs) (putF f (.int .u64 (N : Int)) (.int .i64 (m : Int))) m) := by
                have := HBn.out.push HR.out.on.ok ⟨st.n + 1, xa, xb, xs, 0⟩ rfl (Nat.zero_le _) (sendN st xa xb xs) rfl
                rw [HN.out]
                rw [show ((m : Int) - ((⟨st.n + 1, xa, xb, xs, 0⟩ : Lt).g : Int)) = (m : Int) from by show (m : Int) - ((0 : Nat) : Int) = _; omega] at this
                exact this
              have hKN := hide (key_u64 hNb)
              clear hd hO hN hNb
              go_wp2_with fail
              refine KT.out.mono ?_
              rintro e' w5 ⟨rfl, F5, h5, l5⟩
              have HR5 := hide (HR.out.call h5 l5 HO.out (Nat.le_succ k))
              have hm5 := HR.out.on.map.same (l5.block q HR.out.on.map.lt (fun hF => HR.out.on.apart q hF rfl))
              have HM : Hid (∀ z, Below w5.heap.size w5 z → MAt z 29 q k f) := fun z hz => hm5.below hz
              clear h5 l5 KT HR c0 c1 c2 c3 c4 HO hm5
              obtain ⟨c0, c1, c2, c3, c4⟩ := HR5.out.box.five
              go_wp2_with (first | (at_mapUpdate; refine wpList_put _ rfl _ _ _ 56 rfl 29 2 keyedU Try.underlying56 q _ f rfl (HM.out _ (Below.refl _ _)) (by unfold maxLen; omega) (.int .u64 (N : Int)) (.int .i64 (m : Int)) (.int .u64 (N : Int)) rfl rfl hKN.out True.intro ?_; intro w7 hm7 ht7))
              have HR7 := hide (HR5.out.turned HC.out hm7 ht7 (Nat.le_refl _))
              clear c0 c1 c2 c3 c4 hm7 ht7 HR5 HM
              go_wp2_with fail
              go_meet
              case rel => exact ⟨sendN st xa xb xs, F5, _, m, rfl, by omega, HR7.out, HPu.out⟩
          · as_aux_lemma =>
            have hO := HR.out.on.ok.double xn
            have KT := hide (HC.out.double p st F1 k xn W1 HR.out.on.net HR.out.on.ok (fine150 hk150) HXo.out.n)
            have hKX := hide (key_u64 HXo.out.n)
            rcases double_ways st xn with ⟨e, he, hd⟩ | ⟨y, hy, hd⟩
            · rw [hd] at KT hO
              have hE : ((e : Int) == 0) = false := by simp; omega
              have HO := hide hO
              clear hd hO he
              go_wp2_with fail
              refine KT.out.mono ?_
              rintro e' w5 ⟨rfl, F5, h5, l5⟩
              have HR5 := hide (HR.out.call h5 l5 HO.out (Nat.le_succ k))
              have hm5 := HR.out.on.map.same (l5.block q HR.out.on.map.lt (fun hF => HR.out.on.apart q hF rfl))
              have HM : Hid (∀ z, Below w5.heap.size w5 z → MAt z 29 q k f) := fun z hz => hm5.below hz
              clear h5 l5 KT HR c0 c1 c2 c3 c4 HO hm5
              obtain ⟨c0, c1, c2, c3, c4⟩ := HR5.out.box.five
              clear c0 c1 c2 c3 c4 HM
              go_wp2_with fail
              go_meet
              case rel => exact ⟨st, F5, f, m, rfl, by omega, HR5.out, HBn.out⟩
            · rw [hd] at KT hO
              obtain ⟨N, hN⟩ : ∃ N, N = st.n + 1 := ⟨_, rfl⟩
              have hNb : N < 18446744073709551616 := by have := HR.out.on.ok.last; omega
              have HN := hide hN
              rw [← hN] at KT
              have HO := hide hO
              have hyb := HBn.out y (Nt.find_some hy).1
              have HY : Hid ((f (.int .u64 (xn : Int))).getD (.int .i64 0) = .int .i64 ((m : Int) - (y.g : Int))) := by
                have e1 := hyb.2
                rw [(Nt.find_some hy).2] at e1
                exact congrArg (fun o => Option.getD o (Value.int .i64 0)) e1
              have HPu : Hid (Born (doubleN st y) (putF f (.int .u64 (N : Int)) (.int .i64 ((m : Int) - (y.g : Int)))) m) := by
                have := HBn.out.push HR.out.on.ok (y.as (st.n + 1)) rfl hyb.1 (doubleN st y) rfl
                rw [HN.out]
                exact this
              generalize ((m : Int) - (y.g : Int)) = D at *
              have hKN := hide (key_u64 hNb)
              clear hd hO hN hNb hy hyb
              go_wp2_with fail
              refine KT.out.mono ?_
              rintro e' w5 ⟨rfl, F5, h5, l5⟩
              have HR5 := hide (HR.out.call h5 l5 HO.out (Nat.le_succ k))
              have hm5 := HR.out.on.map.same (l5.block q HR.out.on.map.lt (fun hF => HR.out.on.apart q hF rfl))
              have HM : Hid (∀ z, Below w5.heap.size w5 z → MAt z 29 q k f) := fun z hz => hm5.below hz
              clear h5 l5 KT HR c0 c1 c2 c3 c4 HO hm5
              obtain ⟨c0, c1, c2, c3, c4⟩ := HR5.out.box.five
              go_wp2_with (first | (at_lookup; refine wpList_look _ rfl _ _ 56 rfl 29 2 keyedU Try.underlying56 zeroI q _ f rfl (HM.out _ (Below.refl _ _)) (.int .u64 (xn : Int)) (.int .u64 (xn : Int)) rfl hKX.out _ HY.out ?_) | (at_mapUpdate; refine wpList_put _ rfl _ _ _ 56 rfl 29 2 keyedU Try.underlying56 q _ f rfl (HM.out _ (Below.refl _ _)) (by unfold maxLen; omega) (.int .u64 (N : Int)) (.int .i64 D) (.int .u64 (N : Int)) rfl rfl hKN.out True.intro ?_; intro w7 hm7 ht7))
              have HR7 := hide (HR5.out.turned HC.out hm7 ht7 (Nat.le_refl _))
              clear c0 c1 c2 c3 c4 hm7 ht7 HR5 HM
              go_wp2_with fail
              go_meet
              case rel => exact ⟨doubleN st y, F5, _, m, rfl, by omega, HR7.out, HPu.out⟩
          · as_aux_lemma =>
            have KT := hide (HC.out.part p st F1 k xa xb W1 HR.out.on.net HR.out.on.ok (fine150 hk150) HXo.out.a HXo.out.b)
            have HO := hide ((HR.out.on.ok.parted xa xb).more (Nat.le_succ k))
            refine KT.out.mono ?_
            rintro e' w5 ⟨rfl, F5, h5, l5⟩
            have HR5 := hide (HR.out.call h5 l5 HO.out (Nat.le_succ k))
            clear h5 l5 KT HR HO c0 c1 c2 c3 c4
            go_wp2_with fail

            go_meet
            case rel => exact ⟨(st.part xa xb).2, F5, f, m, rfl, by omega, HR5.out, HBn.out.less (fun x hx => by rw [(part_same st xa xb).1] at hx; exact hx)⟩
          · as_aux_lemma =>
            have KT := hide (HC.out.join p st F1 k xa xb W1 HR.out.on.net HR.out.on.ok (fine150 hk150) HXo.out.a HXo.out.b)
            have HO := hide ((HR.out.on.ok.joined xa xb).more (Nat.le_succ k))
            refine KT.out.mono ?_
            rintro e' w5 ⟨rfl, F5, h5, l5⟩
            have HR5 := hide (HR.out.call h5 l5 HO.out (Nat.le_succ k))
            clear h5 l5 KT HR HO c0 c1 c2 c3 c4
            go_wp2_with fail

            go_meet
            case rel => exact ⟨(st.join xa xb).2, F5, f, m, rfl, by omega, HR5.out, HBn.out.less (fun x hx => by rw [(join_same st xa xb).1] at hx; exact hx)⟩
          · as_aux_lemma =>
            have KT := hide (HC.out.drop p st F1 k xn W1 HR.out.on.net HR.out.on.ok (fine150 hk150) HXo.out.n)
            have HO := hide ((HR.out.on.ok.dropped xn).more (Nat.le_succ k))
            refine KT.out.mono ?_
            rintro e' w5 ⟨rfl, F5, h5, l5⟩
            have HR5 := hide (HR.out.call h5 l5 HO.out (Nat.le_succ k))
            clear h5 l5 KT HR HO c0 c1 c2 c3 c4
            go_wp2_with fail

            go_meet
            case rel => exact ⟨(st.drop xn).2, F5, f, m, rfl, by omega, HR5.out, HBn.out.less (drop_sub st xn)⟩
          · as_aux_lemma =>
            have KT := hide (HC.out.age p st F1 k W1 HR.out.on.net HR.out.on.ok (fine150 hk150))
            have HO := hide (HR.out.on.ok.age)
            refine KT.out.mono ?_
            rintro e' w5 ⟨rfl, F5, h5, l5⟩
            have HR5 := hide (HR.out.call h5 l5 HO.out (Nat.le_succ k))
            clear h5 l5 KT HR HO c0 c1 c2 c3 c4
            go_wp2_with fail

            go_meet
            case rel => exact ⟨ageN st, F5, f, m + 1, by go_num, by omega, HR5.out, HBn.out.age⟩
          · as_aux_lemma =>
            have KT := hide (HC.out.take p st F1 k xn W1 HR.out.on.net HR.out.on.ok (fine150 hk150) HXo.out.n)
            have HO := hide ((HR.out.on.ok.take xn).more (Nat.le_succ k))
            refine KT.out.mono ?_
            rintro e' w5 ⟨rfl, F5, h5, l5⟩
            have HR5 := hide (HR.out.call h5 l5 HO.out (Nat.le_succ k))
            clear h5 l5 KT HR HO c0 c1 c2 c3 c4
            skip
            go_wp2_with fail

            go_meet
            case rel => exact ⟨(st.take xn).2.2, F5, f, m, rfl, by omega, HR5.out, HBn.out.less (take_sub st xn)⟩
          · as_aux_lemma =>
            have KT := hide (HC.out.take p st F1 k xn W1 HR.out.on.net HR.out.on.ok (fine150 hk150) HXo.out.n)
            have HO := hide ((HR.out.on.ok.take xn).more (Nat.le_succ k))
            refine KT.out.mono ?_
            rintro e' w5 ⟨rfl, F5, h5, l5⟩
            have HR5 := hide (HR.out.call h5 l5 HO.out (Nat.le_succ k))
            clear h5 l5 KT HR HO c0 c1 c2 c3 c4
            skip
            go_wp2_with fail

            go_meet
            case rel => exact ⟨(st.take xn).2.2, F5, f, m, rfl, by omega, HR5.out, HBn.out.less (take_sub st xn)⟩
          · as_aux_lemma =>
            go_wp2_with fail
            go_meet
            case rel => exact ⟨st, F1, f, m, rfl, by omega, ⟨⟨HR.out.on.net, HR.out.on.ok.more (Nat.le_succ k), HR.out.on.own, HR.out.on.below, HR.out.on.base, HR.out.on.map.mono (Nat.le_succ k), HR.out.on.apart, HR.out.on.behind⟩, HR.out.box, HR.out.nF, HR.out.nq⟩, HBn.out⟩
        obtain ⟨st2, F2, f2, m2, rfl, hm2, hrd, hbn⟩ := hcut
        have HO2 := hide hrd.on
        have HB2 := hide hbn
        clear hrd hbn HBn HXo hfew
        have KL := hide (HC.out.list p st2 F2 (k + 1) wc HO2.out.net HO2.out.ok (fine150 (by omega)))
        go_wp2_with fail
        refine KL.out.mono ?_
        rintro e' w5 ⟨la, lc, rfl, hL, hb5⟩
        have HO5 := hide (HO2.out.old HC.out hb5)
        have HL := hide hL
        clear hb5 KL HO2 hL
        have KR := hide (HC.out.ready p st2 F2 (k + 1) w5 HO5.out.net HO5.out.ok (fine150 (by omega)))
        go_wp2_with fail
        refine KR.out.mono ?_
        rintro e' w6 ⟨ra, rc, rfl, hI, hb6⟩
        have HLs : Hid (Ls NAt w.heap.size w w6 p q (k + 1) st2 F2 f2 la ra) := ⟨HO5.out.old HC.out hb6, HL.out.old hb6, hI⟩
        have hfew := HO5.out.ok.few
        have hrf : st2.ready.length ≤ 4096 := by have := readyL_few st2; rw [← ready_len] at this; omega
        have HOk2 := hide HO5.out.ok
        clear hb6 KR HO5 HL hI
        go_wp2_with fail
        go_loopw [14, 15] (fun fr i u => ∃ j : Nat, j ≤ st2.l.length ∧ i = .int .i64 (j : Int) ∧ fr = .int .i64 (freeOf st2 j : Int) ∧ Ls NAt w.heap.size w u p q (k + 1) st2 F2 f2 la ra) (fun _ i _ => st2.l.length - (intOf i).toNat)
        case atStart => exact ⟨0, Nat.zero_le _, rfl, by unfold freeOf; rfl, HLs.out⟩
        case round =>
          obtain ⟨j, hj, rfl, rfl, hls⟩ := hrel
          have HLj := hide hls
          clear hls HLs
          by_cases hjl : j < st2.l.length
          · obtain ⟨bl, ol, rfl, hcl⟩ := HLj.out.ls.there (by omega)
            obtain ⟨g0, g1, g2, g3, g4⟩ := hcl j hjl
            have hmem := List.getElem_mem hjl
            have hidl : st2.l[j].id < 18446744073709551616 := by have := (HOk2.out.ids _ hmem).2; have := HOk2.out.last; omega
            have hrun := HB2.out.run HLj.out.on.map hmem hidl
            have hrunD := HB2.out.run (u := wr.drew) (HLj.out.on.map.same rfl) hmem hidl
            have hgm := (HB2.out _ hmem).1
            have hen := HOk2.out.ends _ hmem
            have KP : Hid (∀ z, Ls NAt w.heap.size w z p q (k + 1) st2 F2 f2 (some ⟨bl, ol, none⟩) ra → Calls Try.prog 31 #[.pointer (some ⟨p, 0, none⟩), .int .i64 st2.l[j].a, .int .i64 st2.l[j].b] z fun e v => e = .returned (.bool (st2.p st2.l[j].a st2.l[j].b)) ∧ Below z.heap.size z v) := fun z hz =>
              HC.out.parted p st2 F2 (k + 1) _ _ z hz.on.net hz.on.ok (fine150 (by omega)) ⟨by omega, by omega⟩ ⟨by omega, by omega⟩
            have HFr := hide (freeOf_next st2 j hjl)
            have hfl := freeOf_le st2 j
            have HCl : Hid (∀ z, Ls NAt w.heap.size w z p q (k + 1) st2 F2 f2 (some ⟨bl, ol, none⟩) ra → z.cell? ⟨bl, ol + j * 5 + 1, none⟩ = some (.int .i64 st2.l[j].a) ∧ z.cell? ⟨bl, ol + j * 5 + 2, none⟩ = some (.int .i64 st2.l[j].b)) := fun z hz => by
              obtain ⟨b', o', e', h'⟩ := hz.ls.there (by omega)
              cases e'
              exact ⟨(h' j hjl).2.1, (h' j hjl).2.2.1⟩
            have hD : (m2 : Int) - ((m2 : Int) - (st2.l[j].g : Int)) = (st2.l[j].g : Int) := by omega
            have hD0 : 0 ≤ (m2 : Int) - (st2.l[j].g : Int) ∧ (m2 : Int) - (st2.l[j].g : Int) ≤ 151 := by omega
            have hm2z : (m2 : Int) ≤ 151 := by omega
            have hwr : IntKind.i64.wrap (st2.l[j].g : Int) = (st2.l[j].g : Int) := by rw [IntKind.wrap_i64]; omega
            have hfz : (freeOf st2 j : Int) ≤ 4096 := by omega
            generalize hfe : freeOf st2 (j + 1) = fr2 at *
            have HFe := hide hfe
            clear hfe
            generalize freeOf st2 j = fr1 at *
            generalize (m2 : Int) - (st2.l[j].g : Int) = D at *
            obtain ⟨hDa, hDb⟩ := hD0
            have hrise : ∀ i, i + 1 = j → ∀ (h : i < st2.l.length), st2.l[i].id < st2.l[j].id ∧ LetterAt wr bl (ol + i * 5) st2.l[i] := fun i hi h => by
              subst hi
              exact ⟨rise_at HOk2.out i hjl, hcl i h⟩
            by_cases hj0 : j = 0
            · as_aux_lemma =>
              have hjz : decide (0 < j) = false := by simp; omega
              clear hcl hmem hidl hgm hen hj0 hrise
              generalize st2.l[j] = y at *
              obtain ⟨yi, ya, yb, ys, yg⟩ := y
              dsimp only at *
              clear g3
              generalize st2.p ya yb = pt at *
              go_wp2_with fail
              refine wp_region_held_drew (S := fun z => z.cell? ⟨bl, ol + j * 5 + 4, none⟩ = some (.int .i64 (yg : Int)) ∧ z.cell? ⟨bl, ol + j * 5, none⟩ = some (.int .u64 (yi : Int)) ∧ (Instr.lookup 56 (.map (some q)) (.int .u64 (yi : Int)) false).run Try.prog z = .ok (.int .i64 D) z) (by kernel_rfl) (⟨g4, g0, hrunD⟩) (fun hHeld => ?_)
              (try dsimp only at hHeld)
              refine takeAtQ 0 116 (v := ?v_r38x316_0) rfl rfl (by kernel_rfl) (by kernel_rfl) (by kernel_rfl) (fun _ _ _ h => h) (Or.inl ⟨by rfl, ?hy_r38x316_0⟩) (by assumption) ?rest_r38x316_0
              case hy_r38x316_0 => (intro w hSw; (try dsimp only at hSw); go_simp; first | done | with_reducible rfl)
              simp only [List.setIfInBounds_toArray, List.set_cons_succ, List.set_cons_zero]
              refine takeAtQ 1 117 (v := ?v_r38x316_1) rfl rfl (by kernel_rfl) (by kernel_rfl) (by kernel_rfl) (fun _ _ _ h => h) (Or.inl ⟨by rfl, ?hy_r38x316_1⟩) (by assumption) ?rest_r38x316_1
              case hy_r38x316_1 => (intro w hSw; (try dsimp only at hSw); go_simp; first | done | with_reducible rfl)
              simp only [List.setIfInBounds_toArray, List.set_cons_succ, List.set_cons_zero]
              refine takeAtQ 2 118 (v := ?v_r38x316_2) rfl rfl (by kernel_rfl) (by kernel_rfl) (by kernel_rfl) (fun _ _ _ h => h) (Or.inl ⟨by rfl, ?hy_r38x316_2⟩) (by assumption) ?rest_r38x316_2
              case hy_r38x316_2 => (intro w hSw; (try dsimp only at hSw); go_simp; first | done | with_reducible rfl)
              simp only [List.setIfInBounds_toArray, List.set_cons_succ, List.set_cons_zero]
              refine takeAtQ 3 119 (v := ?v_r38x316_3) rfl rfl (by kernel_rfl) (by kernel_rfl) (by kernel_rfl) (fun _ _ _ h => h) (Or.inl ⟨by rfl, ?hy_r38x316_3⟩) (by assumption) ?rest_r38x316_3
              case hy_r38x316_3 => (intro w hSw; (try dsimp only at hSw); go_simp; first | done | with_reducible rfl)
              simp only [List.setIfInBounds_toArray, List.set_cons_succ, List.set_cons_zero]
              refine takeAtQ 4 120 (v := ?v_r38x316_4) rfl rfl (by kernel_rfl) (by kernel_rfl) (by kernel_rfl) (fun _ _ _ h => h) (Or.inl ⟨by rfl, ?hy_r38x316_4⟩) (by assumption) ?rest_r38x316_4
              case hy_r38x316_4 => (intro w hSw; (try dsimp only at hSw); go_simp; first | done | with_reducible rfl)
              simp only [List.setIfInBounds_toArray, List.set_cons_succ, List.set_cons_zero]
              refine takeAtQ 5 121 (v := ?v_r38x316_5) rfl rfl (by kernel_rfl) (by kernel_rfl) (by kernel_rfl) (fun _ _ _ h => h) (Or.inl ⟨by rfl, ?hy_r38x316_5⟩) (by assumption) ?rest_r38x316_5
              case hy_r38x316_5 => (intro w hSw; (try dsimp only at hSw); go_simp; first | done | with_reducible rfl)
              simp only [List.setIfInBounds_toArray, List.set_cons_succ, List.set_cons_zero]
              refine takeAtQ 6 122 (v := ?v_r38x316_6) rfl rfl (by kernel_rfl) (by kernel_rfl) (by kernel_rfl) (fun _ _ _ h => h) (Or.inl ⟨by rfl, ?hy_r38x316_6⟩) (by assumption) ?rest_r38x316_6
              case hy_r38x316_6 => (intro w hSw; (try dsimp only at hSw); go_simp; first | done | with_reducible rfl)
              simp only [List.setIfInBounds_toArray, List.set_cons_succ, List.set_cons_zero]
              refine takeAtQ 7 123 (v := ?v_r38x316_7) rfl rfl (by kernel_rfl) (by kernel_rfl) (by kernel_rfl) (fun _ _ _ h => h) (Or.inl ⟨by rfl, ?hy_r38x316_7⟩) (by assumption) ?rest_r38x316_7
              case hy_r38x316_7 => (intro w hSw; (try dsimp only at hSw); go_simp; first | done | with_reducible rfl)
              simp only [List.setIfInBounds_toArray, List.set_cons_succ, List.set_cons_zero]
              refine takeAtQ 8 124 (v := ?v_r38x316_8) rfl rfl (by kernel_rfl) (by kernel_rfl) (by kernel_rfl) (fun _ _ _ h => h) (Or.inl ⟨by rfl, ?hy_r38x316_8⟩) (by assumption) ?rest_r38x316_8
              case hy_r38x316_8 => (intro w hSw; (try dsimp only at hSw); go_simp; first | done | with_reducible rfl)
              simp only [List.setIfInBounds_toArray, List.set_cons_succ, List.set_cons_zero]
              refine takeAtQ 9 125 (v := ?v_r38x316_9) rfl rfl (by kernel_rfl) (by kernel_rfl) (by kernel_rfl) (fun _ _ _ h => h) (Or.inl ⟨by rfl, ?hy_r38x316_9⟩) (by assumption) ?rest_r38x316_9
              case hy_r38x316_9 => (intro w hSw; (try dsimp only at hSw); go_simp; first | done | with_reducible rfl)
              simp only [List.setIfInBounds_toArray, List.set_cons_succ, List.set_cons_zero]
              refine takeAtQ 10 126 (v := ?v_r38x316_10) rfl rfl (by kernel_rfl) (by kernel_rfl) (by kernel_rfl) (fun _ _ _ h => h) (Or.inl ⟨by rfl, ?hy_r38x316_10⟩) (by assumption) ?rest_r38x316_10
              case hy_r38x316_10 => (intro w hSw; (try dsimp only at hSw); go_simp; first | done | with_reducible rfl)
              simp only [List.setIfInBounds_toArray, List.set_cons_succ, List.set_cons_zero]
              refine takeAtQ 11 127 (v := ?v_r38x316_11) rfl rfl (by kernel_rfl) (by kernel_rfl) (by kernel_rfl) (fun _ _ _ h => h) (Or.inl ⟨by rfl, ?hy_r38x316_11⟩) (by assumption) ?rest_r38x316_11
              case hy_r38x316_11 => (intro w hSw; (try dsimp only at hSw); go_simp; first | done | with_reducible rfl)
              simp only [List.setIfInBounds_toArray, List.set_cons_succ, List.set_cons_zero]
              refine takeAtQ 12 128 (v := ?v_r38x316_12) rfl rfl (by kernel_rfl) (by kernel_rfl) (by kernel_rfl) (fun _ _ _ h => h) (Or.inl ⟨by rfl, ?hy_r38x316_12⟩) (by assumption) ?rest_r38x316_12
              case hy_r38x316_12 => (intro w hSw; (try dsimp only at hSw); go_simp; first | done | with_reducible rfl)
              simp only [List.setIfInBounds_toArray, List.set_cons_succ, List.set_cons_zero]
              refine takeAtQ 13 129 (v := ?v_r38x316_13) rfl rfl (by kernel_rfl) (by kernel_rfl) (by kernel_rfl) (fun _ _ _ h => h) (Or.inl ⟨by rfl, ?hy_r38x316_13⟩) (by assumption) ?rest_r38x316_13
              case hy_r38x316_13 => (intro w hSw; (try dsimp only at hSw); go_simp; first | done | with_reducible rfl)
              simp only [List.setIfInBounds_toArray, List.set_cons_succ, List.set_cons_zero]
              refine takeAtQ 14 130 (v := ?v_r38x316_14) rfl rfl (by kernel_rfl) (by kernel_rfl) (by kernel_rfl) (fun _ _ _ h => h) (Or.inl ⟨by rfl, ?hy_r38x316_14⟩) (by assumption) ?rest_r38x316_14
              case hy_r38x316_14 => (intro w hSw; (try dsimp only at hSw); go_simp; first | done | with_reducible rfl)
              simp only [List.setIfInBounds_toArray, List.set_cons_succ, List.set_cons_zero]
              refine takeAtQ 15 131 (v := ?v_r38x316_15) rfl rfl (by kernel_rfl) (by kernel_rfl) (by kernel_rfl) (fun _ _ _ h => h) (Or.inl ⟨by rfl, ?hy_r38x316_15⟩) (by assumption) ?rest_r38x316_15
              case hy_r38x316_15 => (intro w hSw; (try dsimp only at hSw); go_simp; first | done | with_reducible rfl)
              simp only [List.setIfInBounds_toArray, List.set_cons_succ, List.set_cons_zero]
              refine takeAtQ 16 132 (v := ?v_r38x316_16) rfl rfl (by kernel_rfl) (by kernel_rfl) (by kernel_rfl) (fun _ _ _ h => h) (Or.inl ⟨by rfl, ?hy_r38x316_16⟩) (by assumption) ?rest_r38x316_16
              case hy_r38x316_16 => (intro w hSw; (try dsimp only at hSw); go_simp; first | done | with_reducible rfl)
              simp only [List.setIfInBounds_toArray, List.set_cons_succ, List.set_cons_zero]
              refine takeAtQ 17 133 (v := ?v_r38x316_17) rfl rfl (by kernel_rfl) (by kernel_rfl) (by kernel_rfl) (fun _ _ _ h => h) (Or.inl ⟨by rfl, ?hy_r38x316_17⟩) (by assumption) ?rest_r38x316_17
              case hy_r38x316_17 => (intro w hSw; (try dsimp only at hSw); go_simp; first | done | with_reducible rfl)
              simp only [List.setIfInBounds_toArray, List.set_cons_succ, List.set_cons_zero]
              refine takeAtQ 18 134 (v := ?v_r38x316_18) rfl rfl (by kernel_rfl) (by kernel_rfl) (by kernel_rfl) (fun _ _ _ h => h) (Or.inl ⟨by rfl, ?hy_r38x316_18⟩) (by assumption) ?rest_r38x316_18
              case hy_r38x316_18 => (intro w hSw; (try dsimp only at hSw); go_simp; first | done | with_reducible rfl)
              simp only [List.setIfInBounds_toArray, List.set_cons_succ, List.set_cons_zero]
              refine takeAtQ 19 135 (v := undef) rfl rfl (by kernel_rfl) (by kernel_rfl) (by kernel_rfl) (fun _ _ _ h => h) (Or.inr ⟨by rfl, rfl⟩) (by assumption) ?rest_r38x316_19
              simp only [List.setIfInBounds_toArray, List.set_cons_succ, List.set_cons_zero]
              refine takeAtQ 20 136 (v := undef) rfl rfl (by kernel_rfl) (by kernel_rfl) (by kernel_rfl) (fun _ _ _ h => h) (Or.inr ⟨by rfl, rfl⟩) (by assumption) ?rest_r38x316_20
              simp only [List.setIfInBounds_toArray, List.set_cons_succ, List.set_cons_zero]
              refine takeAtQ 21 137 (v := undef) rfl rfl (by kernel_rfl) (by kernel_rfl) (by kernel_rfl) (fun _ _ _ h => h) (Or.inr ⟨by rfl, rfl⟩) (by assumption) ?rest_r38x316_21
              simp only [List.setIfInBounds_toArray, List.set_cons_succ, List.set_cons_zero]
              refine takeAtQ 22 138 (v := undef) rfl rfl (by kernel_rfl) (by kernel_rfl) (by kernel_rfl) (fun _ _ _ h => h) (Or.inr ⟨by rfl, rfl⟩) (by assumption) ?rest_r38x316_22
              simp only [List.setIfInBounds_toArray, List.set_cons_succ, List.set_cons_zero]
              refine takeAtQ 23 139 (v := undef) rfl rfl (by kernel_rfl) (by kernel_rfl) (by kernel_rfl) (fun _ _ _ h => h) (Or.inr ⟨by rfl, rfl⟩) (by assumption) ?rest_r38x316_23
              simp only [List.setIfInBounds_toArray, List.set_cons_succ, List.set_cons_zero]
              refine takeAtQ 24 140 (v := undef) rfl rfl (by kernel_rfl) (by kernel_rfl) (by kernel_rfl) (fun _ _ _ h => h) (Or.inr ⟨by rfl, rfl⟩) (by assumption) ?rest_r38x316_24
              simp only [List.setIfInBounds_toArray, List.set_cons_succ, List.set_cons_zero]
              refine takeAtQ 25 141 (v := undef) rfl rfl (by kernel_rfl) (by kernel_rfl) (by kernel_rfl) (fun _ _ _ h => h) (Or.inr ⟨by rfl, rfl⟩) (by assumption) ?rest_r38x316_25
              simp only [List.setIfInBounds_toArray, List.set_cons_succ, List.set_cons_zero]
              refine takeAtQ 26 142 (v := undef) rfl rfl (by kernel_rfl) (by kernel_rfl) (by kernel_rfl) (fun _ _ _ h => h) (Or.inr ⟨by rfl, rfl⟩) (by assumption) ?rest_r38x316_26
              simp only [List.setIfInBounds_toArray, List.set_cons_succ, List.set_cons_zero]
              refine takeAtQ 27 143 (v := undef) rfl rfl (by kernel_rfl) (by kernel_rfl) (by kernel_rfl) (fun _ _ _ h => h) (Or.inr ⟨by rfl, rfl⟩) (by assumption) ?rest_r38x316_27
              simp only [List.setIfInBounds_toArray, List.set_cons_succ, List.set_cons_zero]
              refine takeAtQ 28 144 (v := undef) rfl rfl (by kernel_rfl) (by kernel_rfl) (by kernel_rfl) (fun _ _ _ h => h) (Or.inr ⟨by rfl, rfl⟩) (by assumption) ?rest_r38x316_28
              simp only [List.setIfInBounds_toArray, List.set_cons_succ, List.set_cons_zero]
              refine takeAtQ 29 145 (v := undef) rfl rfl (by kernel_rfl) (by kernel_rfl) (by kernel_rfl) (fun _ _ _ h => h) (Or.inr ⟨by rfl, rfl⟩) (by assumption) ?rest_r38x316_29
              simp only [List.setIfInBounds_toArray, List.set_cons_succ, List.set_cons_zero]
              refine takeAtQ 30 146 (v := undef) rfl rfl (by kernel_rfl) (by kernel_rfl) (by kernel_rfl) (fun _ _ _ h => h) (Or.inr ⟨by rfl, rfl⟩) (by assumption) ?rest_r38x316_30
              simp only [List.setIfInBounds_toArray, List.set_cons_succ, List.set_cons_zero]
              refine takeAtQ 31 147 (v := ?v_r38x316_31) rfl rfl (by kernel_rfl) (by kernel_rfl) (by kernel_rfl) (fun _ _ _ h => h) (Or.inl ⟨by rfl, ?hy_r38x316_31⟩) (by assumption) ?rest_r38x316_31
              case hy_r38x316_31 => (intro w hSw; (try dsimp only at hSw); go_simp; first | done | with_reducible rfl)
              simp only [List.setIfInBounds_toArray, List.set_cons_succ, List.set_cons_zero]
              refine takeAtQ 32 148 (v := ?v_r38x316_32) rfl rfl (by kernel_rfl) (by kernel_rfl) (by kernel_rfl) (fun _ _ _ h => h) (Or.inl ⟨by rfl, ?hy_r38x316_32⟩) (by assumption) ?rest_r38x316_32
              case hy_r38x316_32 => (intro w hSw; (try dsimp only at hSw); go_simp; first | done | with_reducible rfl)
              simp only [List.setIfInBounds_toArray, List.set_cons_succ, List.set_cons_zero]
              refine wpAnyH_done (by kernel_rfl) ?_ _
              clear hHeld
              have HL1 := hide (HLj.out.old HC.out (below_drewN (Below.refl _ _) 1))
              change Hid (Ls NAt w.heap.size w wr.drew p q (k + 1) st2 F2 f2 (some ⟨bl, ol, none⟩) ra) at HL1
              clear HLj hrun hrunD
              generalize wr.drew = z1 at *
              go_wp2_with fail
              have HL2 := hide (HL1.out.old HC.out (below_drewN (Below.refl _ _) 1))
              change Hid (Ls NAt w.heap.size w z1.drew p q (k + 1) st2 F2 f2 (some ⟨bl, ol, none⟩) ra) at HL2
              clear HL1
              refine wp_region_held_drew (S := fun z => z.cell? ⟨bl, ol + j * 5 + 1, none⟩ = some (.int .i64 ya) ∧ z.cell? ⟨bl, ol + j * 5 + 2, none⟩ = some (.int .i64 yb)) (by kernel_rfl) (HCl.out _ HL2.out) (fun hHeld => ?_)
              (try dsimp only at hHeld)
              refine takeAtQ 0 149 (v := ?v_r40x415_0) rfl rfl (by kernel_rfl) (by kernel_rfl) (by kernel_rfl) (fun _ _ _ h => h) (Or.inl ⟨by rfl, ?hy_r40x415_0⟩) (by assumption) ?rest_r40x415_0
              case hy_r40x415_0 => (intro w hSw; (try dsimp only at hSw); go_simp; first | done | with_reducible rfl)
              simp only [List.setIfInBounds_toArray, List.set_cons_succ, List.set_cons_zero]
              refine takeAtQ 1 150 (v := ?v_r40x415_1) rfl rfl (by kernel_rfl) (by kernel_rfl) (by kernel_rfl) (fun _ _ _ h => h) (Or.inl ⟨by rfl, ?hy_r40x415_1⟩) (by assumption) ?rest_r40x415_1
              case hy_r40x415_1 => (intro w hSw; (try dsimp only at hSw); go_simp; first | done | with_reducible rfl)
              simp only [List.setIfInBounds_toArray, List.set_cons_succ, List.set_cons_zero]
              refine takeAtQ 2 151 (v := ?v_r40x415_2) rfl rfl (by kernel_rfl) (by kernel_rfl) (by kernel_rfl) (fun _ _ _ h => h) (Or.inl ⟨by rfl, ?hy_r40x415_2⟩) (by assumption) ?rest_r40x415_2
              case hy_r40x415_2 => (intro w hSw; (try dsimp only at hSw); go_simp; first | done | with_reducible rfl)
              simp only [List.setIfInBounds_toArray, List.set_cons_succ, List.set_cons_zero]
              refine takeAtQ 3 152 (v := ?v_r40x415_3) rfl rfl (by kernel_rfl) (by kernel_rfl) (by kernel_rfl) (fun _ _ _ h => h) (Or.inl ⟨by rfl, ?hy_r40x415_3⟩) (by assumption) ?rest_r40x415_3
              case hy_r40x415_3 => (intro w hSw; (try dsimp only at hSw); go_simp; first | done | with_reducible rfl)
              simp only [List.setIfInBounds_toArray, List.set_cons_succ, List.set_cons_zero]
              refine takeAtQ 4 153 (v := ?v_r40x415_4) rfl rfl (by kernel_rfl) (by kernel_rfl) (by kernel_rfl) (fun _ _ _ h => h) (Or.inl ⟨by rfl, ?hy_r40x415_4⟩) (by assumption) ?rest_r40x415_4
              case hy_r40x415_4 => (intro w hSw; (try dsimp only at hSw); go_simp; first | done | with_reducible rfl)
              simp only [List.setIfInBounds_toArray, List.set_cons_succ, List.set_cons_zero]
              refine takeAtQ 5 154 (v := ?v_r40x415_5) rfl rfl (by kernel_rfl) (by kernel_rfl) (by kernel_rfl) (fun _ _ _ h => h) (Or.inl ⟨by rfl, ?hy_r40x415_5⟩) (by assumption) ?rest_r40x415_5
              case hy_r40x415_5 => (intro w hSw; (try dsimp only at hSw); go_simp; first | done | with_reducible rfl)
              simp only [List.setIfInBounds_toArray, List.set_cons_succ, List.set_cons_zero]
              refine takeAtQ 6 155 (v := ?v_r40x415_6) rfl rfl (by kernel_rfl) (by kernel_rfl) (by kernel_rfl) (fun _ _ _ h => h) (Or.inl ⟨by rfl, ?hy_r40x415_6⟩) (by assumption) ?rest_r40x415_6
              case hy_r40x415_6 => (intro w hSw; (try dsimp only at hSw); go_simp; first | done | with_reducible rfl)
              simp only [List.setIfInBounds_toArray, List.set_cons_succ, List.set_cons_zero]
              refine takeAtQ 7 156 (v := ?v_r40x415_7) rfl rfl (by kernel_rfl) (by kernel_rfl) (by kernel_rfl) (fun _ _ _ h => h) (Or.inl ⟨by rfl, ?hy_r40x415_7⟩) (by assumption) ?rest_r40x415_7
              case hy_r40x415_7 => (intro w hSw; (try dsimp only at hSw); go_simp; first | done | with_reducible rfl)
              simp only [List.setIfInBounds_toArray, List.set_cons_succ, List.set_cons_zero]
              refine takeAtQ 8 157 (v := ?v_r40x415_8) rfl rfl (by kernel_rfl) (by kernel_rfl) (by kernel_rfl) (fun _ _ _ h => h) (Or.inl ⟨by rfl, ?hy_r40x415_8⟩) (by assumption) ?rest_r40x415_8
              case hy_r40x415_8 => (intro w hSw; (try dsimp only at hSw); go_simp; first | done | with_reducible rfl)
              simp only [List.setIfInBounds_toArray, List.set_cons_succ, List.set_cons_zero]
              refine takeAtQ 9 158 (v := ?v_r40x415_9) rfl rfl (by kernel_rfl) (by kernel_rfl) (by kernel_rfl) (fun _ _ _ h => h) (Or.inl ⟨by rfl, ?hy_r40x415_9⟩) (by assumption) ?rest_r40x415_9
              case hy_r40x415_9 => (intro w hSw; (try dsimp only at hSw); go_simp; first | done | with_reducible rfl)
              simp only [List.setIfInBounds_toArray, List.set_cons_succ, List.set_cons_zero]
              refine takeAtQ 10 159 (v := ?v_r40x415_10) rfl rfl (by kernel_rfl) (by kernel_rfl) (by kernel_rfl) (fun _ _ _ h => h) (Or.inl ⟨by rfl, ?hy_r40x415_10⟩) (by assumption) ?rest_r40x415_10
              case hy_r40x415_10 => (intro w hSw; (try dsimp only at hSw); go_simp; first | done | with_reducible rfl)
              simp only [List.setIfInBounds_toArray, List.set_cons_succ, List.set_cons_zero]
              refine wpAnyH_ready (rs := [11]) (by kernel_rfl) (by simp) ?_
              refine AllReadyH.cons (o := { dst := some 160, op := Go.Op.call { callee := Go.Callee.value (Go.Operand.func 31), args := #[Go.Operand.tmp 149, Go.Operand.tmp 154, Go.Operand.tmp 159], argTypes := #[25, 3, 3] }, type := 4, pos := "law.go:281", after := #[{ on := 0, ground := Go.Ground.data }, { on := 5, ground := Go.Ground.data }, { on := 10, ground := Go.Ground.data }], guard := none }) rfl (fun K hK => ?_) AllReadyH.nil
              go_simp
              refine (KP.out _ HL2.out).mono ?_
              rintro e' z3 ⟨rfl, hb3⟩
              have HL3 := hide (HL2.out.old HC.out hb3)
              clear hb3 HL2
              go_wp2_with fail
              refine hK.out _ _ (HCl.out _ HL3.out) (fun hHeldN => ?_)
              clear hK K hHeld
              (try go_frame)
              have hHeld := hHeldN
              clear hHeldN
              (try dsimp only at hHeld)
              refine takeAtQ 12 161 (v := ?v_r40x415_12) rfl rfl (by kernel_rfl) (by kernel_rfl) (by kernel_rfl) (fun _ _ _ h => h) (Or.inl ⟨by rfl, ?hy_r40x415_12⟩) (by assumption) ?rest_r40x415_12
              case hy_r40x415_12 => (intro w hSw; (try dsimp only at hSw); go_simp; first | done | with_reducible rfl)
              simp only [List.setIfInBounds_toArray, List.set_cons_succ, List.set_cons_zero]
              refine wpAnyH_done (by kernel_rfl) ?_ _
              clear hHeld
              clear KP HCl
              cases pt with
              | true =>
                have HFr2 : Hid (fr2 = fr1) := HFr.out
                clear HFr
                go_wp2_with fail
                exact ⟨⟨j + 1, by omega, by go_num, by rw [HFe.out, HFr2.out], HL3.out⟩, by simp [intOf]; omega⟩
              | false =>
                have HFr2 : Hid (fr2 = fr1 + 1) := HFr.out
                clear HFr
                go_wp2_with fail
                exact ⟨⟨j + 1, by omega, by go_num, by rw [HFe.out, HFr2.out]; go_num, HL3.out⟩, by simp [intOf]; omega⟩
            · as_aux_lemma =>
              obtain ⟨jm, hjm'⟩ : ∃ jm, jm + 1 = j := ⟨j - 1, by omega⟩
              have hjml : jm < st2.l.length := by omega
              obtain ⟨hlt1, hpc⟩ := hrise jm hjm' hjml
              have p0 := hpc.1
              have hjz : decide (0 < j) = true := by simp; omega
              have hjm : (j : Int) - 1 = (jm : Int) := by omega
              have hwj : IntKind.i64.wrap (jm : Int) = (jm : Int) := by rw [IntKind.wrap_i64]; omega
              have hge : decide (st2.l[j].id ≤ st2.l[jm].id) = false := by simp; omega
              clear hpc hlt1 hjm'
              generalize st2.l[jm].id = pi at *
              clear hcl hmem hidl hgm hen hj0 hrise
              generalize st2.l[j] = y at *
              obtain ⟨yi, ya, yb, ys, yg⟩ := y
              dsimp only at *
              clear g3
              generalize st2.p ya yb = pt at *
              go_wp2_with fail
              refine wp_region_held_drew (S := fun z => z.cell? ⟨bl, ol + j * 5 + 4, none⟩ = some (.int .i64 (yg : Int)) ∧ z.cell? ⟨bl, ol + j * 5, none⟩ = some (.int .u64 (yi : Int)) ∧ z.cell? ⟨bl, ol + jm * 5, none⟩ = some (.int .u64 (pi : Int)) ∧ (Instr.lookup 56 (.map (some q)) (.int .u64 (yi : Int)) false).run Try.prog z = .ok (.int .i64 D) z) (by kernel_rfl) (⟨g4, g0, p0, hrunD⟩) (fun hHeld => ?_)
              (try dsimp only at hHeld)
              refine takeAtQ 0 116 (v := ?v_r38x499_0) rfl rfl (by kernel_rfl) (by kernel_rfl) (by kernel_rfl) (fun _ _ _ h => h) (Or.inl ⟨by rfl, ?hy_r38x499_0⟩) (by assumption) ?rest_r38x499_0
              case hy_r38x499_0 => (intro w hSw; (try dsimp only at hSw); go_simp; first | done | with_reducible rfl)
              simp only [List.setIfInBounds_toArray, List.set_cons_succ, List.set_cons_zero]
              refine takeAtQ 1 117 (v := ?v_r38x499_1) rfl rfl (by kernel_rfl) (by kernel_rfl) (by kernel_rfl) (fun _ _ _ h => h) (Or.inl ⟨by rfl, ?hy_r38x499_1⟩) (by assumption) ?rest_r38x499_1
              case hy_r38x499_1 => (intro w hSw; (try dsimp only at hSw); go_simp; first | done | with_reducible rfl)
              simp only [List.setIfInBounds_toArray, List.set_cons_succ, List.set_cons_zero]
              refine takeAtQ 2 118 (v := ?v_r38x499_2) rfl rfl (by kernel_rfl) (by kernel_rfl) (by kernel_rfl) (fun _ _ _ h => h) (Or.inl ⟨by rfl, ?hy_r38x499_2⟩) (by assumption) ?rest_r38x499_2
              case hy_r38x499_2 => (intro w hSw; (try dsimp only at hSw); go_simp; first | done | with_reducible rfl)
              simp only [List.setIfInBounds_toArray, List.set_cons_succ, List.set_cons_zero]
              refine takeAtQ 3 119 (v := ?v_r38x499_3) rfl rfl (by kernel_rfl) (by kernel_rfl) (by kernel_rfl) (fun _ _ _ h => h) (Or.inl ⟨by rfl, ?hy_r38x499_3⟩) (by assumption) ?rest_r38x499_3
              case hy_r38x499_3 => (intro w hSw; (try dsimp only at hSw); go_simp; first | done | with_reducible rfl)
              simp only [List.setIfInBounds_toArray, List.set_cons_succ, List.set_cons_zero]
              refine takeAtQ 4 120 (v := ?v_r38x499_4) rfl rfl (by kernel_rfl) (by kernel_rfl) (by kernel_rfl) (fun _ _ _ h => h) (Or.inl ⟨by rfl, ?hy_r38x499_4⟩) (by assumption) ?rest_r38x499_4
              case hy_r38x499_4 => (intro w hSw; (try dsimp only at hSw); go_simp; first | done | with_reducible rfl)
              simp only [List.setIfInBounds_toArray, List.set_cons_succ, List.set_cons_zero]
              refine takeAtQ 5 121 (v := ?v_r38x499_5) rfl rfl (by kernel_rfl) (by kernel_rfl) (by kernel_rfl) (fun _ _ _ h => h) (Or.inl ⟨by rfl, ?hy_r38x499_5⟩) (by assumption) ?rest_r38x499_5
              case hy_r38x499_5 => (intro w hSw; (try dsimp only at hSw); go_simp; first | done | with_reducible rfl)
              simp only [List.setIfInBounds_toArray, List.set_cons_succ, List.set_cons_zero]
              refine takeAtQ 6 122 (v := ?v_r38x499_6) rfl rfl (by kernel_rfl) (by kernel_rfl) (by kernel_rfl) (fun _ _ _ h => h) (Or.inl ⟨by rfl, ?hy_r38x499_6⟩) (by assumption) ?rest_r38x499_6
              case hy_r38x499_6 => (intro w hSw; (try dsimp only at hSw); go_simp; first | done | with_reducible rfl)
              simp only [List.setIfInBounds_toArray, List.set_cons_succ, List.set_cons_zero]
              refine takeAtQ 7 123 (v := ?v_r38x499_7) rfl rfl (by kernel_rfl) (by kernel_rfl) (by kernel_rfl) (fun _ _ _ h => h) (Or.inl ⟨by rfl, ?hy_r38x499_7⟩) (by assumption) ?rest_r38x499_7
              case hy_r38x499_7 => (intro w hSw; (try dsimp only at hSw); go_simp; first | done | with_reducible rfl)
              simp only [List.setIfInBounds_toArray, List.set_cons_succ, List.set_cons_zero]
              refine takeAtQ 8 124 (v := ?v_r38x499_8) rfl rfl (by kernel_rfl) (by kernel_rfl) (by kernel_rfl) (fun _ _ _ h => h) (Or.inl ⟨by rfl, ?hy_r38x499_8⟩) (by assumption) ?rest_r38x499_8
              case hy_r38x499_8 => (intro w hSw; (try dsimp only at hSw); go_simp; first | done | with_reducible rfl)
              simp only [List.setIfInBounds_toArray, List.set_cons_succ, List.set_cons_zero]
              refine takeAtQ 9 125 (v := ?v_r38x499_9) rfl rfl (by kernel_rfl) (by kernel_rfl) (by kernel_rfl) (fun _ _ _ h => h) (Or.inl ⟨by rfl, ?hy_r38x499_9⟩) (by assumption) ?rest_r38x499_9
              case hy_r38x499_9 => (intro w hSw; (try dsimp only at hSw); go_simp; first | done | with_reducible rfl)
              simp only [List.setIfInBounds_toArray, List.set_cons_succ, List.set_cons_zero]
              refine takeAtQ 10 126 (v := ?v_r38x499_10) rfl rfl (by kernel_rfl) (by kernel_rfl) (by kernel_rfl) (fun _ _ _ h => h) (Or.inl ⟨by rfl, ?hy_r38x499_10⟩) (by assumption) ?rest_r38x499_10
              case hy_r38x499_10 => (intro w hSw; (try dsimp only at hSw); go_simp; first | done | with_reducible rfl)
              simp only [List.setIfInBounds_toArray, List.set_cons_succ, List.set_cons_zero]
              refine takeAtQ 11 127 (v := ?v_r38x499_11) rfl rfl (by kernel_rfl) (by kernel_rfl) (by kernel_rfl) (fun _ _ _ h => h) (Or.inl ⟨by rfl, ?hy_r38x499_11⟩) (by assumption) ?rest_r38x499_11
              case hy_r38x499_11 => (intro w hSw; (try dsimp only at hSw); go_simp; first | done | with_reducible rfl)
              simp only [List.setIfInBounds_toArray, List.set_cons_succ, List.set_cons_zero]
              refine takeAtQ 12 128 (v := ?v_r38x499_12) rfl rfl (by kernel_rfl) (by kernel_rfl) (by kernel_rfl) (fun _ _ _ h => h) (Or.inl ⟨by rfl, ?hy_r38x499_12⟩) (by assumption) ?rest_r38x499_12
              case hy_r38x499_12 => (intro w hSw; (try dsimp only at hSw); go_simp; first | done | with_reducible rfl)
              simp only [List.setIfInBounds_toArray, List.set_cons_succ, List.set_cons_zero]
              refine takeAtQ 13 129 (v := ?v_r38x499_13) rfl rfl (by kernel_rfl) (by kernel_rfl) (by kernel_rfl) (fun _ _ _ h => h) (Or.inl ⟨by rfl, ?hy_r38x499_13⟩) (by assumption) ?rest_r38x499_13
              case hy_r38x499_13 => (intro w hSw; (try dsimp only at hSw); go_simp; first | done | with_reducible rfl)
              simp only [List.setIfInBounds_toArray, List.set_cons_succ, List.set_cons_zero]
              refine takeAtQ 14 130 (v := ?v_r38x499_14) rfl rfl (by kernel_rfl) (by kernel_rfl) (by kernel_rfl) (fun _ _ _ h => h) (Or.inl ⟨by rfl, ?hy_r38x499_14⟩) (by assumption) ?rest_r38x499_14
              case hy_r38x499_14 => (intro w hSw; (try dsimp only at hSw); go_simp; first | done | with_reducible rfl)
              simp only [List.setIfInBounds_toArray, List.set_cons_succ, List.set_cons_zero]
              refine takeAtQ 15 131 (v := ?v_r38x499_15) rfl rfl (by kernel_rfl) (by kernel_rfl) (by kernel_rfl) (fun _ _ _ h => h) (Or.inl ⟨by rfl, ?hy_r38x499_15⟩) (by assumption) ?rest_r38x499_15
              case hy_r38x499_15 => (intro w hSw; (try dsimp only at hSw); go_simp; first | done | with_reducible rfl)
              simp only [List.setIfInBounds_toArray, List.set_cons_succ, List.set_cons_zero]
              refine takeAtQ 16 132 (v := ?v_r38x499_16) rfl rfl (by kernel_rfl) (by kernel_rfl) (by kernel_rfl) (fun _ _ _ h => h) (Or.inl ⟨by rfl, ?hy_r38x499_16⟩) (by assumption) ?rest_r38x499_16
              case hy_r38x499_16 => (intro w hSw; (try dsimp only at hSw); go_simp; first | done | with_reducible rfl)
              simp only [List.setIfInBounds_toArray, List.set_cons_succ, List.set_cons_zero]
              refine takeAtQ 17 133 (v := ?v_r38x499_17) rfl rfl (by kernel_rfl) (by kernel_rfl) (by kernel_rfl) (fun _ _ _ h => h) (Or.inl ⟨by rfl, ?hy_r38x499_17⟩) (by assumption) ?rest_r38x499_17
              case hy_r38x499_17 => (intro w hSw; (try dsimp only at hSw); go_simp; first | done | with_reducible rfl)
              simp only [List.setIfInBounds_toArray, List.set_cons_succ, List.set_cons_zero]
              refine takeAtQ 18 134 (v := ?v_r38x499_18) rfl rfl (by kernel_rfl) (by kernel_rfl) (by kernel_rfl) (fun _ _ _ h => h) (Or.inl ⟨by rfl, ?hy_r38x499_18⟩) (by assumption) ?rest_r38x499_18
              case hy_r38x499_18 => (intro w hSw; (try dsimp only at hSw); go_simp; first | done | with_reducible rfl)
              simp only [List.setIfInBounds_toArray, List.set_cons_succ, List.set_cons_zero]
              refine takeAtQ 19 135 (v := ?v_r38x499_19) rfl rfl (by kernel_rfl) (by kernel_rfl) (by kernel_rfl) (fun _ _ _ h => h) (Or.inl ⟨by rfl, ?hy_r38x499_19⟩) (by assumption) ?rest_r38x499_19
              case hy_r38x499_19 => (intro w hSw; (try dsimp only at hSw); go_simp; first | done | with_reducible rfl)
              simp only [List.setIfInBounds_toArray, List.set_cons_succ, List.set_cons_zero]
              refine takeAtQ 20 136 (v := ?v_r38x499_20) rfl rfl (by kernel_rfl) (by kernel_rfl) (by kernel_rfl) (fun _ _ _ h => h) (Or.inl ⟨by rfl, ?hy_r38x499_20⟩) (by assumption) ?rest_r38x499_20
              case hy_r38x499_20 => (intro w hSw; (try dsimp only at hSw); go_simp; first | done | with_reducible rfl)
              simp only [List.setIfInBounds_toArray, List.set_cons_succ, List.set_cons_zero]
              refine takeAtQ 21 137 (v := ?v_r38x499_21) rfl rfl (by kernel_rfl) (by kernel_rfl) (by kernel_rfl) (fun _ _ _ h => h) (Or.inl ⟨by rfl, ?hy_r38x499_21⟩) (by assumption) ?rest_r38x499_21
              case hy_r38x499_21 => (intro w hSw; (try dsimp only at hSw); go_simp; first | done | with_reducible rfl)
              simp only [List.setIfInBounds_toArray, List.set_cons_succ, List.set_cons_zero]
              refine takeAtQ 22 138 (v := ?v_r38x499_22) rfl rfl (by kernel_rfl) (by kernel_rfl) (by kernel_rfl) (fun _ _ _ h => h) (Or.inl ⟨by rfl, ?hy_r38x499_22⟩) (by assumption) ?rest_r38x499_22
              case hy_r38x499_22 => (intro w hSw; (try dsimp only at hSw); go_simp; first | done | with_reducible rfl)
              simp only [List.setIfInBounds_toArray, List.set_cons_succ, List.set_cons_zero]
              refine takeAtQ 23 139 (v := ?v_r38x499_23) rfl rfl (by kernel_rfl) (by kernel_rfl) (by kernel_rfl) (fun _ _ _ h => h) (Or.inl ⟨by rfl, ?hy_r38x499_23⟩) (by assumption) ?rest_r38x499_23
              case hy_r38x499_23 => (intro w hSw; (try dsimp only at hSw); go_simp; first | done | with_reducible rfl)
              simp only [List.setIfInBounds_toArray, List.set_cons_succ, List.set_cons_zero]
              refine takeAtQ 24 140 (v := ?v_r38x499_24) rfl rfl (by kernel_rfl) (by kernel_rfl) (by kernel_rfl) (fun _ _ _ h => h) (Or.inl ⟨by rfl, ?hy_r38x499_24⟩) (by assumption) ?rest_r38x499_24
              case hy_r38x499_24 => (intro w hSw; (try dsimp only at hSw); go_simp; first | done | with_reducible rfl)
              simp only [List.setIfInBounds_toArray, List.set_cons_succ, List.set_cons_zero]
              refine takeAtQ 25 141 (v := ?v_r38x499_25) rfl rfl (by kernel_rfl) (by kernel_rfl) (by kernel_rfl) (fun _ _ _ h => h) (Or.inl ⟨by rfl, ?hy_r38x499_25⟩) (by assumption) ?rest_r38x499_25
              case hy_r38x499_25 => (intro w hSw; (try dsimp only at hSw); go_simp; first | done | with_reducible rfl)
              simp only [List.setIfInBounds_toArray, List.set_cons_succ, List.set_cons_zero]
              refine takeAtQ 26 142 (v := ?v_r38x499_26) rfl rfl (by kernel_rfl) (by kernel_rfl) (by kernel_rfl) (fun _ _ _ h => h) (Or.inl ⟨by rfl, ?hy_r38x499_26⟩) (by assumption) ?rest_r38x499_26
              case hy_r38x499_26 => (intro w hSw; (try dsimp only at hSw); go_simp; first | done | with_reducible rfl)
              simp only [List.setIfInBounds_toArray, List.set_cons_succ, List.set_cons_zero]
              refine takeAtQ 27 143 (v := ?v_r38x499_27) rfl rfl (by kernel_rfl) (by kernel_rfl) (by kernel_rfl) (fun _ _ _ h => h) (Or.inl ⟨by rfl, ?hy_r38x499_27⟩) (by assumption) ?rest_r38x499_27
              case hy_r38x499_27 => (intro w hSw; (try dsimp only at hSw); go_simp; first | done | with_reducible rfl)
              simp only [List.setIfInBounds_toArray, List.set_cons_succ, List.set_cons_zero]
              refine takeAtQ 28 144 (v := ?v_r38x499_28) rfl rfl (by kernel_rfl) (by kernel_rfl) (by kernel_rfl) (fun _ _ _ h => h) (Or.inl ⟨by rfl, ?hy_r38x499_28⟩) (by assumption) ?rest_r38x499_28
              case hy_r38x499_28 => (intro w hSw; (try dsimp only at hSw); go_simp; first | done | with_reducible rfl)
              simp only [List.setIfInBounds_toArray, List.set_cons_succ, List.set_cons_zero]
              refine takeAtQ 29 145 (v := ?v_r38x499_29) rfl rfl (by kernel_rfl) (by kernel_rfl) (by kernel_rfl) (fun _ _ _ h => h) (Or.inl ⟨by rfl, ?hy_r38x499_29⟩) (by assumption) ?rest_r38x499_29
              case hy_r38x499_29 => (intro w hSw; (try dsimp only at hSw); go_simp; first | done | with_reducible rfl)
              simp only [List.setIfInBounds_toArray, List.set_cons_succ, List.set_cons_zero]
              refine takeAtQ 30 146 (v := ?v_r38x499_30) rfl rfl (by kernel_rfl) (by kernel_rfl) (by kernel_rfl) (fun _ _ _ h => h) (Or.inl ⟨by rfl, ?hy_r38x499_30⟩) (by assumption) ?rest_r38x499_30
              case hy_r38x499_30 => (intro w hSw; (try dsimp only at hSw); go_simp; first | done | with_reducible rfl)
              simp only [List.setIfInBounds_toArray, List.set_cons_succ, List.set_cons_zero]
              refine takeAtQ 31 147 (v := ?v_r38x499_31) rfl rfl (by kernel_rfl) (by kernel_rfl) (by kernel_rfl) (fun _ _ _ h => h) (Or.inl ⟨by rfl, ?hy_r38x499_31⟩) (by assumption) ?rest_r38x499_31
              case hy_r38x499_31 => (intro w hSw; (try dsimp only at hSw); go_simp; first | done | with_reducible rfl)
              simp only [List.setIfInBounds_toArray, List.set_cons_succ, List.set_cons_zero]
              refine takeAtQ 32 148 (v := ?v_r38x499_32) rfl rfl (by kernel_rfl) (by kernel_rfl) (by kernel_rfl) (fun _ _ _ h => h) (Or.inl ⟨by rfl, ?hy_r38x499_32⟩) (by assumption) ?rest_r38x499_32
              case hy_r38x499_32 => (intro w hSw; (try dsimp only at hSw); go_simp; first | done | with_reducible rfl)
              simp only [List.setIfInBounds_toArray, List.set_cons_succ, List.set_cons_zero]
              refine wpAnyH_done (by kernel_rfl) ?_ _
              clear hHeld
              have HL1 := hide (HLj.out.old HC.out (below_drewN (Below.refl _ _) 1))
              change Hid (Ls NAt w.heap.size w wr.drew p q (k + 1) st2 F2 f2 (some ⟨bl, ol, none⟩) ra) at HL1
              clear HLj hrun hrunD
              generalize wr.drew = z1 at *
              go_wp2_with fail
              have HL2 := hide (HL1.out.old HC.out (below_drewN (Below.refl _ _) 1))
              change Hid (Ls NAt w.heap.size w z1.drew p q (k + 1) st2 F2 f2 (some ⟨bl, ol, none⟩) ra) at HL2
              clear HL1
              refine wp_region_held_drew (S := fun z => z.cell? ⟨bl, ol + j * 5 + 1, none⟩ = some (.int .i64 ya) ∧ z.cell? ⟨bl, ol + j * 5 + 2, none⟩ = some (.int .i64 yb)) (by kernel_rfl) (HCl.out _ HL2.out) (fun hHeld => ?_)
              (try dsimp only at hHeld)
              refine takeAtQ 0 149 (v := ?v_r40x610_0) rfl rfl (by kernel_rfl) (by kernel_rfl) (by kernel_rfl) (fun _ _ _ h => h) (Or.inl ⟨by rfl, ?hy_r40x610_0⟩) (by assumption) ?rest_r40x610_0
              case hy_r40x610_0 => (intro w hSw; (try dsimp only at hSw); go_simp; first | done | with_reducible rfl)
              simp only [List.setIfInBounds_toArray, List.set_cons_succ, List.set_cons_zero]
              refine takeAtQ 1 150 (v := ?v_r40x610_1) rfl rfl (by kernel_rfl) (by kernel_rfl) (by kernel_rfl) (fun _ _ _ h => h) (Or.inl ⟨by rfl, ?hy_r40x610_1⟩) (by assumption) ?rest_r40x610_1
              case hy_r40x610_1 => (intro w hSw; (try dsimp only at hSw); go_simp; first | done | with_reducible rfl)
              simp only [List.setIfInBounds_toArray, List.set_cons_succ, List.set_cons_zero]
              refine takeAtQ 2 151 (v := ?v_r40x610_2) rfl rfl (by kernel_rfl) (by kernel_rfl) (by kernel_rfl) (fun _ _ _ h => h) (Or.inl ⟨by rfl, ?hy_r40x610_2⟩) (by assumption) ?rest_r40x610_2
              case hy_r40x610_2 => (intro w hSw; (try dsimp only at hSw); go_simp; first | done | with_reducible rfl)
              simp only [List.setIfInBounds_toArray, List.set_cons_succ, List.set_cons_zero]
              refine takeAtQ 3 152 (v := ?v_r40x610_3) rfl rfl (by kernel_rfl) (by kernel_rfl) (by kernel_rfl) (fun _ _ _ h => h) (Or.inl ⟨by rfl, ?hy_r40x610_3⟩) (by assumption) ?rest_r40x610_3
              case hy_r40x610_3 => (intro w hSw; (try dsimp only at hSw); go_simp; first | done | with_reducible rfl)
              simp only [List.setIfInBounds_toArray, List.set_cons_succ, List.set_cons_zero]
              refine takeAtQ 4 153 (v := ?v_r40x610_4) rfl rfl (by kernel_rfl) (by kernel_rfl) (by kernel_rfl) (fun _ _ _ h => h) (Or.inl ⟨by rfl, ?hy_r40x610_4⟩) (by assumption) ?rest_r40x610_4
              case hy_r40x610_4 => (intro w hSw; (try dsimp only at hSw); go_simp; first | done | with_reducible rfl)
              simp only [List.setIfInBounds_toArray, List.set_cons_succ, List.set_cons_zero]
              refine takeAtQ 5 154 (v := ?v_r40x610_5) rfl rfl (by kernel_rfl) (by kernel_rfl) (by kernel_rfl) (fun _ _ _ h => h) (Or.inl ⟨by rfl, ?hy_r40x610_5⟩) (by assumption) ?rest_r40x610_5
              case hy_r40x610_5 => (intro w hSw; (try dsimp only at hSw); go_simp; first | done | with_reducible rfl)
              simp only [List.setIfInBounds_toArray, List.set_cons_succ, List.set_cons_zero]
              refine takeAtQ 6 155 (v := ?v_r40x610_6) rfl rfl (by kernel_rfl) (by kernel_rfl) (by kernel_rfl) (fun _ _ _ h => h) (Or.inl ⟨by rfl, ?hy_r40x610_6⟩) (by assumption) ?rest_r40x610_6
              case hy_r40x610_6 => (intro w hSw; (try dsimp only at hSw); go_simp; first | done | with_reducible rfl)
              simp only [List.setIfInBounds_toArray, List.set_cons_succ, List.set_cons_zero]
              refine takeAtQ 7 156 (v := ?v_r40x610_7) rfl rfl (by kernel_rfl) (by kernel_rfl) (by kernel_rfl) (fun _ _ _ h => h) (Or.inl ⟨by rfl, ?hy_r40x610_7⟩) (by assumption) ?rest_r40x610_7
              case hy_r40x610_7 => (intro w hSw; (try dsimp only at hSw); go_simp; first | done | with_reducible rfl)
              simp only [List.setIfInBounds_toArray, List.set_cons_succ, List.set_cons_zero]
              refine takeAtQ 8 157 (v := ?v_r40x610_8) rfl rfl (by kernel_rfl) (by kernel_rfl) (by kernel_rfl) (fun _ _ _ h => h) (Or.inl ⟨by rfl, ?hy_r40x610_8⟩) (by assumption) ?rest_r40x610_8
              case hy_r40x610_8 => (intro w hSw; (try dsimp only at hSw); go_simp; first | done | with_reducible rfl)
              simp only [List.setIfInBounds_toArray, List.set_cons_succ, List.set_cons_zero]
              refine takeAtQ 9 158 (v := ?v_r40x610_9) rfl rfl (by kernel_rfl) (by kernel_rfl) (by kernel_rfl) (fun _ _ _ h => h) (Or.inl ⟨by rfl, ?hy_r40x610_9⟩) (by assumption) ?rest_r40x610_9
              case hy_r40x610_9 => (intro w hSw; (try dsimp only at hSw); go_simp; first | done | with_reducible rfl)
              simp only [List.setIfInBounds_toArray, List.set_cons_succ, List.set_cons_zero]
              refine takeAtQ 10 159 (v := ?v_r40x610_10) rfl rfl (by kernel_rfl) (by kernel_rfl) (by kernel_rfl) (fun _ _ _ h => h) (Or.inl ⟨by rfl, ?hy_r40x610_10⟩) (by assumption) ?rest_r40x610_10
              case hy_r40x610_10 => (intro w hSw; (try dsimp only at hSw); go_simp; first | done | with_reducible rfl)
              simp only [List.setIfInBounds_toArray, List.set_cons_succ, List.set_cons_zero]
              refine wpAnyH_ready (rs := [11]) (by kernel_rfl) (by simp) ?_
              refine AllReadyH.cons (o := { dst := some 160, op := Go.Op.call { callee := Go.Callee.value (Go.Operand.func 31), args := #[Go.Operand.tmp 149, Go.Operand.tmp 154, Go.Operand.tmp 159], argTypes := #[25, 3, 3] }, type := 4, pos := "law.go:281", after := #[{ on := 0, ground := Go.Ground.data }, { on := 5, ground := Go.Ground.data }, { on := 10, ground := Go.Ground.data }], guard := none }) rfl (fun K hK => ?_) AllReadyH.nil
              go_simp
              refine (KP.out _ HL2.out).mono ?_
              rintro e' z3 ⟨rfl, hb3⟩
              have HL3 := hide (HL2.out.old HC.out hb3)
              clear hb3 HL2
              go_wp2_with fail
              refine hK.out _ _ (HCl.out _ HL3.out) (fun hHeldN => ?_)
              clear hK K hHeld
              (try go_frame)
              have hHeld := hHeldN
              clear hHeldN
              (try dsimp only at hHeld)
              refine takeAtQ 12 161 (v := ?v_r40x610_12) rfl rfl (by kernel_rfl) (by kernel_rfl) (by kernel_rfl) (fun _ _ _ h => h) (Or.inl ⟨by rfl, ?hy_r40x610_12⟩) (by assumption) ?rest_r40x610_12
              case hy_r40x610_12 => (intro w hSw; (try dsimp only at hSw); go_simp; first | done | with_reducible rfl)
              simp only [List.setIfInBounds_toArray, List.set_cons_succ, List.set_cons_zero]
              refine wpAnyH_done (by kernel_rfl) ?_ _
              clear hHeld
              clear KP HCl
              cases pt with
              | true =>
                have HFr2 : Hid (fr2 = fr1) := HFr.out
                clear HFr
                go_wp2_with fail
                exact ⟨⟨j + 1, by omega, by go_num, by rw [HFe.out, HFr2.out], HL3.out⟩, by simp [intOf]; omega⟩
              | false =>
                have HFr2 : Hid (fr2 = fr1 + 1) := HFr.out
                clear HFr
                go_wp2_with fail
                exact ⟨⟨j + 1, by omega, by go_num, by rw [HFe.out, HFr2.out]; go_num, HL3.out⟩, by simp [intOf]; omega⟩
          · obtain rfl : j = st2.l.length := by omega
            have HFa := hide (freeOf_all st2)
            have hrz : (st2.ready.length : Int) ≤ 4096 := by omega
            have hfq : (freeOf st2 st2.l.length : Int) = (st2.ready.length : Int) := by rw [HFa.out]
            generalize (freeOf st2 st2.l.length : Int) = fq at *
            subst hfq
            go_wp2_with fail
            go_loopw [16] (fun i u => ∃ t : Nat, 1 ≤ t ∧ (t ≤ st2.ready.length ∨ t = 1) ∧ i = .int .i64 (t : Int) ∧ Ls NAt w.heap.size w u p q (k + 1) st2 F2 f2 la ra) (fun i _ => st2.ready.length + 1 - (intOf i).toNat)
            case atStart => exact ⟨1, Nat.le_refl _, Or.inr rfl, rfl, HLj.out⟩
            case round =>
              obtain ⟨t, ht1, ht2, rfl, hls⟩ := hrel
              have HLt := hide hls
              clear hls HLj
              by_cases htl : t < st2.ready.length
              · obtain ⟨br, orr, rfl, hcr⟩ := HLt.out.ids.there (by omega)
                obtain ⟨tm, htm⟩ : ∃ tm, tm + 1 = t := ⟨t - 1, by omega⟩
                have html : tm < st2.ready.length := by omega
                obtain ⟨x, hx1, hx2, hx3⟩ := ready_at st2 tm html
                obtain ⟨y, hy1, hy2, hy3⟩ := ready_at st2 t htl
                have hah : ahead x y := ahead_at HOk2.out tm hx3 (by rw [htm]; exact hy3)
                have k1 := hcr tm html
                have k2 := hcr t htl
                rw [hx2] at k1
                rw [hy2] at k2
                have hidb : ∀ z ∈ st2.l, z.id < 18446744073709551616 := fun z hz => by have := (HOk2.out.ids z hz).2; have := HOk2.out.last; omega
                have hr1 := HB2.out.run (u := wr.drew) (HLt.out.on.map.same rfl) hx1 (hidb x hx1)
                have hr2 := HB2.out.run (u := wr.drew) (HLt.out.on.map.same rfl) hy1 (hidb y hy1)
                have hg1 := (HB2.out x hx1).1
                have hg2 := (HB2.out y hy1).1
                have htm2 : (t : Int) - 1 = (tm : Int) := by omega
                have hwt : IntKind.i64.wrap (tm : Int) = (tm : Int) := by rw [IntKind.wrap_i64]; omega
                have htz : (t : Int) < (st2.ready.length : Int) := by omega
                unfold ahead at hah
                clear hcr hx2 hx3 hy2 hy3 hidb hx1 hy1
                obtain ⟨xi, xa', xb', xs', xg⟩ := x
                obtain ⟨yi, ya', yb', ys', yg⟩ := y
                dsimp only at *
                by_cases hgg : yg < xg
                · as_aux_lemma =>
                  have hcA : decide ((m2 : Int) - (yg : Int) < (m2 : Int) - (xg : Int)) = false := by simp; omega
                  have hcB : (((m2 : Int) - (xg : Int)) == ((m2 : Int) - (yg : Int))) = false := by simp; omega
                  generalize (m2 : Int) - (yg : Int) = D2 at *
                  generalize (m2 : Int) - (xg : Int) = D1 at *
                  clear hah hgg hg1 hg2 htm
                  go_wp2_with fail
                  refine wp_region_held_drew (S := fun z => z.cell? ⟨br, orr + tm, none⟩ = some (.int .u64 (xi : Int)) ∧ z.cell? ⟨br, orr + t, none⟩ = some (.int .u64 (yi : Int)) ∧ (Instr.lookup 56 (.map (some q)) (.int .u64 (xi : Int)) false).run Try.prog z = .ok (.int .i64 D1) z ∧ (Instr.lookup 56 (.map (some q)) (.int .u64 (yi : Int)) false).run Try.prog z = .ok (.int .i64 D2) z) (by kernel_rfl) (⟨k1, k2, hr1, hr2⟩) (fun hHeld => ?_)
                  (try dsimp only at hHeld)
                  refine takeAtQ 0 174 (v := ?v_r47x721_0) rfl rfl (by kernel_rfl) (by kernel_rfl) (by kernel_rfl) (fun _ _ _ h => h) (Or.inl ⟨by rfl, ?hy_r47x721_0⟩) (by assumption) ?rest_r47x721_0
                  case hy_r47x721_0 => (intro w hSw; (try dsimp only at hSw); go_simp; first | done | with_reducible rfl)
                  simp only [List.setIfInBounds_toArray, List.set_cons_succ, List.set_cons_zero]
                  refine takeAtQ 1 175 (v := ?v_r47x721_1) rfl rfl (by kernel_rfl) (by kernel_rfl) (by kernel_rfl) (fun _ _ _ h => h) (Or.inl ⟨by rfl, ?hy_r47x721_1⟩) (by assumption) ?rest_r47x721_1
                  case hy_r47x721_1 => (intro w hSw; (try dsimp only at hSw); go_simp; first | done | with_reducible rfl)
                  simp only [List.setIfInBounds_toArray, List.set_cons_succ, List.set_cons_zero]
                  refine takeAtQ 2 176 (v := ?v_r47x721_2) rfl rfl (by kernel_rfl) (by kernel_rfl) (by kernel_rfl) (fun _ _ _ h => h) (Or.inl ⟨by rfl, ?hy_r47x721_2⟩) (by assumption) ?rest_r47x721_2
                  case hy_r47x721_2 => (intro w hSw; (try dsimp only at hSw); go_simp; first | done | with_reducible rfl)
                  simp only [List.setIfInBounds_toArray, List.set_cons_succ, List.set_cons_zero]
                  refine takeAtQ 3 177 (v := ?v_r47x721_3) rfl rfl (by kernel_rfl) (by kernel_rfl) (by kernel_rfl) (fun _ _ _ h => h) (Or.inl ⟨by rfl, ?hy_r47x721_3⟩) (by assumption) ?rest_r47x721_3
                  case hy_r47x721_3 => (intro w hSw; (try dsimp only at hSw); go_simp; first | done | with_reducible rfl)
                  simp only [List.setIfInBounds_toArray, List.set_cons_succ, List.set_cons_zero]
                  refine takeAtQ 4 178 (v := ?v_r47x721_4) rfl rfl (by kernel_rfl) (by kernel_rfl) (by kernel_rfl) (fun _ _ _ h => h) (Or.inl ⟨by rfl, ?hy_r47x721_4⟩) (by assumption) ?rest_r47x721_4
                  case hy_r47x721_4 => (intro w hSw; (try dsimp only at hSw); go_simp; first | done | with_reducible rfl)
                  simp only [List.setIfInBounds_toArray, List.set_cons_succ, List.set_cons_zero]
                  refine takeAtQ 5 179 (v := ?v_r47x721_5) rfl rfl (by kernel_rfl) (by kernel_rfl) (by kernel_rfl) (fun _ _ _ h => h) (Or.inl ⟨by rfl, ?hy_r47x721_5⟩) (by assumption) ?rest_r47x721_5
                  case hy_r47x721_5 => (intro w hSw; (try dsimp only at hSw); go_simp; first | done | with_reducible rfl)
                  simp only [List.setIfInBounds_toArray, List.set_cons_succ, List.set_cons_zero]
                  refine takeAtQ 6 180 (v := ?v_r47x721_6) rfl rfl (by kernel_rfl) (by kernel_rfl) (by kernel_rfl) (fun _ _ _ h => h) (Or.inl ⟨by rfl, ?hy_r47x721_6⟩) (by assumption) ?rest_r47x721_6
                  case hy_r47x721_6 => (intro w hSw; (try dsimp only at hSw); go_simp; first | done | with_reducible rfl)
                  simp only [List.setIfInBounds_toArray, List.set_cons_succ, List.set_cons_zero]
                  refine takeAtQ 7 181 (v := ?v_r47x721_7) rfl rfl (by kernel_rfl) (by kernel_rfl) (by kernel_rfl) (fun _ _ _ h => h) (Or.inl ⟨by rfl, ?hy_r47x721_7⟩) (by assumption) ?rest_r47x721_7
                  case hy_r47x721_7 => (intro w hSw; (try dsimp only at hSw); go_simp; first | done | with_reducible rfl)
                  simp only [List.setIfInBounds_toArray, List.set_cons_succ, List.set_cons_zero]
                  refine takeAtQ 8 182 (v := ?v_r47x721_8) rfl rfl (by kernel_rfl) (by kernel_rfl) (by kernel_rfl) (fun _ _ _ h => h) (Or.inl ⟨by rfl, ?hy_r47x721_8⟩) (by assumption) ?rest_r47x721_8
                  case hy_r47x721_8 => (intro w hSw; (try dsimp only at hSw); go_simp; first | done | with_reducible rfl)
                  simp only [List.setIfInBounds_toArray, List.set_cons_succ, List.set_cons_zero]
                  refine takeAtQ 9 183 (v := ?v_r47x721_9) rfl rfl (by kernel_rfl) (by kernel_rfl) (by kernel_rfl) (fun _ _ _ h => h) (Or.inl ⟨by rfl, ?hy_r47x721_9⟩) (by assumption) ?rest_r47x721_9
                  case hy_r47x721_9 => (intro w hSw; (try dsimp only at hSw); go_simp; first | done | with_reducible rfl)
                  simp only [List.setIfInBounds_toArray, List.set_cons_succ, List.set_cons_zero]
                  refine takeAtQ 10 184 (v := ?v_r47x721_10) rfl rfl (by kernel_rfl) (by kernel_rfl) (by kernel_rfl) (fun _ _ _ h => h) (Or.inl ⟨by rfl, ?hy_r47x721_10⟩) (by assumption) ?rest_r47x721_10
                  case hy_r47x721_10 => (intro w hSw; (try dsimp only at hSw); go_simp; first | done | with_reducible rfl)
                  simp only [List.setIfInBounds_toArray, List.set_cons_succ, List.set_cons_zero]
                  refine takeAtQ 11 185 (v := ?v_r47x721_11) rfl rfl (by kernel_rfl) (by kernel_rfl) (by kernel_rfl) (fun _ _ _ h => h) (Or.inl ⟨by rfl, ?hy_r47x721_11⟩) (by assumption) ?rest_r47x721_11
                  case hy_r47x721_11 => (intro w hSw; (try dsimp only at hSw); go_simp; first | done | with_reducible rfl)
                  simp only [List.setIfInBounds_toArray, List.set_cons_succ, List.set_cons_zero]
                  refine takeAtQ 12 186 (v := ?v_r47x721_12) rfl rfl (by kernel_rfl) (by kernel_rfl) (by kernel_rfl) (fun _ _ _ h => h) (Or.inl ⟨by rfl, ?hy_r47x721_12⟩) (by assumption) ?rest_r47x721_12
                  case hy_r47x721_12 => (intro w hSw; (try dsimp only at hSw); go_simp; first | done | with_reducible rfl)
                  simp only [List.setIfInBounds_toArray, List.set_cons_succ, List.set_cons_zero]
                  refine takeAtQ 13 187 (v := ?v_r47x721_13) rfl rfl (by kernel_rfl) (by kernel_rfl) (by kernel_rfl) (fun _ _ _ h => h) (Or.inl ⟨by rfl, ?hy_r47x721_13⟩) (by assumption) ?rest_r47x721_13
                  case hy_r47x721_13 => (intro w hSw; (try dsimp only at hSw); go_simp; first | done | with_reducible rfl)
                  simp only [List.setIfInBounds_toArray, List.set_cons_succ, List.set_cons_zero]
                  refine takeAtQ 14 188 (v := ?v_r47x721_14) rfl rfl (by kernel_rfl) (by kernel_rfl) (by kernel_rfl) (fun _ _ _ h => h) (Or.inl ⟨by rfl, ?hy_r47x721_14⟩) (by assumption) ?rest_r47x721_14
                  case hy_r47x721_14 => (intro w hSw; (try dsimp only at hSw); go_simp; first | done | with_reducible rfl)
                  simp only [List.setIfInBounds_toArray, List.set_cons_succ, List.set_cons_zero]
                  refine takeAtQ 15 189 (v := ?v_r47x721_15) rfl rfl (by kernel_rfl) (by kernel_rfl) (by kernel_rfl) (fun _ _ _ h => h) (Or.inl ⟨by rfl, ?hy_r47x721_15⟩) (by assumption) ?rest_r47x721_15
                  case hy_r47x721_15 => (intro w hSw; (try dsimp only at hSw); go_simp; first | done | with_reducible rfl)
                  simp only [List.setIfInBounds_toArray, List.set_cons_succ, List.set_cons_zero]
                  refine takeAtQ 16 190 (v := ?v_r47x721_16) rfl rfl (by kernel_rfl) (by kernel_rfl) (by kernel_rfl) (fun _ _ _ h => h) (Or.inl ⟨by rfl, ?hy_r47x721_16⟩) (by assumption) ?rest_r47x721_16
                  case hy_r47x721_16 => (intro w hSw; (try dsimp only at hSw); go_simp; first | done | with_reducible rfl)
                  simp only [List.setIfInBounds_toArray, List.set_cons_succ, List.set_cons_zero]
                  refine takeAtQ 17 191 (v := ?v_r47x721_17) rfl rfl (by kernel_rfl) (by kernel_rfl) (by kernel_rfl) (fun _ _ _ h => h) (Or.inl ⟨by rfl, ?hy_r47x721_17⟩) (by assumption) ?rest_r47x721_17
                  case hy_r47x721_17 => (intro w hSw; (try dsimp only at hSw); go_simp; first | done | with_reducible rfl)
                  simp only [List.setIfInBounds_toArray, List.set_cons_succ, List.set_cons_zero]
                  refine takeAtQ 18 192 (v := ?v_r47x721_18) rfl rfl (by kernel_rfl) (by kernel_rfl) (by kernel_rfl) (fun _ _ _ h => h) (Or.inl ⟨by rfl, ?hy_r47x721_18⟩) (by assumption) ?rest_r47x721_18
                  case hy_r47x721_18 => (intro w hSw; (try dsimp only at hSw); go_simp; first | done | with_reducible rfl)
                  simp only [List.setIfInBounds_toArray, List.set_cons_succ, List.set_cons_zero]
                  refine takeAtQ 19 193 (v := ?v_r47x721_19) rfl rfl (by kernel_rfl) (by kernel_rfl) (by kernel_rfl) (fun _ _ _ h => h) (Or.inl ⟨by rfl, ?hy_r47x721_19⟩) (by assumption) ?rest_r47x721_19
                  case hy_r47x721_19 => (intro w hSw; (try dsimp only at hSw); go_simp; first | done | with_reducible rfl)
                  simp only [List.setIfInBounds_toArray, List.set_cons_succ, List.set_cons_zero]
                  refine takeAtQ 20 194 (v := ?v_r47x721_20) rfl rfl (by kernel_rfl) (by kernel_rfl) (by kernel_rfl) (fun _ _ _ h => h) (Or.inl ⟨by rfl, ?hy_r47x721_20⟩) (by assumption) ?rest_r47x721_20
                  case hy_r47x721_20 => (intro w hSw; (try dsimp only at hSw); go_simp; first | done | with_reducible rfl)
                  simp only [List.setIfInBounds_toArray, List.set_cons_succ, List.set_cons_zero]
                  refine takeAtQ 21 195 (v := ?v_r47x721_21) rfl rfl (by kernel_rfl) (by kernel_rfl) (by kernel_rfl) (fun _ _ _ h => h) (Or.inl ⟨by rfl, ?hy_r47x721_21⟩) (by assumption) ?rest_r47x721_21
                  case hy_r47x721_21 => (intro w hSw; (try dsimp only at hSw); go_simp; first | done | with_reducible rfl)
                  simp only [List.setIfInBounds_toArray, List.set_cons_succ, List.set_cons_zero]
                  refine takeAtQ 22 196 (v := ?v_r47x721_22) rfl rfl (by kernel_rfl) (by kernel_rfl) (by kernel_rfl) (fun _ _ _ h => h) (Or.inl ⟨by rfl, ?hy_r47x721_22⟩) (by assumption) ?rest_r47x721_22
                  case hy_r47x721_22 => (intro w hSw; (try dsimp only at hSw); go_simp; first | done | with_reducible rfl)
                  simp only [List.setIfInBounds_toArray, List.set_cons_succ, List.set_cons_zero]
                  refine takeAtQ 23 197 (v := ?v_r47x721_23) rfl rfl (by kernel_rfl) (by kernel_rfl) (by kernel_rfl) (fun _ _ _ h => h) (Or.inl ⟨by rfl, ?hy_r47x721_23⟩) (by assumption) ?rest_r47x721_23
                  case hy_r47x721_23 => (intro w hSw; (try dsimp only at hSw); go_simp; first | done | with_reducible rfl)
                  simp only [List.setIfInBounds_toArray, List.set_cons_succ, List.set_cons_zero]
                  refine takeAtQ 24 198 (v := ?v_r47x721_24) rfl rfl (by kernel_rfl) (by kernel_rfl) (by kernel_rfl) (fun _ _ _ h => h) (Or.inl ⟨by rfl, ?hy_r47x721_24⟩) (by assumption) ?rest_r47x721_24
                  case hy_r47x721_24 => (intro w hSw; (try dsimp only at hSw); go_simp; first | done | with_reducible rfl)
                  simp only [List.setIfInBounds_toArray, List.set_cons_succ, List.set_cons_zero]
                  refine takeAtQ 25 199 (v := ?v_r47x721_25) rfl rfl (by kernel_rfl) (by kernel_rfl) (by kernel_rfl) (fun _ _ _ h => h) (Or.inl ⟨by rfl, ?hy_r47x721_25⟩) (by assumption) ?rest_r47x721_25
                  case hy_r47x721_25 => (intro w hSw; (try dsimp only at hSw); go_simp; first | done | with_reducible rfl)
                  simp only [List.setIfInBounds_toArray, List.set_cons_succ, List.set_cons_zero]
                  refine takeAtQ 26 200 (v := ?v_r47x721_26) rfl rfl (by kernel_rfl) (by kernel_rfl) (by kernel_rfl) (fun _ _ _ h => h) (Or.inl ⟨by rfl, ?hy_r47x721_26⟩) (by assumption) ?rest_r47x721_26
                  case hy_r47x721_26 => (intro w hSw; (try dsimp only at hSw); go_simp; first | done | with_reducible rfl)
                  simp only [List.setIfInBounds_toArray, List.set_cons_succ, List.set_cons_zero]
                  refine takeAtQ 27 201 (v := ?v_r47x721_27) rfl rfl (by kernel_rfl) (by kernel_rfl) (by kernel_rfl) (fun _ _ _ h => h) (Or.inl ⟨by rfl, ?hy_r47x721_27⟩) (by assumption) ?rest_r47x721_27
                  case hy_r47x721_27 => (intro w hSw; (try dsimp only at hSw); go_simp; first | done | with_reducible rfl)
                  simp only [List.setIfInBounds_toArray, List.set_cons_succ, List.set_cons_zero]
                  refine takeAtQ 28 202 (v := ?v_r47x721_28) rfl rfl (by kernel_rfl) (by kernel_rfl) (by kernel_rfl) (fun _ _ _ h => h) (Or.inl ⟨by rfl, ?hy_r47x721_28⟩) (by assumption) ?rest_r47x721_28
                  case hy_r47x721_28 => (intro w hSw; (try dsimp only at hSw); go_simp; first | done | with_reducible rfl)
                  simp only [List.setIfInBounds_toArray, List.set_cons_succ, List.set_cons_zero]
                  refine takeAtQ 29 203 (v := ?v_r47x721_29) rfl rfl (by kernel_rfl) (by kernel_rfl) (by kernel_rfl) (fun _ _ _ h => h) (Or.inl ⟨by rfl, ?hy_r47x721_29⟩) (by assumption) ?rest_r47x721_29
                  case hy_r47x721_29 => (intro w hSw; (try dsimp only at hSw); go_simp; first | done | with_reducible rfl)
                  simp only [List.setIfInBounds_toArray, List.set_cons_succ, List.set_cons_zero]
                  refine takeAtQ 30 204 (v := undef) rfl rfl (by kernel_rfl) (by kernel_rfl) (by kernel_rfl) (fun _ _ _ h => h) (Or.inr ⟨by rfl, rfl⟩) (by assumption) ?rest_r47x721_30
                  simp only [List.setIfInBounds_toArray, List.set_cons_succ, List.set_cons_zero]
                  refine takeAtQ 31 205 (v := undef) rfl rfl (by kernel_rfl) (by kernel_rfl) (by kernel_rfl) (fun _ _ _ h => h) (Or.inr ⟨by rfl, rfl⟩) (by assumption) ?rest_r47x721_31
                  simp only [List.setIfInBounds_toArray, List.set_cons_succ, List.set_cons_zero]
                  refine takeAtQ 32 206 (v := undef) rfl rfl (by kernel_rfl) (by kernel_rfl) (by kernel_rfl) (fun _ _ _ h => h) (Or.inr ⟨by rfl, rfl⟩) (by assumption) ?rest_r47x721_32
                  simp only [List.setIfInBounds_toArray, List.set_cons_succ, List.set_cons_zero]
                  refine takeAtQ 33 207 (v := undef) rfl rfl (by kernel_rfl) (by kernel_rfl) (by kernel_rfl) (fun _ _ _ h => h) (Or.inr ⟨by rfl, rfl⟩) (by assumption) ?rest_r47x721_33
                  simp only [List.setIfInBounds_toArray, List.set_cons_succ, List.set_cons_zero]
                  refine takeAtQ 34 208 (v := undef) rfl rfl (by kernel_rfl) (by kernel_rfl) (by kernel_rfl) (fun _ _ _ h => h) (Or.inr ⟨by rfl, rfl⟩) (by assumption) ?rest_r47x721_34
                  simp only [List.setIfInBounds_toArray, List.set_cons_succ, List.set_cons_zero]
                  refine takeAtQ 35 209 (v := undef) rfl rfl (by kernel_rfl) (by kernel_rfl) (by kernel_rfl) (fun _ _ _ h => h) (Or.inr ⟨by rfl, rfl⟩) (by assumption) ?rest_r47x721_35
                  simp only [List.setIfInBounds_toArray, List.set_cons_succ, List.set_cons_zero]
                  refine takeAtQ 36 210 (v := undef) rfl rfl (by kernel_rfl) (by kernel_rfl) (by kernel_rfl) (fun _ _ _ h => h) (Or.inr ⟨by rfl, rfl⟩) (by assumption) ?rest_r47x721_36
                  simp only [List.setIfInBounds_toArray, List.set_cons_succ, List.set_cons_zero]
                  refine takeAtQ 37 211 (v := undef) rfl rfl (by kernel_rfl) (by kernel_rfl) (by kernel_rfl) (fun _ _ _ h => h) (Or.inr ⟨by rfl, rfl⟩) (by assumption) ?rest_r47x721_37
                  simp only [List.setIfInBounds_toArray, List.set_cons_succ, List.set_cons_zero]
                  refine takeAtQ 38 212 (v := undef) rfl rfl (by kernel_rfl) (by kernel_rfl) (by kernel_rfl) (fun _ _ _ h => h) (Or.inr ⟨by rfl, rfl⟩) (by assumption) ?rest_r47x721_38
                  simp only [List.setIfInBounds_toArray, List.set_cons_succ, List.set_cons_zero]
                  refine takeAtQ 39 213 (v := undef) rfl rfl (by kernel_rfl) (by kernel_rfl) (by kernel_rfl) (fun _ _ _ h => h) (Or.inr ⟨by rfl, rfl⟩) (by assumption) ?rest_r47x721_39
                  simp only [List.setIfInBounds_toArray, List.set_cons_succ, List.set_cons_zero]
                  refine takeAtQ 40 214 (v := ?v_r47x721_40) rfl rfl (by kernel_rfl) (by kernel_rfl) (by kernel_rfl) (fun _ _ _ h => h) (Or.inl ⟨by rfl, ?hy_r47x721_40⟩) (by assumption) ?rest_r47x721_40
                  case hy_r47x721_40 => (intro w hSw; (try dsimp only at hSw); go_simp; first | done | with_reducible rfl)
                  simp only [List.setIfInBounds_toArray, List.set_cons_succ, List.set_cons_zero]
                  refine takeAtQ 41 215 (v := ?v_r47x721_41) rfl rfl (by kernel_rfl) (by kernel_rfl) (by kernel_rfl) (fun _ _ _ h => h) (Or.inl ⟨by rfl, ?hy_r47x721_41⟩) (by assumption) ?rest_r47x721_41
                  case hy_r47x721_41 => (intro w hSw; (try dsimp only at hSw); go_simp; first | done | with_reducible rfl)
                  simp only [List.setIfInBounds_toArray, List.set_cons_succ, List.set_cons_zero]
                  refine wpAnyH_done (by kernel_rfl) ?_ _
                  clear hHeld
                  have HL1 := hide (HLt.out.old HC.out (below_drewN (Below.refl _ _) 1))
                  change Hid (Ls NAt w.heap.size w wr.drew p q (k + 1) st2 F2 f2 la (some ⟨br, orr, none⟩)) at HL1
                  clear HLt k1 k2 hr1 hr2
                  generalize wr.drew = z1 at *
                  go_wp2_with fail
                  exact ⟨⟨t + 1, by omega, Or.inl (by omega), by go_num, HL1.out⟩, by simp [intOf]; omega⟩
                · as_aux_lemma =>
                  have hcC : decide (yi ≤ xi) = false := by simp; omega
                  have hgq : xg = yg := by omega
                  subst hgq
                  generalize (m2 : Int) - (xg : Int) = D1 at *
                  clear hah hgg hg1 hg2 htm
                  go_wp2_with fail
                  refine wp_region_held_drew (S := fun z => z.cell? ⟨br, orr + tm, none⟩ = some (.int .u64 (xi : Int)) ∧ z.cell? ⟨br, orr + t, none⟩ = some (.int .u64 (yi : Int)) ∧ (Instr.lookup 56 (.map (some q)) (.int .u64 (xi : Int)) false).run Try.prog z = .ok (.int .i64 D1) z ∧ (Instr.lookup 56 (.map (some q)) (.int .u64 (yi : Int)) false).run Try.prog z = .ok (.int .i64 D1) z) (by kernel_rfl) (⟨k1, k2, hr1, hr2⟩) (fun hHeld => ?_)
                  (try dsimp only at hHeld)
                  refine takeAtQ 0 174 (v := ?v_r47x854_0) rfl rfl (by kernel_rfl) (by kernel_rfl) (by kernel_rfl) (fun _ _ _ h => h) (Or.inl ⟨by rfl, ?hy_r47x854_0⟩) (by assumption) ?rest_r47x854_0
                  case hy_r47x854_0 => (intro w hSw; (try dsimp only at hSw); go_simp; first | done | with_reducible rfl)
                  simp only [List.setIfInBounds_toArray, List.set_cons_succ, List.set_cons_zero]
                  refine takeAtQ 1 175 (v := ?v_r47x854_1) rfl rfl (by kernel_rfl) (by kernel_rfl) (by kernel_rfl) (fun _ _ _ h => h) (Or.inl ⟨by rfl, ?hy_r47x854_1⟩) (by assumption) ?rest_r47x854_1
                  case hy_r47x854_1 => (intro w hSw; (try dsimp only at hSw); go_simp; first | done | with_reducible rfl)
                  simp only [List.setIfInBounds_toArray, List.set_cons_succ, List.set_cons_zero]
                  refine takeAtQ 2 176 (v := ?v_r47x854_2) rfl rfl (by kernel_rfl) (by kernel_rfl) (by kernel_rfl) (fun _ _ _ h => h) (Or.inl ⟨by rfl, ?hy_r47x854_2⟩) (by assumption) ?rest_r47x854_2
                  case hy_r47x854_2 => (intro w hSw; (try dsimp only at hSw); go_simp; first | done | with_reducible rfl)
                  simp only [List.setIfInBounds_toArray, List.set_cons_succ, List.set_cons_zero]
                  refine takeAtQ 3 177 (v := ?v_r47x854_3) rfl rfl (by kernel_rfl) (by kernel_rfl) (by kernel_rfl) (fun _ _ _ h => h) (Or.inl ⟨by rfl, ?hy_r47x854_3⟩) (by assumption) ?rest_r47x854_3
                  case hy_r47x854_3 => (intro w hSw; (try dsimp only at hSw); go_simp; first | done | with_reducible rfl)
                  simp only [List.setIfInBounds_toArray, List.set_cons_succ, List.set_cons_zero]
                  refine takeAtQ 4 178 (v := ?v_r47x854_4) rfl rfl (by kernel_rfl) (by kernel_rfl) (by kernel_rfl) (fun _ _ _ h => h) (Or.inl ⟨by rfl, ?hy_r47x854_4⟩) (by assumption) ?rest_r47x854_4
                  case hy_r47x854_4 => (intro w hSw; (try dsimp only at hSw); go_simp; first | done | with_reducible rfl)
                  simp only [List.setIfInBounds_toArray, List.set_cons_succ, List.set_cons_zero]
                  refine takeAtQ 5 179 (v := ?v_r47x854_5) rfl rfl (by kernel_rfl) (by kernel_rfl) (by kernel_rfl) (fun _ _ _ h => h) (Or.inl ⟨by rfl, ?hy_r47x854_5⟩) (by assumption) ?rest_r47x854_5
                  case hy_r47x854_5 => (intro w hSw; (try dsimp only at hSw); go_simp; first | done | with_reducible rfl)
                  simp only [List.setIfInBounds_toArray, List.set_cons_succ, List.set_cons_zero]
                  refine takeAtQ 6 180 (v := ?v_r47x854_6) rfl rfl (by kernel_rfl) (by kernel_rfl) (by kernel_rfl) (fun _ _ _ h => h) (Or.inl ⟨by rfl, ?hy_r47x854_6⟩) (by assumption) ?rest_r47x854_6
                  case hy_r47x854_6 => (intro w hSw; (try dsimp only at hSw); go_simp; first | done | with_reducible rfl)
                  simp only [List.setIfInBounds_toArray, List.set_cons_succ, List.set_cons_zero]
                  refine takeAtQ 7 181 (v := ?v_r47x854_7) rfl rfl (by kernel_rfl) (by kernel_rfl) (by kernel_rfl) (fun _ _ _ h => h) (Or.inl ⟨by rfl, ?hy_r47x854_7⟩) (by assumption) ?rest_r47x854_7
                  case hy_r47x854_7 => (intro w hSw; (try dsimp only at hSw); go_simp; first | done | with_reducible rfl)
                  simp only [List.setIfInBounds_toArray, List.set_cons_succ, List.set_cons_zero]
                  refine takeAtQ 8 182 (v := ?v_r47x854_8) rfl rfl (by kernel_rfl) (by kernel_rfl) (by kernel_rfl) (fun _ _ _ h => h) (Or.inl ⟨by rfl, ?hy_r47x854_8⟩) (by assumption) ?rest_r47x854_8
                  case hy_r47x854_8 => (intro w hSw; (try dsimp only at hSw); go_simp; first | done | with_reducible rfl)
                  simp only [List.setIfInBounds_toArray, List.set_cons_succ, List.set_cons_zero]
                  refine takeAtQ 9 183 (v := ?v_r47x854_9) rfl rfl (by kernel_rfl) (by kernel_rfl) (by kernel_rfl) (fun _ _ _ h => h) (Or.inl ⟨by rfl, ?hy_r47x854_9⟩) (by assumption) ?rest_r47x854_9
                  case hy_r47x854_9 => (intro w hSw; (try dsimp only at hSw); go_simp; first | done | with_reducible rfl)
                  simp only [List.setIfInBounds_toArray, List.set_cons_succ, List.set_cons_zero]
                  refine takeAtQ 10 184 (v := ?v_r47x854_10) rfl rfl (by kernel_rfl) (by kernel_rfl) (by kernel_rfl) (fun _ _ _ h => h) (Or.inl ⟨by rfl, ?hy_r47x854_10⟩) (by assumption) ?rest_r47x854_10
                  case hy_r47x854_10 => (intro w hSw; (try dsimp only at hSw); go_simp; first | done | with_reducible rfl)
                  simp only [List.setIfInBounds_toArray, List.set_cons_succ, List.set_cons_zero]
                  refine takeAtQ 11 185 (v := ?v_r47x854_11) rfl rfl (by kernel_rfl) (by kernel_rfl) (by kernel_rfl) (fun _ _ _ h => h) (Or.inl ⟨by rfl, ?hy_r47x854_11⟩) (by assumption) ?rest_r47x854_11
                  case hy_r47x854_11 => (intro w hSw; (try dsimp only at hSw); go_simp; first | done | with_reducible rfl)
                  simp only [List.setIfInBounds_toArray, List.set_cons_succ, List.set_cons_zero]
                  refine takeAtQ 12 186 (v := ?v_r47x854_12) rfl rfl (by kernel_rfl) (by kernel_rfl) (by kernel_rfl) (fun _ _ _ h => h) (Or.inl ⟨by rfl, ?hy_r47x854_12⟩) (by assumption) ?rest_r47x854_12
                  case hy_r47x854_12 => (intro w hSw; (try dsimp only at hSw); go_simp; first | done | with_reducible rfl)
                  simp only [List.setIfInBounds_toArray, List.set_cons_succ, List.set_cons_zero]
                  refine takeAtQ 13 187 (v := ?v_r47x854_13) rfl rfl (by kernel_rfl) (by kernel_rfl) (by kernel_rfl) (fun _ _ _ h => h) (Or.inl ⟨by rfl, ?hy_r47x854_13⟩) (by assumption) ?rest_r47x854_13
                  case hy_r47x854_13 => (intro w hSw; (try dsimp only at hSw); go_simp; first | done | with_reducible rfl)
                  simp only [List.setIfInBounds_toArray, List.set_cons_succ, List.set_cons_zero]
                  refine takeAtQ 14 188 (v := ?v_r47x854_14) rfl rfl (by kernel_rfl) (by kernel_rfl) (by kernel_rfl) (fun _ _ _ h => h) (Or.inl ⟨by rfl, ?hy_r47x854_14⟩) (by assumption) ?rest_r47x854_14
                  case hy_r47x854_14 => (intro w hSw; (try dsimp only at hSw); go_simp; first | done | with_reducible rfl)
                  simp only [List.setIfInBounds_toArray, List.set_cons_succ, List.set_cons_zero]
                  refine takeAtQ 15 189 (v := ?v_r47x854_15) rfl rfl (by kernel_rfl) (by kernel_rfl) (by kernel_rfl) (fun _ _ _ h => h) (Or.inl ⟨by rfl, ?hy_r47x854_15⟩) (by assumption) ?rest_r47x854_15
                  case hy_r47x854_15 => (intro w hSw; (try dsimp only at hSw); go_simp; first | done | with_reducible rfl)
                  simp only [List.setIfInBounds_toArray, List.set_cons_succ, List.set_cons_zero]
                  refine takeAtQ 16 190 (v := ?v_r47x854_16) rfl rfl (by kernel_rfl) (by kernel_rfl) (by kernel_rfl) (fun _ _ _ h => h) (Or.inl ⟨by rfl, ?hy_r47x854_16⟩) (by assumption) ?rest_r47x854_16
                  case hy_r47x854_16 => (intro w hSw; (try dsimp only at hSw); go_simp; first | done | with_reducible rfl)
                  simp only [List.setIfInBounds_toArray, List.set_cons_succ, List.set_cons_zero]
                  refine takeAtQ 17 191 (v := ?v_r47x854_17) rfl rfl (by kernel_rfl) (by kernel_rfl) (by kernel_rfl) (fun _ _ _ h => h) (Or.inl ⟨by rfl, ?hy_r47x854_17⟩) (by assumption) ?rest_r47x854_17
                  case hy_r47x854_17 => (intro w hSw; (try dsimp only at hSw); go_simp; first | done | with_reducible rfl)
                  simp only [List.setIfInBounds_toArray, List.set_cons_succ, List.set_cons_zero]
                  refine takeAtQ 18 192 (v := ?v_r47x854_18) rfl rfl (by kernel_rfl) (by kernel_rfl) (by kernel_rfl) (fun _ _ _ h => h) (Or.inl ⟨by rfl, ?hy_r47x854_18⟩) (by assumption) ?rest_r47x854_18
                  case hy_r47x854_18 => (intro w hSw; (try dsimp only at hSw); go_simp; first | done | with_reducible rfl)
                  simp only [List.setIfInBounds_toArray, List.set_cons_succ, List.set_cons_zero]
                  refine takeAtQ 19 193 (v := ?v_r47x854_19) rfl rfl (by kernel_rfl) (by kernel_rfl) (by kernel_rfl) (fun _ _ _ h => h) (Or.inl ⟨by rfl, ?hy_r47x854_19⟩) (by assumption) ?rest_r47x854_19
                  case hy_r47x854_19 => (intro w hSw; (try dsimp only at hSw); go_simp; first | done | with_reducible rfl)
                  simp only [List.setIfInBounds_toArray, List.set_cons_succ, List.set_cons_zero]
                  refine takeAtQ 20 194 (v := ?v_r47x854_20) rfl rfl (by kernel_rfl) (by kernel_rfl) (by kernel_rfl) (fun _ _ _ h => h) (Or.inl ⟨by rfl, ?hy_r47x854_20⟩) (by assumption) ?rest_r47x854_20
                  case hy_r47x854_20 => (intro w hSw; (try dsimp only at hSw); go_simp; first | done | with_reducible rfl)
                  simp only [List.setIfInBounds_toArray, List.set_cons_succ, List.set_cons_zero]
                  refine takeAtQ 21 195 (v := ?v_r47x854_21) rfl rfl (by kernel_rfl) (by kernel_rfl) (by kernel_rfl) (fun _ _ _ h => h) (Or.inl ⟨by rfl, ?hy_r47x854_21⟩) (by assumption) ?rest_r47x854_21
                  case hy_r47x854_21 => (intro w hSw; (try dsimp only at hSw); go_simp; first | done | with_reducible rfl)
                  simp only [List.setIfInBounds_toArray, List.set_cons_succ, List.set_cons_zero]
                  refine takeAtQ 22 196 (v := ?v_r47x854_22) rfl rfl (by kernel_rfl) (by kernel_rfl) (by kernel_rfl) (fun _ _ _ h => h) (Or.inl ⟨by rfl, ?hy_r47x854_22⟩) (by assumption) ?rest_r47x854_22
                  case hy_r47x854_22 => (intro w hSw; (try dsimp only at hSw); go_simp; first | done | with_reducible rfl)
                  simp only [List.setIfInBounds_toArray, List.set_cons_succ, List.set_cons_zero]
                  refine takeAtQ 23 197 (v := ?v_r47x854_23) rfl rfl (by kernel_rfl) (by kernel_rfl) (by kernel_rfl) (fun _ _ _ h => h) (Or.inl ⟨by rfl, ?hy_r47x854_23⟩) (by assumption) ?rest_r47x854_23
                  case hy_r47x854_23 => (intro w hSw; (try dsimp only at hSw); go_simp; first | done | with_reducible rfl)
                  simp only [List.setIfInBounds_toArray, List.set_cons_succ, List.set_cons_zero]
                  refine takeAtQ 24 198 (v := ?v_r47x854_24) rfl rfl (by kernel_rfl) (by kernel_rfl) (by kernel_rfl) (fun _ _ _ h => h) (Or.inl ⟨by rfl, ?hy_r47x854_24⟩) (by assumption) ?rest_r47x854_24
                  case hy_r47x854_24 => (intro w hSw; (try dsimp only at hSw); go_simp; first | done | with_reducible rfl)
                  simp only [List.setIfInBounds_toArray, List.set_cons_succ, List.set_cons_zero]
                  refine takeAtQ 25 199 (v := ?v_r47x854_25) rfl rfl (by kernel_rfl) (by kernel_rfl) (by kernel_rfl) (fun _ _ _ h => h) (Or.inl ⟨by rfl, ?hy_r47x854_25⟩) (by assumption) ?rest_r47x854_25
                  case hy_r47x854_25 => (intro w hSw; (try dsimp only at hSw); go_simp; first | done | with_reducible rfl)
                  simp only [List.setIfInBounds_toArray, List.set_cons_succ, List.set_cons_zero]
                  refine takeAtQ 26 200 (v := ?v_r47x854_26) rfl rfl (by kernel_rfl) (by kernel_rfl) (by kernel_rfl) (fun _ _ _ h => h) (Or.inl ⟨by rfl, ?hy_r47x854_26⟩) (by assumption) ?rest_r47x854_26
                  case hy_r47x854_26 => (intro w hSw; (try dsimp only at hSw); go_simp; first | done | with_reducible rfl)
                  simp only [List.setIfInBounds_toArray, List.set_cons_succ, List.set_cons_zero]
                  refine takeAtQ 27 201 (v := ?v_r47x854_27) rfl rfl (by kernel_rfl) (by kernel_rfl) (by kernel_rfl) (fun _ _ _ h => h) (Or.inl ⟨by rfl, ?hy_r47x854_27⟩) (by assumption) ?rest_r47x854_27
                  case hy_r47x854_27 => (intro w hSw; (try dsimp only at hSw); go_simp; first | done | with_reducible rfl)
                  simp only [List.setIfInBounds_toArray, List.set_cons_succ, List.set_cons_zero]
                  refine takeAtQ 28 202 (v := ?v_r47x854_28) rfl rfl (by kernel_rfl) (by kernel_rfl) (by kernel_rfl) (fun _ _ _ h => h) (Or.inl ⟨by rfl, ?hy_r47x854_28⟩) (by assumption) ?rest_r47x854_28
                  case hy_r47x854_28 => (intro w hSw; (try dsimp only at hSw); go_simp; first | done | with_reducible rfl)
                  simp only [List.setIfInBounds_toArray, List.set_cons_succ, List.set_cons_zero]
                  refine takeAtQ 29 203 (v := ?v_r47x854_29) rfl rfl (by kernel_rfl) (by kernel_rfl) (by kernel_rfl) (fun _ _ _ h => h) (Or.inl ⟨by rfl, ?hy_r47x854_29⟩) (by assumption) ?rest_r47x854_29
                  case hy_r47x854_29 => (intro w hSw; (try dsimp only at hSw); go_simp; first | done | with_reducible rfl)
                  simp only [List.setIfInBounds_toArray, List.set_cons_succ, List.set_cons_zero]
                  refine takeAtQ 30 204 (v := ?v_r47x854_30) rfl rfl (by kernel_rfl) (by kernel_rfl) (by kernel_rfl) (fun _ _ _ h => h) (Or.inl ⟨by rfl, ?hy_r47x854_30⟩) (by assumption) ?rest_r47x854_30
                  case hy_r47x854_30 => (intro w hSw; (try dsimp only at hSw); go_simp; first | done | with_reducible rfl)
                  simp only [List.setIfInBounds_toArray, List.set_cons_succ, List.set_cons_zero]
                  refine takeAtQ 31 205 (v := ?v_r47x854_31) rfl rfl (by kernel_rfl) (by kernel_rfl) (by kernel_rfl) (fun _ _ _ h => h) (Or.inl ⟨by rfl, ?hy_r47x854_31⟩) (by assumption) ?rest_r47x854_31
                  case hy_r47x854_31 => (intro w hSw; (try dsimp only at hSw); go_simp; first | done | with_reducible rfl)
                  simp only [List.setIfInBounds_toArray, List.set_cons_succ, List.set_cons_zero]
                  refine takeAtQ 32 206 (v := ?v_r47x854_32) rfl rfl (by kernel_rfl) (by kernel_rfl) (by kernel_rfl) (fun _ _ _ h => h) (Or.inl ⟨by rfl, ?hy_r47x854_32⟩) (by assumption) ?rest_r47x854_32
                  case hy_r47x854_32 => (intro w hSw; (try dsimp only at hSw); go_simp; first | done | with_reducible rfl)
                  simp only [List.setIfInBounds_toArray, List.set_cons_succ, List.set_cons_zero]
                  refine takeAtQ 33 207 (v := ?v_r47x854_33) rfl rfl (by kernel_rfl) (by kernel_rfl) (by kernel_rfl) (fun _ _ _ h => h) (Or.inl ⟨by rfl, ?hy_r47x854_33⟩) (by assumption) ?rest_r47x854_33
                  case hy_r47x854_33 => (intro w hSw; (try dsimp only at hSw); go_simp; first | done | with_reducible rfl)
                  simp only [List.setIfInBounds_toArray, List.set_cons_succ, List.set_cons_zero]
                  refine takeAtQ 34 208 (v := ?v_r47x854_34) rfl rfl (by kernel_rfl) (by kernel_rfl) (by kernel_rfl) (fun _ _ _ h => h) (Or.inl ⟨by rfl, ?hy_r47x854_34⟩) (by assumption) ?rest_r47x854_34
                  case hy_r47x854_34 => (intro w hSw; (try dsimp only at hSw); go_simp; first | done | with_reducible rfl)
                  simp only [List.setIfInBounds_toArray, List.set_cons_succ, List.set_cons_zero]
                  refine takeAtQ 35 209 (v := ?v_r47x854_35) rfl rfl (by kernel_rfl) (by kernel_rfl) (by kernel_rfl) (fun _ _ _ h => h) (Or.inl ⟨by rfl, ?hy_r47x854_35⟩) (by assumption) ?rest_r47x854_35
                  case hy_r47x854_35 => (intro w hSw; (try dsimp only at hSw); go_simp; first | done | with_reducible rfl)
                  simp only [List.setIfInBounds_toArray, List.set_cons_succ, List.set_cons_zero]
                  refine takeAtQ 36 210 (v := ?v_r47x854_36) rfl rfl (by kernel_rfl) (by kernel_rfl) (by kernel_rfl) (fun _ _ _ h => h) (Or.inl ⟨by rfl, ?hy_r47x854_36⟩) (by assumption) ?rest_r47x854_36
                  case hy_r47x854_36 => (intro w hSw; (try dsimp only at hSw); go_simp; first | done | with_reducible rfl)
                  simp only [List.setIfInBounds_toArray, List.set_cons_succ, List.set_cons_zero]
                  refine takeAtQ 37 211 (v := ?v_r47x854_37) rfl rfl (by kernel_rfl) (by kernel_rfl) (by kernel_rfl) (fun _ _ _ h => h) (Or.inl ⟨by rfl, ?hy_r47x854_37⟩) (by assumption) ?rest_r47x854_37
                  case hy_r47x854_37 => (intro w hSw; (try dsimp only at hSw); go_simp; first | done | with_reducible rfl)
                  simp only [List.setIfInBounds_toArray, List.set_cons_succ, List.set_cons_zero]
                  refine takeAtQ 38 212 (v := ?v_r47x854_38) rfl rfl (by kernel_rfl) (by kernel_rfl) (by kernel_rfl) (fun _ _ _ h => h) (Or.inl ⟨by rfl, ?hy_r47x854_38⟩) (by assumption) ?rest_r47x854_38
                  case hy_r47x854_38 => (intro w hSw; (try dsimp only at hSw); go_simp; first | done | with_reducible rfl)
                  simp only [List.setIfInBounds_toArray, List.set_cons_succ, List.set_cons_zero]
                  refine takeAtQ 39 213 (v := ?v_r47x854_39) rfl rfl (by kernel_rfl) (by kernel_rfl) (by kernel_rfl) (fun _ _ _ h => h) (Or.inl ⟨by rfl, ?hy_r47x854_39⟩) (by assumption) ?rest_r47x854_39
                  case hy_r47x854_39 => (intro w hSw; (try dsimp only at hSw); go_simp; first | done | with_reducible rfl)
                  simp only [List.setIfInBounds_toArray, List.set_cons_succ, List.set_cons_zero]
                  refine takeAtQ 40 214 (v := ?v_r47x854_40) rfl rfl (by kernel_rfl) (by kernel_rfl) (by kernel_rfl) (fun _ _ _ h => h) (Or.inl ⟨by rfl, ?hy_r47x854_40⟩) (by assumption) ?rest_r47x854_40
                  case hy_r47x854_40 => (intro w hSw; (try dsimp only at hSw); go_simp; first | done | with_reducible rfl)
                  simp only [List.setIfInBounds_toArray, List.set_cons_succ, List.set_cons_zero]
                  refine takeAtQ 41 215 (v := ?v_r47x854_41) rfl rfl (by kernel_rfl) (by kernel_rfl) (by kernel_rfl) (fun _ _ _ h => h) (Or.inl ⟨by rfl, ?hy_r47x854_41⟩) (by assumption) ?rest_r47x854_41
                  case hy_r47x854_41 => (intro w hSw; (try dsimp only at hSw); go_simp; first | done | with_reducible rfl)
                  simp only [List.setIfInBounds_toArray, List.set_cons_succ, List.set_cons_zero]
                  refine wpAnyH_done (by kernel_rfl) ?_ _
                  clear hHeld
                  have HL1 := hide (HLt.out.old HC.out (below_drewN (Below.refl _ _) 1))
                  change Hid (Ls NAt w.heap.size w wr.drew p q (k + 1) st2 F2 f2 la (some ⟨br, orr, none⟩)) at HL1
                  clear HLt k1 k2 hr1 hr2
                  generalize wr.drew = z1 at *
                  go_wp2_with fail
                  exact ⟨⟨t + 1, by omega, Or.inl (by omega), by go_num, HL1.out⟩, by simp [intOf]; omega⟩
              · have htz : ¬ (t : Int) < (st2.ready.length : Int) := by omega
                go_wp2_with fail
                have HO9 := hide HLt.out.on
                clear HLt
                exact ⟨⟨k + 1, m2, st2, F2, f2, hlt, by go_num, rfl, hm2, HO9.out, HB2.out⟩, by simp [intOf]; omega⟩
      · go_wp2_with fail
        refine (alive_any HC.out _).mono ?_
        rintro e w5 ⟨rfl, hb⟩
        have HB := hide (HO.out.below.trans (hb.mono HO.out.size))
        clear hb
        go_wp2
        go_ret
        exact ⟨rfl, HB.out⟩
end Go.Proofs.Ytdfioggeiagihaa
