/- The law BlockEnds, over the contracts. -/
import Derived.Test.YtffniclijiekkaaMany
namespace Go.Proofs.Ytffniclijiekkaa
open Go Go.RowKit
/-- A write on one of several disks. -/
theorem write_many {DAt : World → Nat → St → (Nat → Prop) → Prop} (C : Con DAt) {S : List ByteArray} {L : List (Nat × ByteArray)} {m c p : Nat} {st : St} (hst : st = ⟨S, L, -1⟩) (hok : (⟨S, L, -1⟩ : St).Ok) (hL : L.length ≤ 200) (hm : m < S.length) (h16 : m < 16) (z : World) (F : Nat → Prop) (hd : DAt z p st F) :
    Calls Try.prog 16 #[.pointer (some ⟨p, 0, none⟩), .int .i64 (m : Int), .string (fullT c)] z fun e v => e = .returned (.int .i64 0) ∧ ∃ F', DAt v p ⟨S, L ++ [(m, fullT c)], -1⟩ F' ∧ Loc F F' z v := by
  subst hst
  exact write_one C hok hL hm h16 z F hd
theorem sync_is (S : List ByteArray) (L : List (Nat × ByteArray)) : (⟨S, L, -1⟩ : St).sync = (0, ⟨laid S L, [], -1⟩) := by
  unfold St.sync
  rw [if_neg (show ¬ ((-1 : Int) = 0) from by omega)]
  rfl
theorem few_wrs (n : Nat) (l : List Stp) (h : l.length ≤ 200) : (wrs n l).length ≤ 200 := by unfold wrs; rw [List.length_map]; exact h
/-- A Sync of one of several disks. -/
theorem sync_many {DAt : World → Nat → St → (Nat → Prop) → Prop} (C : Con DAt) {S : List ByteArray} {L : List (Nat × ByteArray)} {p : Nat} {st : St} (hst : st = ⟨S, L, -1⟩) (hok : (⟨S, L, -1⟩ : St).Ok) (hL : L.length ≤ 200) (z : World) (F : Nat → Prop) (hd : DAt z p st F) :
    Calls Try.prog 18 #[.pointer (some ⟨p, 0, none⟩)] z fun e v => e = .returned (.int .i64 0) ∧ ∃ F', DAt v p ⟨laid S L, [], -1⟩ F' ∧ Loc F F' z v := by
  subst hst
  have g := C.sync p _ F z hd hok (by show L.length ≤ 10000; omega)
  rw [sync_is] at g
  refine g.mono ?_
  rintro e v ⟨rfl, h⟩
  exact ⟨rfl, h⟩
/-- A crash of one of several disks. -/
theorem crash_many {DAt : World → Nat → St → (Nat → Prop) → Prop} (C : Con DAt) {S S' : List ByteArray} {L : List (Nat × ByteArray)} {p c : Nat} {a : Option Addr} {pk : List Int} {st : St} (hst : st = ⟨S, L, -1⟩) (hok : (⟨S, L, -1⟩ : St).Ok) (hL : L.length ≤ 200) (z : World) (F : Nat → Prop) (hd : DAt z p st F) (hI : IntsAt z a pk) (hA : Apart a pk F) (hl : pk.length ≤ 200) (hp : ∀ y ∈ pk, -9223372036854775808 ≤ y ∧ y ≤ 9223372036854775807) (hS : crashed S pk 0 L = S') :
    Calls Try.prog 19 #[.pointer (some ⟨p, 0, none⟩), .slice a pk.length c] z fun e v => e = .returned (.int .i64 0) ∧ ∃ F', DAt v p ⟨S', [], -1⟩ F' ∧ Loc F F' z v := by
  subst hst
  have g := C.crash p _ F a c pk z hd hok (by show L.length ≤ 10000; omega) hI hA (by omega) hp
  refine g.mono ?_
  rintro e v ⟨rfl, F', h1, h2⟩
  refine ⟨rfl, F', ?_, h2⟩
  have e1 : (⟨S, L, -1⟩ : St).crash pk = ⟨S', [], -1⟩ := by
    show (⟨crashed S pk 0 L, [], -1⟩ : St) = _
    rw [hS]
  rw [← e1]
  exact h1
theorem all_256 (t j : Nat) (h : j < t) : (List.replicate t (256 : Int)).getD (0 + j) 0 = 256 := by
  rw [Nat.zero_add, List.getD_eq_getElem?_getD, List.getElem?_replicate, if_pos h, Option.getD_some]
theorem Rowed.ints {w u : World} {Fs : Nat → Nat → Prop} {v : Value} {t : Nat} (R : Rowed w u Fs v t) : ∃ a c, v = .slice a t c ∧ IntsAt u a (List.replicate t (256 : Int)) ∧ ∀ j, j < 3 → Apart a (List.replicate t (256 : Int)) (Fs j) := by
  have e : (List.replicate t (256 : Int)).map (Value.int .i64) = List.replicate t (.int .i64 256) := List.map_replicate
  have el : (List.replicate t (256 : Int)).length = t := List.length_replicate
  obtain ⟨a, c, hv, hi, _⟩ := ints_of_own (l := List.replicate t (256 : Int)) (by rw [e, el]; exact R.own)
  rw [el] at hv
  refine ⟨a, c, hv, hi, fun j hj _ b off ha hf => R.ap j hj b ?_ hf⟩
  rw [hv, ha]
  rfl
/-- What the last row of the law asks of three disks. -/
structure Asked (G : World → Prop) (w : World) (q p0 p1 p2 : Nat) (T X : ByteArray) : Prop where
  old : ∀ z v, G z → Below z.heap.size z v → G v
  cell : ∀ z, G z → z.cell? ⟨q, 0, none⟩ = some (.pointer (some ⟨p0, 0, none⟩)) ∧ z.cell? ⟨q, 1, none⟩ = some (.pointer (some ⟨p1, 0, none⟩)) ∧ z.cell? ⟨q, 2, none⟩ = some (.pointer (some ⟨p2, 0, none⟩))
  s0 : ∀ z, G z → Calls Try.prog 13 #[.pointer (some ⟨p0, 0, none⟩)] z fun e v => e = .returned (.string T) ∧ Below z.heap.size z v
  s1 : ∀ z, G z → Calls Try.prog 13 #[.pointer (some ⟨p1, 0, none⟩)] z fun e v => e = .returned (.string X) ∧ Below z.heap.size z v
  s2 : ∀ z, G z → Calls Try.prog 13 #[.pointer (some ⟨p2, 0, none⟩)] z fun e v => e = .returned (.string X) ∧ Below z.heap.size z v
  below : ∀ z, G z → Below w.heap.size w z
theorem sure_many {DAt : World → Nat → St → (Nat → Prop) → Prop} (C : Con DAt) {S : List ByteArray} {p : Nat} {st : St} {T : ByteArray} (hst : st = ⟨S, [], -1⟩) (hok : (⟨S, [], -1⟩ : St).Ok) (hT : joined S = T) (z : World) (F : Nat → Prop) (hd : DAt z p st F) : Calls Try.prog 13 #[.pointer (some ⟨p, 0, none⟩)] z fun e v => e = .returned (.string T) ∧ Below z.heap.size z v := by
  subst hst
  subst hT
  exact C.sure p _ F z hd hok
theorem Many.asked {DAt : World → Nat → St → (Nat → Prop) → Prop} (C : Con DAt) {w : World} {q : Nat} {P : Nat → Nat} {Fs : Nat → Nat → Prop} {sts : Nat → St} {S1 S2 : List ByteArray} {T X : ByteArray} (h0 : sts 0 = ⟨S1, [], -1⟩) (h1 : sts 1 = ⟨S2, [], -1⟩) (h2 : sts 2 = ⟨S2, [], -1⟩) (k1 : (⟨S1, [], -1⟩ : St).Ok) (k2 : (⟨S2, [], -1⟩ : St).Ok) (hT : joined S1 = T) (hX : joined S2 = X) : Asked (fun z => Many DAt w z q 3 3 P Fs sts) w q (P 0) (P 1) (P 2) T X :=
  ⟨fun _ _ h hb => h.old C hb, fun _ h => h.cell, fun z h => sure_many C h0 k1 hT z _ (h.d 0 (by decide)), fun z h => sure_many C h1 k2 hX z _ (h.d 1 (by decide)), fun z h => sure_many C h2 k2 hX z _ (h.d 2 (by decide)), fun _ h => h.below⟩
set_option maxRecDepth 10000 in
set_option maxHeartbeats 8000000 in
theorem BlockEnds_any {DAt : World → Nat → St → (Nat → Prop) → Prop} (C : Con DAt) (nb : Nat) (a1 a2 : Option Addr) (c1 c2 : Nat) (l1 l2 : List Stp) (w : World) (hnb : nb < 256) (h1 : StepsAt w a1 l1) (h2 : StepsAt w a2 l2) (hok1 : ∀ x ∈ l1, x.Ok) (hok2 : ∀ x ∈ l2, x.Ok) (hl1 : l1.length ≤ 140737488351232) (hl2 : l2.length ≤ 140737488351232) :
    Calls Try.prog 6 #[.int .u8 (nb : Int), .slice a1 l1.length c1, .slice a2 l2.length c2] w fun e w' => e = .returned (.bool true) ∧ Below w.heap.size w w' := by
  have HC := hide C
  have H1 := hide h1
  have H2 := hide h2
  have HOk1 := hide hok1
  have HOk2 := hide hok2
  clear C h1 h2 hok1 hok2
  have hm : Int.tmod (nb : Int) 16 = ((nb % 16 : Nat) : Int) := by rw [Int.tmod_eq_emod_of_nonneg (by omega)]; omega
  go_enter Try.func6, Try.ntmps6
  by_cases hbig : 200 < l1.length + l2.length
  · have KA := hide (alive_any HC.out w)
    go_wp2_with fail
    refine KA.out.mono ?_
    rintro e w5 ⟨rfl, hb5⟩
    have HB5 := hide hb5
    clear hb5
    go_wp2
    go_ret
    exact ⟨rfl, HB5.out⟩
  have hsum : ((l1.length : Int) + (l2.length : Int) ≤ 200) := by omega
  have HL1 : Hid (l1.length ≤ 200) := by unfold Hid; omega
  have HL2 : Hid (l2.length ≤ 200) := by unfold Hid; omega
  go_wp2_with fail
  obtain ⟨n, hn⟩ : ∃ n : Nat, 1 + (nb : Int) % 16 = (n : Int) := ⟨1 + nb % 16, by omega⟩
  rw [hn]
  have hn1 : 1 ≤ n := by omega
  have hn2 : n ≤ 16 := by omega
  clear hn hm hnb
  generalize (nb : Int) % 16 = nz
  generalize decide (200 < (l1.length : Int) + (l2.length : Int)) = dz
  have HSN := hide (step_nums n hn1 hn2)
  have HM0 := hide (Many.start (DAt := DAt) w (fun _ => 0) (fun _ _ => False) (fun _ => ⟨[], [], 0⟩))
  have HF0 : Hid (∀ s ∈ List.replicate n zblock, s.size = 256) := fun s hs => by rw [List.eq_of_mem_replicate hs]; exact zblock_size
  have HN0 : Hid ((List.replicate n zblock).length = n) := List.length_replicate
  have HNw : Hid (St.new n = ⟨List.replicate n zblock, [], -1⟩) := rfl
  generalize List.replicate n zblock = S0 at *
  have HN1 : Hid ((laid S0 (wrs n l1)).length = n) := by unfold Hid; rw [laid_length]; exact HN0.out
  have HF1 : Hid (∀ s ∈ laid S0 (wrs n l1), s.size = 256) := laid_full _ _ HF0.out (fun x hx => ((wrs_ok hn1 hn2 HN0.out HF0.out l1).there x hx).2)
  generalize hS1 : laid S0 (wrs n l1) = S1 at *
  have HS1 := hide hS1
  clear hS1
  generalize w.alloc (.cells #[.pointer none, .pointer none, .pointer none] 55) = W0 at *
  obtain ⟨q, hq⟩ : ∃ q, w.heap.size = q := ⟨_, rfl⟩
  rw [hq]
  have HM1 : Hid (Many DAt w W0 q 0 0 (fun _ => 0) (fun _ _ => False) (fun _ => ⟨[], [], 0⟩)) := by rw [← hq]; exact HM0.out
  clear HM0 hq
  go_loopw [9] (fun i wr => ∃ (k : Nat) (P : Nat → Nat) (Fs : Nat → Nat → Prop) (sts : Nat → St), k ≤ 3 ∧ i = .int .i64 (k : Int) ∧ Many DAt w wr q k k P Fs sts ∧ ∀ j, j < k → sts j = ⟨S1, [], -1⟩) (fun i _ => 3 - (intOf i).toNat)
  case atStart => exact ⟨0, _, _, _, Nat.zero_le _, rfl, HM1.out, fun j hj => absurd hj (by omega)⟩
  case round =>
    obtain ⟨k, P0, Fs0, sts0, hk, rfl, hM, hS⟩ := hrel
    clear HM1
    have HM := hide hM
    have HS := hide hS
    clear hM hS
    by_cases hlt : k < 3
    · have hk3 : (k : Int) < 3 := by omega
      go_wp2_with fail
      refine (HC.out.new n wr hn1 (by omega)).mono ?_
      rintro e w1 ⟨p, F, rfl, hd1, hF, hb1⟩
      obtain ⟨P, Fs, sts, hM2, hPk, hst, hoth⟩ := HM.out.new HC.out (Nat.le_refl _) hd1 hF hb1
      rw [HNw.out] at hst
      have HM2 := hide hM2
      have HPk := hide hPk
      have HSt := hide hst
      have HOth : Hid (∀ j, j < k → sts j = ⟨S1, [], -1⟩) := fun j hj => (hoth j hj).trans (HS.out j hj)
      clear hM2 hPk hst hoth hd1 hF hb1 HM HS
      go_wp2_with fail
      go_loopw [12] (fun i wz => ∃ (t : Nat) (Fs : Nat → Nat → Prop) (sts : Nat → St), t ≤ l1.length ∧ i = .int .i64 (t : Int) ∧ Many DAt w wz q k (k + 1) P Fs sts ∧ sts k = ⟨S0, wrs n (l1.take t), -1⟩ ∧ ∀ j, j < k → sts j = ⟨S1, [], -1⟩) (fun i _ => l1.length - (intOf i).toNat)
      case atStart => exact ⟨0, Fs, sts, Nat.zero_le _, rfl, HM2.out, HSt.out, HOth.out⟩
      case round =>
        obtain ⟨t, Fs1, sts1, ht, rfl, hM, hSt, hOth⟩ := hrel
        clear HM2 HSt HOth
        have HM := hide hM
        have HSt := hide hSt
        have HOth := hide hOth
        clear hM hSt hOth
        by_cases htl : t < l1.length
        · obtain ⟨b, off, rfl, hc⟩ : ∃ b off, a1 = some ⟨b, off, none⟩ ∧ ∀ j (hj : j < l1.length), StepAt w b (off + j * 5) l1[j] := by
            rcases H1.out with h0 | h1
            · rw [h0] at htl; exact absurd htl (by simp)
            · exact h1
          have HSt2 := hide (hc t htl)
          have hby := (HOk1.out _ (List.getElem_mem htl)).byte
          have HOkN := hide (wrs_ok hn1 hn2 HN0.out HF0.out (l1.take t))
          obtain ⟨y, m, hmb, hu, hy, hm16, hm1, hm2, hw1, hw2, hw3, hw4, hn0⟩ := HSN.out l1[t]
          have hmS : m < S0.length := by rw [HN0.out, hmb]; exact blk_lt hn1 _
          have HNext := hide (wrs_take n l1 t htl)
          rw [← hmb] at HNext
          have HLl := hide (few_wrs n (l1.take t) (by rw [List.length_take]; have := HL1.out; omega))
          have KF := fun z => hide (full_any l1[t].byte z hby)
          have KW := hide (write_many (c := l1[t].byte) (p := P k) HC.out HSt.out HOkN.out HLl.out hmS hm16)
          rw [HPk.out] at KW
          have hn0' : ¬ n = 0 := by omega
          have HCell : Hid (∀ z, Below w.heap.size w z → z.cell? ⟨b, off + t * 5 + 1, none⟩ = some (.int .i64 l1[t].b) ∧ z.cell? ⟨b, off + t * 5 + 2, none⟩ = some (.int .u8 (l1[t].byte : Int))) := fun z hb => step_cells HSt2.out hb
          clear hc HOkN HSt2 hmb hby HLl hmS
          generalize fullT l1[t].byte = T at *
          generalize l1[t].b = xb at *
          generalize l1[t].byte = xy at *
          have htz : (t : Int) < (l1.length : Int) := by omega
          go_wp2_with fail
          have K := HM.out.old HC.out ((Below.refl _ _).drew)
          go_region_held3 (fun z => z.cell? ⟨b, off + t * 5 + 1, none⟩ = some (.int .i64 xb) ∧ z.cell? ⟨b, off + t * 5 + 2, none⟩ = some (.int .u8 (xy : Int)))
            ((with_reducible exact HCell.out _ K.below))
            (first
            | (go_at_call 17; refine (KF _).out.mono ?_; rintro e z1 ⟨rfl, hb1⟩; have K := Many.old HC.out K hb1)
            | (go_at_call 16; refine (KW.out _ _ (by have g := K.d k (Nat.lt_succ_self k); rw [HPk.out] at g; exact g)).mono ?_; rintro e z2 ⟨rfl, F2, hd2, hl2'⟩; obtain ⟨Fs3, sts3, K, hs3, ho3, _⟩ := Many.step HC.out K (Nat.lt_succ_self k) (by rw [HPk.out]; exact hd2) hl2'))
          all_goals
            have HK := hide K
            have HS3 := hide hs3
            rw [← HNext.out] at HS3
            have HO3 : Hid (∀ j, j < k → sts3 j = ⟨S1, [], -1⟩) := fun j hj => (ho3 j (Nat.lt_succ_of_lt hj) (Nat.ne_of_lt hj)).trans (HOth.out j hj)
            clear K hs3 ho3
            go_wp2
            go_roundw
            case rel => exact ⟨t + 1, Fs3, sts3, htl, by go_num, HK.out, HS3.out, HO3.out⟩
            case measure => simp [intOf]; omega
        · have hte : t = l1.length := by omega
          subst hte
          rw [List.take_length] at HSt
          have KS := hide (sync_many (p := P k) HC.out HSt.out (wrs_ok hn1 hn2 HN0.out HF0.out l1) (few_wrs n l1 HL1.out) wr _ (HM.out.d k (Nat.lt_succ_self k)))
          rw [HPk.out, HS1.out] at KS
          go_wp2_with fail
          refine KS.out.mono ?_
          rintro e w2 ⟨rfl, F2, hd2, hl2'⟩
          obtain ⟨Fs3, sts3, hM3, hs3, ho3, _⟩ := Many.step HC.out HM.out (Nat.lt_succ_self k) (by rw [HPk.out]; exact hd2) hl2'
          obtain ⟨hca, hfa⟩ := hM3.at k hlt
          have HM4 := hide (hM3.store HC.out hlt)
          rw [HPk.out] at HM4
          have HS4 : Hid (∀ j, j < k + 1 → sts3 j = ⟨S1, [], -1⟩) := fun j hj => by
            by_cases e : j = k
            · rw [e]; exact hs3
            · exact (ho3 j hj e).trans (HOth.out j (by omega))
          clear hd2 hl2' hM3 hs3 ho3 KS HM HSt HOth
          generalize ptr P k k = vv at *
          go_wp2
          go_roundw
          case rel => exact ⟨k + 1, P, Fs3, sts3, hlt, by go_num, HM4.out, HS4.out⟩
          case measure => simp [intOf]; omega
    · have hke : k = 3 := by omega
      subst hke
      obtain ⟨hc0, hcc1, hcc2⟩ := HM.out.cell
      have hp0 : ptr P0 3 0 = .pointer (some ⟨P0 0, 0, none⟩) := rfl
      rw [hp0] at hc0
      clear hp0 hcc1 hcc2
      have KU := hide (HC.out.sure (P0 0) _ _ wr (HM.out.d 0 (by decide)) (by rw [HS.out 0 (by decide)]; exact wrs_ok hn1 hn2 HN1.out HF1.out []))
      go_wp2_with fail
      refine KU.out.mono ?_
      rintro e w2 ⟨rfl, hb2⟩
      have HM2 := hide (HM.out.old HC.out hb2)
      have HWas : Hid ((sts0 0).text = joined S1) := by unfold Hid; rw [HS.out 0 (by decide)]; rfl
      rw [HWas.out]
      generalize hWt : joined S1 = Wt at *
      have HWt := hide hWt
      clear hWt HWas hb2 KU HM hc0
      go_wp2_with fail
      obtain ⟨i0, hi, hz0, hz1, hz2⟩ := info_parts info3
      have HI := hide (And.intro hi (And.intro hz0 (And.intro hz1 hz2)))
      clear hi hz0 hz1 hz2
      have HR0 := hide (Rowed.nil w w2 Fs0)
      go_loopw [14, 15, 16] (fun v i _ wr => ∃ (t : Nat) (Fs : Nat → Nat → Prop) (sts : Nat → St), t ≤ l2.length ∧ i = .int .i64 (t : Int) ∧ Many DAt w wr q 3 3 P0 Fs sts ∧ (∀ j, j < 3 → sts j = ⟨S1, wrs n (l2.take t), -1⟩) ∧ Rowed w wr Fs v t) (fun _ i _ _ => l2.length - (intOf i).toNat)
      case atStart => exact ⟨0, Fs0, sts0, Nat.zero_le _, rfl, HM2.out, HS.out, HR0.out⟩
      case round =>
        obtain ⟨t, Fs1, sts1, ht, rfl, hM, hS, hR⟩ := hrel
        clear HM2 HS HR0
        have HM := hide hM
        have HS := hide hS
        have HR := hide hR
        clear hM hS hR
        by_cases htl : t < l2.length
        · obtain ⟨b, off, rfl, hc⟩ : ∃ b off, a2 = some ⟨b, off, none⟩ ∧ ∀ j (hj : j < l2.length), StepAt w b (off + j * 5) l2[j] := by
            rcases H2.out with h0 | h1
            · rw [h0] at htl; exact absurd htl (by simp)
            · exact h1
          have HSt2 := hide (hc t htl)
          have hby := (HOk2.out _ (List.getElem_mem htl)).byte
          have HOkN := hide (wrs_ok hn1 hn2 HN1.out HF1.out (l2.take t))
          obtain ⟨y, m, hmb, hu, hy, hm16, hm1, hm2, hw1, hw2, hw3, hw4, hn0⟩ := HSN.out l2[t]
          have hmS : m < S1.length := by rw [HN1.out, hmb]; exact blk_lt hn1 _
          have HNext := hide (wrs_take n l2 t htl)
          rw [← hmb] at HNext
          have HLl := hide (few_wrs n (l2.take t) (by rw [List.length_take]; have := HL2.out; omega))
          have KF := fun z => hide (full_any l2[t].byte z hby)
          have KW : Hid (∀ (p : Nat) (st : St), st = ⟨S1, wrs n (l2.take t), -1⟩ → ∀ (z : World) (F : Nat → Prop), DAt z p st F → Calls Try.prog 16 #[.pointer (some ⟨p, 0, none⟩), .int .i64 (m : Int), .string (fullT l2[t].byte)] z fun e v => e = .returned (.int .i64 0) ∧ ∃ F', DAt v p ⟨S1, wrs n (l2.take (t + 1)), -1⟩ F' ∧ Loc F F' z v) := fun p st hst => by
            rw [HNext.out]
            exact write_many (c := l2[t].byte) (p := p) HC.out hst HOkN.out HLl.out hmS hm16
          have hn0' : ¬ n = 0 := by omega
          have HCell : Hid (∀ (k : Nat) (z : World) (Fs : Nat → Nat → Prop) (sts : Nat → St), k < 3 → Many DAt w z q 3 3 P0 Fs sts → z.cell? ⟨q, k, none⟩ = some (.pointer (some ⟨P0 k, 0, none⟩)) ∧ z.cell? ⟨b, off + t * 5 + 1, none⟩ = some (.int .i64 l2[t].b) ∧ z.cell? ⟨b, off + t * 5 + 2, none⟩ = some (.int .u8 (l2[t].byte : Int))) := fun k z Fs sts hk hM => by
            have g1 := (hM.at k hk).1
            have g2 := step_cells HSt2.out hM.below
            refine ⟨?_, g2.1, g2.2⟩
            rw [g1]
            unfold ptr
            rw [if_pos hk]
          clear hc HOkN HSt2 hmb hby HLl hmS HNext
          generalize fullT l2[t].byte = T at *
          generalize l2[t].b = xb at *
          generalize l2[t].byte = xy at *
          have htz : (t : Int) < (l2.length : Int) := by omega
          go_wp2_with fail
          go_loopw [16] (fun i wz => ∃ (k : Nat) (Fs : Nat → Nat → Prop) (sts : Nat → St), k ≤ 3 ∧ i = .int .i64 (k : Int) ∧ Many DAt w wz q 3 3 P0 Fs sts ∧ (∀ j, j < 3 → j < k → sts j = ⟨S1, wrs n (l2.take (t + 1)), -1⟩) ∧ (∀ j, j < 3 → ¬ j < k → sts j = ⟨S1, wrs n (l2.take t), -1⟩) ∧ Rowed w wz Fs u14 t) (fun i _ => 3 - (intOf i).toNat)
          case atStart => exact ⟨0, Fs1, sts1, Nat.zero_le _, rfl, HM.out, fun j _ hj => absurd hj (by omega), fun j hj _ => HS.out j hj, HR.out⟩
          case round =>
            obtain ⟨k, Fs2, sts2, hk, rfl, hM, hSa, hSb, hR⟩ := hrel
            clear HM HS HR
            have HM := hide hM
            have HSa := hide hSa
            have HSb := hide hSb
            have HR := hide hR
            clear hM hSa hSb hR
            by_cases hlt : k < 3
            · have hk3 : (k : Int) < 3 := by omega
              have HK3 := hide hlt
              go_wp2_with fail
              have K := HM.out.old HC.out ((Below.refl _ _).drew)
              have R := HR.out.old ((Below.refl _ _).drew)
              go_region_held3 (fun z => z.cell? ⟨q, k, none⟩ = some (.pointer (some ⟨P0 k, 0, none⟩)) ∧ z.cell? ⟨b, off + t * 5 + 1, none⟩ = some (.int .i64 xb) ∧ z.cell? ⟨b, off + t * 5 + 2, none⟩ = some (.int .u8 (xy : Int)))
                ((with_reducible exact HCell.out k _ _ _ HK3.out K))
                (first
                | (go_at_call 17; refine (KF _).out.mono ?_; rintro e z1 ⟨rfl, hb1⟩; have K := Many.old HC.out K hb1; have R := Rowed.old R hb1)
                | (go_at_call 16; refine (KW.out (P0 k) _ (HSb.out k HK3.out (Nat.lt_irrefl k)) _ _ (K.d k HK3.out)).mono ?_; rintro e z2 ⟨rfl, F2, hd2, hl2'⟩; obtain ⟨Fs3, sts3, K, hs3, ho3, hF3⟩ := Many.step HC.out K HK3.out hd2 hl2'; have R := Rowed.step R HK3.out hl2' hF3))
              all_goals
                have HKK := hide K
                have HRR := hide R
                have HTa : Hid (∀ j, j < 3 → j < k + 1 → sts3 j = ⟨S1, wrs n (l2.take (t + 1)), -1⟩) := fun j hj hjk => by
                  by_cases e : j = k
                  · rw [e]; exact hs3
                  · exact (ho3 j hj e).trans (HSa.out j hj (by omega))
                have HTb : Hid (∀ j, j < 3 → ¬ j < k + 1 → sts3 j = ⟨S1, wrs n (l2.take t), -1⟩) := fun j hj hjk => (ho3 j hj (by omega)).trans (HSb.out j hj (by omega))
                clear K R hs3 ho3 hF3
                go_wp2
                go_roundw
                case rel => exact ⟨k + 1, Fs3, sts3, HK3.out, by go_num, HKK.out, HTa.out, HTb.out, HRR.out⟩
                case measure => simp [intOf]; omega
            · have hke : k = 3 := by omega
              subst hke
              clear HSb
              have HOwn := hide HR.out.own
              have HBs := hide HM.out.below.size
              go_wp2_with (at_builtin; refine wpList_append_own_at _ rfl _ _ 33 rfl w.heap.size 3 i0 (.int .i64 0) 1 8 Try.underlying33 HI.out.1 HI.out.2.1 HI.out.2.2.1 HI.out.2.2.2 rfl (by decide) _ _ _ rfl (World.ownsRow.alloc HOwn.out _) ⟨wr.heap.size, 0, none⟩ 1 1 [.int .i64 256] rfl rfl ?c1 ?c2 ?c3 ?c4 ?c5 ?_)
              case c1 =>
                intro j u hj
                match j, hj with
                | 0, hj => simp at hj; subst hj; simp [Addr.add]
              case c2 => intro u hu; simp at hu; subst hu; rfl
              case c3 => unfold maxLen; omega
              case c4 => omega
              case c5 => have := HBs.out; simp; omega
              · intro v5 w5 hown5 hgrow5 _ hat5
                have hV : Below wr.heap.size wr (wr.alloc (.cells #[.int .i64 256] 3)) := (Below.refl _ _).alloc (Nat.le_refl _) _
                have HM5 := hide (HM.out.grown HC.out HR.out hV hgrow5)
                have HR5 := hide (Rowed.grown HC.out HM.out HR.out hown5 (by
                  rcases hat5 with h5 | h5
                  · exact Or.inl h5
                  · exact Or.inr ⟨_, h5, by omega⟩))
                have HS5 : Hid (∀ j, j < 3 → sts2 j = ⟨S1, wrs n (l2.take (t + 1)), -1⟩) := fun j hj => HSa.out j hj hj
                clear hown5 hgrow5 hat5 hV HM HR HSa HOwn HBs
                go_wp2
                go_roundw
                case rel => exact ⟨t + 1, Fs2, sts2, htl, by go_num, HM5.out, HS5.out, HR5.out⟩
                case measure => simp [intOf]; omega
        · have hte : t = l2.length := by omega
          subst hte
          rw [List.take_length] at HS
          have HOkN := hide (wrs_ok hn1 hn2 HN1.out HF1.out l2)
          have HLw := hide (few_wrs n l2 HL2.out)
          obtain ⟨aP, cP, rfl, hIP, hAP⟩ := HR.out.ints
          have K0 := hide (crash_many (S' := S1) (a := none) (c := 0) (pk := []) (p := P0 0) HC.out (HS.out 0 (by decide)) HOkN.out HLw.out wr _ (HM.out.d 0 (by decide)) (Or.inl rfl) (fun h => absurd rfl h) (by decide) (by simp) (crashed_none _ _ _ HF1.out HOkN.out.there))
          have hc0 : wr.cell? ⟨q, 0, none⟩ = some (.pointer (some ⟨P0 0, 0, none⟩)) := HM.out.cell.1
          clear hIP hAP
          go_wp2_with fail
          refine K0.out.mono ?_
          rintro e w3 ⟨rfl, F3, hd3, hl3⟩
          obtain ⟨Fs3, sts3, hM3, hs3, ho3, hF3⟩ := HM.out.step HC.out (by decide) hd3 hl3
          have HR3 := hide (HR.out.step (by decide) hl3 hF3)
          have HM3 := hide hM3
          have HS3 : Hid (sts3 0 = ⟨S1, [], -1⟩ ∧ sts3 1 = ⟨S1, wrs n l2, -1⟩ ∧ sts3 2 = ⟨S1, wrs n l2, -1⟩) := ⟨hs3, (ho3 1 (by decide) (by decide)).trans (HS.out 1 (by decide)), (ho3 2 (by decide) (by decide)).trans (HS.out 2 (by decide))⟩
          clear hd3 hl3 hM3 hs3 ho3 hF3 K0 hc0 HM HR HS
          obtain ⟨aQ, cQ, hvQ, hIQ, hAQ⟩ := HR3.out.ints
          cases hvQ
          have HN2 : Hid (∀ s ∈ laid S1 (wrs n l2), s.size = 256) := laid_full _ _ HF1.out (fun x hx => (HOkN.out.there x hx).2)
          have HLn : Hid ((laid S1 (wrs n l2)).length = n) := by unfold Hid; rw [laid_length]; exact HN1.out
          have HAll : Hid (crashed S1 (List.replicate l2.length (256 : Int)) 0 (wrs n l2) = laid S1 (wrs n l2)) := crashed_all _ _ _ _ HF1.out HOkN.out.there (fun j hj => all_256 _ _ (by unfold wrs at hj; rw [List.length_map] at hj; exact hj))
          have K1 := hide (crash_many (S' := laid S1 (wrs n l2)) (a := aP) (c := cP) (pk := List.replicate l2.length (256 : Int)) (p := P0 1) HC.out HS3.out.2.1 HOkN.out HLw.out w3 _ (HM3.out.d 1 (by decide)) hIQ (hAQ 1 (by decide)) (by rw [List.length_replicate]; exact HL2.out) (fun y hy => by rw [List.eq_of_mem_replicate hy]; decide) HAll.out)
          rw [List.length_replicate] at K1
          have hc1 : w3.cell? ⟨q, 1, none⟩ = some (.pointer (some ⟨P0 1, 0, none⟩)) := HM3.out.cell.2.1
          clear hIQ hAQ HAll
          go_wp2_with fail
          refine K1.out.mono ?_
          rintro e w4 ⟨rfl, F4, hd4, hl4⟩
          obtain ⟨Fs4, sts4, hM4, hs4, ho4, hF4⟩ := HM3.out.step HC.out (by decide) hd4 hl4
          have HM4 := hide hM4
          have HS4 : Hid (sts4 0 = ⟨S1, [], -1⟩ ∧ sts4 1 = ⟨laid S1 (wrs n l2), [], -1⟩ ∧ sts4 2 = ⟨S1, wrs n l2, -1⟩) := ⟨(ho4 0 (by decide) (by decide)).trans HS3.out.1, hs4, (ho4 2 (by decide) (by decide)).trans HS3.out.2.2⟩
          clear hd4 hl4 hM4 hs4 ho4 hF4 K1 hc1 HM3 HR3 HS3
          have K2 := hide (sync_many (p := P0 2) HC.out HS4.out.2.2 HOkN.out HLw.out w4 _ (HM4.out.d 2 (by decide)))
          have hc2 : w4.cell? ⟨q, 2, none⟩ = some (.pointer (some ⟨P0 2, 0, none⟩)) := HM4.out.cell.2.2
          go_wp2_with fail
          refine K2.out.mono ?_
          rintro e w5 ⟨rfl, F5, hd5, hl5⟩
          obtain ⟨Fs5, sts5, hM5, hs5, ho5, hF5⟩ := HM4.out.step HC.out (by decide) hd5 hl5
          have hask := Many.asked HC.out (w := w) (q := q) (P := P0) (Fs := Fs5) (sts := sts5) (X := joined (laid S1 (wrs n l2))) ((ho5 0 (by decide) (by decide)).trans HS4.out.1) ((ho5 1 (by decide) (by decide)).trans HS4.out.2.1) hs5 (wrs_ok hn1 hn2 HN1.out HF1.out []) (wrs_ok hn1 hn2 HLn.out HN2.out []) HWt.out rfl
          have HG := hide hM5
          have HAs := hide hask
          clear hd5 hl5 hM5 hs5 ho5 hF5 K2 hc2 HM4 HS4 hask
          obtain ⟨G, hGG⟩ : ∃ G : World → Prop, G = fun z => Many DAt w z q 3 3 P0 Fs5 sts5 := ⟨_, rfl⟩
          have HG2 : Hid (G w5) := by rw [hGG]; exact HG.out
          have HA2 : Hid (Asked G w q (P0 0) (P0 1) (P0 2) Wt (joined (laid S1 (wrs n l2)))) := by rw [hGG]; exact HAs.out
          clear HG HAs hGG
          generalize joined (laid S1 (wrs n l2)) = X at *
          generalize P0 0 = p0 at *
          generalize P0 1 = p1 at *
          generalize P0 2 = p2 at *
          have KA := fun z => hide (alive_any HC.out z)
          go_wp2_with fail
          have K := HA2.out.old _ _ HG2.out ((Below.refl _ w5).drew)
          go_region_held3 (fun z => z.cell? ⟨q, 0, none⟩ = some (.pointer (some ⟨p0, 0, none⟩)) ∧ z.cell? ⟨q, 1, none⟩ = some (.pointer (some ⟨p1, 0, none⟩)) ∧ z.cell? ⟨q, 2, none⟩ = some (.pointer (some ⟨p2, 0, none⟩)))
            ((with_reducible exact HA2.out.cell _ K))
            (first
            | (go_at_call_of 13 (Value.pointer (some ⟨p0, 0, none⟩)); refine (HA2.out.s0 _ K).mono ?_; rintro e z1 ⟨rfl, hb1⟩; have K := HA2.out.old _ _ K hb1)
            | (go_at_call_of 13 (Value.pointer (some ⟨p1, 0, none⟩)); refine (HA2.out.s1 _ K).mono ?_; rintro e z1 ⟨rfl, hb1⟩; have K := HA2.out.old _ _ K hb1)
            | (go_at_call_of 13 (Value.pointer (some ⟨p2, 0, none⟩)); refine (HA2.out.s2 _ K).mono ?_; rintro e z1 ⟨rfl, hb1⟩; have K := HA2.out.old _ _ K hb1)
            | (go_at_call 8; refine (KA _).out.mono ?_; rintro e z1 ⟨rfl, hb1⟩; have K := HA2.out.old _ _ K hb1))
          all_goals
            have HBF := hide (HA2.out.below _ K)
            clear K
            go_wp2
            go_ret
            exact ⟨rfl, HBF.out⟩
end Go.Proofs.Ytffniclijiekkaa
