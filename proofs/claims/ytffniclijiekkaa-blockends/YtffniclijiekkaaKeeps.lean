/- The law BlockKeeps, over the contracts. -/
import Derived.Test.YtffniclijiekkaaKeep0
import Derived.Deep.Cut
namespace Go.Proofs.Ytffniclijiekkaa
open Go Go.RowKit
/-- What the law reckons of a step. -/
theorem step_nums (n : Nat) (h1 : 1 ≤ n) (h2 : n ≤ 16) (x : Stp) : ∃ y m : Nat, m = blk n x ∧ IntKind.u16.wrap x.b = (y : Int) ∧ y < 65536 ∧ m < 16 ∧ Int.tmod (y : Int) (n : Int) = (m : Int) ∧ (y : Int) % (n : Int) = (m : Int) ∧ wrap64 (y : Int) = (y : Int) ∧ IntKind.i64.wrap (y : Int) = (y : Int) ∧ wrap64 (m : Int) = (m : Int) ∧ IntKind.i64.wrap (m : Int) = (m : Int) ∧ ¬ ((n : Int) = 0) := by
  obtain ⟨y, hu, hy⟩ := u16_nat x.b
  have hm := blk_of (n := n) hu
  have hl := blk_lt h1 x
  refine ⟨y, blk n x, rfl, hu, hy, by omega, hm, ?_, w64_nat (by omega), i64_nat (by omega), w64_nat (by omega), i64_nat (by omega), by omega⟩
  rw [← hm, Int.tmod_eq_emod_of_nonneg (by omega)]
/-- A list of numbers that lies anywhere, or nowhere, goes behind an empty row. -/
theorem wpList_append_ints {ops : Array Oper} {rest : List Oper} {o : Oper} {a : Act} {Q : Exit → Act → World → Prop} (w : World) (hgd : o.guard = none) (s x : Operand)
    (ho : o.op = .call { callee := .builtin .append, args := #[s, x], argTypes := #[33, 33] })
    (base : Nat) (v : Value) (hs : a.eval s = v) (hown : w.ownsRow base 3 1 v 0 [])
    (ao : Option Addr) (c : Nat) (L : List Int) (hx : a.eval x = .slice ao L.length c) (hI : IntsAt w ao L) (hn : ao = none → c = 0) (hl : L.length ≤ 1000) (hb : base ≤ w.heap.size)
    (h : ∀ v' w', w'.ownsRow base 3 1 v' L.length (L.map (Value.int .i64)) → w.grownBy w' v.ownBlock → wpList Try.prog ops Q rest (a.put o.dst v') w') : wpList Try.prog ops Q (o :: rest) a w := by
  obtain ⟨i0, hi, hz0, hz1, hz2⟩ := info_parts info3
  by_cases h0 : L = []
  · subst h0
    cases ao with
    | none =>
      have hc := hn rfl
      subst hc
      exact wpList_append_own_none hgd s x 33 ho base 3 i0 1 Try.underlying33 hi v 0 [] hs hown hx (h v w hown (World.grownBy.refl _ _))
    | some ad =>
      refine wpList_append_own w hgd s x 33 ho base 3 i0 (.int .i64 0) 1 8 Try.underlying33 hi hz0 hz1 hz2 rfl (by decide) v 0 [] hs hown ad 0 c [] hx rfl (fun j v hj => by cases hj) (fun v hv => by cases hv) (by decide) (by decide) hb ?_
      intro v' w' h1 h2 _
      exact h v' w' h1 h2
  · rcases hI with h1 | ⟨b, off, rfl, hc⟩
    · exact absurd h1 h0
    · refine wpList_append_own w hgd s x 33 ho base 3 i0 (.int .i64 0) 1 8 Try.underlying33 hi hz0 hz1 hz2 rfl (by decide) v 0 [] hs hown ⟨b, off, none⟩ L.length c (L.map (Value.int .i64)) hx (by simp) (news_ints hc) (one_ints _) (by unfold maxLen; omega) (by omega) hb ?_
      intro v' w' h1 h2 _
      rw [Nat.zero_add] at h1
      exact h v' w' h1 h2
theorem ne_false {m q : Nat} (h : ¬ m = q) : ((m : Int) == (q : Int)) = false ∧ ¬ ((m : Int) = (q : Int)) := ⟨by simp; omega, by omega⟩
theorem div_facts (k : Nat) (h : k < 4096) : Int.tdiv (k : Int) 256 = ((k / 256 : Nat) : Int) ∧ (k : Int) / 256 = ((k / 256 : Nat) : Int) ∧ k / 256 < 100000 := ⟨by rw [Int.tdiv_eq_ediv_of_nonneg (by omega)]; omega, by omega, by omega⟩
theorem byteAt_get {s : ByteArray} {k : Nat} (h : k < s.size) : byteAt s k = some s[k] := by
  unfold byteAt
  exact Array.getElem?_eq_getElem h
/-- What stands behind the crash: byte by byte. -/
theorem keeps_byte {n : Nat} {S : List ByteArray} {pk : List Int} {l : List Stp} {N W : ByteArray} (hn : 1 ≤ n) (hS : S.length = n) (hf : ∀ s ∈ S, s.size = 256) (hok : ∀ x ∈ l, x.Ok) (hN : joined (crashed S pk 0 (wrs n l)) = N) (hW : joined S = W) (k : Nat) (hk : k < n * 256) (hkN : k < N.size) (hkW : k < W.size) :
    N[k].toNat = W[k].toNat ∨ ∃ (j : Nat) (hj : j < l.length), blk n l[j] = k / 256 ∧ l[j].byte = N[k].toNat := by
  have hth : ∀ w ∈ wrs n l, w.1 < S.length ∧ w.2.size = 256 := fun w hw => by
    obtain ⟨x, _, rfl⟩ := List.mem_map.1 hw
    exact ⟨by show blk n x < S.length; rw [hS]; exact blk_lt hn x, fullT_size _⟩
  have e1 := joined_at (crashed S pk 0 (wrs n l)) k (crashed_full pk _ _ _ hf hth) (by rw [crashed_length, hS]; omega)
  have e2 := joined_at S k hf (by rw [hS]; omega)
  rw [hN, byteAt_get hkN] at e1
  rw [hW, byteAt_get hkW] at e2
  rcases crashed_at pk (k / 256) (k % 256) (Nat.mod_lt _ (by decide)) (wrs n l) 0 S hf hth with h1 | ⟨w, hw, h2, h3⟩
  · left
    rw [h1, ← e2] at e1
    rw [Option.some.inj e1]
  · right
    obtain ⟨x, hx, rfl⟩ := List.mem_map.1 hw
    obtain ⟨j, hj, rfl⟩ := List.getElem_of_mem hx
    refine ⟨j, hj, h2, ?_⟩
    rw [h3, fullT_at _ _ (Nat.mod_lt _ (by decide))] at e1
    rw [Option.some.inj e1, UInt8.toNat_ofNat', Nat.mod_eq_of_lt (hok _ hx).byte]
theorem fit_small {m : Nat} (h : m < 16) : -9223372036854775808 ≤ (m : Int) ∧ (m : Int) ≤ 9223372036854775807 := by omega
theorem full_reach (c : Nat) : (fullT c).size ≤ 140737488351232 := by rw [fullT_size]; omega
/-- A step's write. -/
theorem write_one {DAt : World → Nat → St → (Nat → Prop) → Prop} (C : Con DAt) {p : Nat} {S : List ByteArray} {L : List (Nat × ByteArray)} {m c : Nat} (hok : (⟨S, L, -1⟩ : St).Ok) (hL : L.length ≤ 200) (hm : m < S.length) (h16 : m < 16) (z : World) (F : Nat → Prop) (hd : DAt z p ⟨S, L, -1⟩ F) :
    Calls Try.prog 16 #[.pointer (some ⟨p, 0, none⟩), .int .i64 (m : Int), .string (fullT c)] z fun e v => e = .returned (.int .i64 0) ∧ ∃ F', DAt v p ⟨S, L ++ [(m, fullT c)], -1⟩ F' ∧ Loc F F' z v := by
  have g := C.write p _ F (m : Int) (fullT c) z hd hok (by show L.length ≤ 10000; omega) (fit_small h16) (full_reach c)
  rw [write_at S L m c hm] at g
  refine g.mono ?_
  rintro e v ⟨rfl, h⟩
  exact ⟨rfl, h⟩
set_option maxRecDepth 10000 in
set_option maxHeartbeats 8000000 in
theorem BlockKeeps_any {DAt : World → Nat → St → (Nat → Prop) → Prop} (C : Con DAt) (nb : Nat) (a1 a2 a3 : Option Addr) (c1 c2 c3 : Nat) (l1 l2 : List Stp) (pk : List Int) (w : World) (hnb : nb < 256) (h1 : StepsAt w a1 l1) (h2 : StepsAt w a2 l2) (h3 : IntsAt w a3 pk) (hok1 : ∀ x ∈ l1, x.Ok) (hok2 : ∀ x ∈ l2, x.Ok) (hpk : ∀ x ∈ pk, -9223372036854775808 ≤ x ∧ x ≤ 9223372036854775807) (hl1 : l1.length ≤ 140737488351232) (hl2 : l2.length ≤ 140737488351232) (hl3 : pk.length ≤ 140737488351232) (hn3 : a3 = none → c3 = 0) :
    Calls Try.prog 4 #[.int .u8 (nb : Int), .slice a1 l1.length c1, .slice a2 l2.length c2, .slice a3 pk.length c3] w fun e w' => e = .returned (.bool true) ∧ Below w.heap.size w w' := by
  have HC := hide C
  have H1 := hide h1
  have H2 := hide h2
  have H3 := hide h3
  have HOk1 := hide hok1
  have HOk2 := hide hok2
  have HPk := hide hpk
  have HN3 := hide hn3
  clear hn3 C h1 h2 h3 hok1 hok2 hpk
  have hm : Int.tmod (nb : Int) 16 = ((nb % 16 : Nat) : Int) := by rw [Int.tmod_eq_emod_of_nonneg (by omega)]; omega
  go_enter Try.func4, Try.ntmps4
  by_cases hbig : 200 < l1.length + l2.length + pk.length
  · have KA := hide (alive_any HC.out w)
    go_wp2_with fail
    refine KA.out.mono ?_
    rintro e w5 ⟨rfl, hb5⟩
    have HB5 := hide hb5
    clear hb5
    go_wp2
    go_ret
    exact ⟨rfl, HB5.out⟩
  have hsum : ((l1.length : Int) + (l2.length : Int) + (pk.length : Int) ≤ 200) := by omega
  go_wp2_with fail
  obtain ⟨n, hn⟩ : ∃ n : Nat, 1 + (nb : Int) % 16 = (n : Int) := ⟨1 + nb % 16, by omega⟩
  rw [hn]
  have hn1 : 1 ≤ n := by omega
  have hn2 : n ≤ 16 := by omega
  clear hn hm hnb
  generalize (nb : Int) % 16 = nz
  generalize decide (200 < (l1.length : Int) + (l2.length : Int) + (pk.length : Int)) = dz
  have HSN := hide (step_nums n hn1 hn2)
  refine (HC.out.new n w hn1 (by omega)).mono ?_
  rintro e w1 ⟨p, F, rfl, h1, hF, hb1⟩
  have HO : Hid (One DAt w.heap.size w w1 p F ⟨List.replicate n zblock, [], -1⟩) := ⟨h1, hF, hb1, Nat.le_refl _⟩
  clear h1 hF hb1
  have HF0 : Hid (∀ s ∈ List.replicate n zblock, s.size = 256) := fun s hs => by rw [List.eq_of_mem_replicate hs]; exact zblock_size
  have HN0 : Hid ((List.replicate n zblock).length = n) := List.length_replicate
  generalize List.replicate n zblock = S0 at *
  go_wp2_with fail
  go_loopw [12] (fun i wr => ∃ (k : Nat) (F : Nat → Prop), k ≤ l1.length ∧ i = .int .i64 (k : Int) ∧ One DAt w.heap.size w wr p F ⟨S0, wrs n (l1.take k), -1⟩) (fun i _ => l1.length - (intOf i).toNat)
  case atStart => exact ⟨0, F, Nat.zero_le _, rfl, HO.out⟩
  case round =>
    obtain ⟨k, F1, hk, rfl, hO⟩ := hrel
    clear HO
    have HO := hide hO
    clear hO
    by_cases hlt : k < l1.length
    · obtain ⟨b, off, rfl, hc⟩ : ∃ b off, a1 = some ⟨b, off, none⟩ ∧ ∀ j (hj : j < l1.length), StepAt w b (off + j * 5) l1[j] := by
        rcases H1.out with h0 | h1
        · rw [h0] at hlt; exact absurd hlt (by simp)
        · exact h1
      have HSt := hide (hc k hlt)
      have hby := (HOk1.out _ (List.getElem_mem hlt)).byte
      have HOkN := hide (wrs_ok hn1 hn2 HN0.out HF0.out (l1.take k))
      obtain ⟨y, m, hmb, hu, hy, hm16, hm1, hm2, hw1, hw2, hw3, hw4, hn0⟩ := HSN.out l1[k]
      have hmS : m < S0.length := by rw [HN0.out, hmb]; exact blk_lt hn1 _
      have HNext := hide (wrs_take n l1 k hlt)
      rw [← hmb] at HNext
      have HLl : Hid ((wrs n (l1.take k)).length ≤ 200) := by unfold Hid wrs; rw [List.length_map, List.length_take]; omega
      have KF := fun z => hide (full_any l1[k].byte z hby)
      have KW := hide (write_one (c := l1[k].byte) HC.out (p := p) HOkN.out HLl.out hmS hm16)
      have hn0' : ¬ n = 0 := by omega
      have HCell : Hid (∀ z, Below w.heap.size w z → z.cell? ⟨b, off + k * 5 + 1, none⟩ = some (.int .i64 l1[k].b) ∧ z.cell? ⟨b, off + k * 5 + 2, none⟩ = some (.int .u8 (l1[k].byte : Int))) := fun z hb => step_cells HSt.out hb
      clear hc HOkN HSt hmb hby HLl hmS
      generalize fullT l1[k].byte = T at *
      generalize l1[k].b = xb at *
      generalize l1[k].byte = xy at *
      generalize wrs n (l1.take k) = L at *
      go_wp2_with fail
      have K := HO.out.old HC.out ((Below.refl _ _).drew)
      go_region_held3 (fun z => z.cell? ⟨b, off + k * 5 + 1, none⟩ = some (.int .i64 xb) ∧ z.cell? ⟨b, off + k * 5 + 2, none⟩ = some (.int .u8 (xy : Int)))
        ((with_reducible exact HCell.out _ K.below))
        (first
        | (go_at_call 17; refine (KF _).out.mono ?_; rintro e z1 ⟨rfl, hb1⟩; have K := One.old HC.out K hb1)
        | (go_at_call 16; refine (KW.out _ _ K.d).mono ?_; rintro e z2 ⟨rfl, F2, hd2, hl2'⟩; have K := One.next K hd2 hl2'))
      all_goals
        have HK := hide K
        rw [← HNext.out] at HK
        clear K
        go_wp2
        go_roundw
        case rel => exact ⟨k + 1, _, hlt, by go_num, HK.out⟩
        case measure => simp [intOf]; omega
    · have hke : k = l1.length := by omega
      subst hke
      rw [List.take_length] at HO
      have KS := hide (HC.out.sync p _ F1 wr HO.out.d (wrs_ok hn1 hn2 HN0.out HF0.out l1) (by show (wrs n l1).length ≤ 10000; unfold wrs; rw [List.length_map]; omega))
      have hsy : (⟨S0, wrs n l1, -1⟩ : St).sync = (0, ⟨laid S0 (wrs n l1), [], -1⟩) := by unfold St.sync; rw [if_neg (show ¬ ((-1 : Int) = 0) from by omega)]; rfl
      rw [hsy] at KS
      have HN1 : Hid ((laid S0 (wrs n l1)).length = n) := by unfold Hid; rw [laid_length]; exact HN0.out
      have HF1 : Hid (∀ s ∈ laid S0 (wrs n l1), s.size = 256) := laid_full _ _ HF0.out (fun x hx => ((wrs_ok hn1 hn2 HN0.out HF0.out l1).there x hx).2)
      clear hsy
      generalize laid S0 (wrs n l1) = S1 at *
      go_wp2_with fail
      refine KS.out.mono ?_
      rintro e w2 ⟨rfl, F2, hd2, hl2'⟩
      have HO2 := hide (HO.out.next hd2 hl2')
      clear hd2 hl2' KS HO
      have HOk0 := hide (wrs_ok hn1 hn2 HN1.out HF1.out [])
      have KL := hide (HC.out.loose p ⟨S1, [], -1⟩ F2 w2 HO2.out.d HOk0.out (Nat.zero_le _))
      go_wp2_with fail
      refine KL.out.mono ?_
      rintro e w3 ⟨a, c, rfl, _, hb3⟩
      have HO3 := hide (HO2.out.old HC.out hb3)
      clear hb3 HO2 KL
      have KU := hide (HC.out.sure p ⟨S1, [], -1⟩ F2 w3 HO3.out.d HOk0.out)
      go_wp2_with fail
      refine KU.out.mono ?_
      rintro e w4 ⟨rfl, hb4⟩
      have HO4 : Hid (One DAt w.heap.size w w4 p F2 ⟨S1, wrs n (l2.take 0), -1⟩) := HO3.out.old HC.out hb4
      clear hb4 HO3 KU
      have HWas : Hid ((⟨S1, [], -1⟩ : St).text = joined S1) := rfl
      rw [HWas.out]
      generalize hWt : joined S1 = Wt at *
      have HWt := hide hWt
      clear hWt
      go_wp2_with fail
      go_loopw [14] (fun i wr => ∃ (k : Nat) (F : Nat → Prop), k ≤ l2.length ∧ i = .int .i64 (k : Int) ∧ One DAt w.heap.size w wr p F ⟨S1, wrs n (l2.take k), -1⟩) (fun i _ => l2.length - (intOf i).toNat)
      case atStart => exact ⟨0, F2, Nat.zero_le _, rfl, HO4.out⟩
      case round =>
        obtain ⟨k, F1, hk, rfl, hO⟩ := hrel
        clear HO4
        have HO := hide hO
        clear hO
        by_cases hlt : k < l2.length
        · obtain ⟨b, off, rfl, hc⟩ : ∃ b off, a2 = some ⟨b, off, none⟩ ∧ ∀ j (hj : j < l2.length), StepAt w b (off + j * 5) l2[j] := by
            rcases H2.out with h0 | h1
            · rw [h0] at hlt; exact absurd hlt (by simp)
            · exact h1
          have HSt := hide (hc k hlt)
          have hby := (HOk2.out _ (List.getElem_mem hlt)).byte
          have HOkN := hide (wrs_ok hn1 hn2 HN1.out HF1.out (l2.take k))
          obtain ⟨y, m, hmb, hu, hy, hm16, hm1, hm2, hw1, hw2, hw3, hw4, hn0⟩ := HSN.out l2[k]
          have hmS : m < S1.length := by rw [HN1.out, hmb]; exact blk_lt hn1 _
          have HNext := hide (wrs_take n l2 k hlt)
          rw [← hmb] at HNext
          have HLl : Hid ((wrs n (l2.take k)).length ≤ 200) := by unfold Hid wrs; rw [List.length_map, List.length_take]; omega
          have KF := fun z => hide (full_any l2[k].byte z hby)
          have KW := hide (write_one (c := l2[k].byte) HC.out (p := p) HOkN.out HLl.out hmS hm16)
          have hn0' : ¬ n = 0 := by omega
          have HCell : Hid (∀ z, Below w.heap.size w z → z.cell? ⟨b, off + k * 5 + 1, none⟩ = some (.int .i64 l2[k].b) ∧ z.cell? ⟨b, off + k * 5 + 2, none⟩ = some (.int .u8 (l2[k].byte : Int))) := fun z hb => step_cells HSt.out hb
          clear hc HOkN HSt hmb hby HLl hmS
          generalize fullT l2[k].byte = T at *
          generalize l2[k].b = xb at *
          generalize l2[k].byte = xy at *
          generalize wrs n (l2.take k) = L at *
          go_wp2_with fail
          have K := HO.out.old HC.out ((Below.refl _ _).drew)
          go_region_held3 (fun z => z.cell? ⟨b, off + k * 5 + 1, none⟩ = some (.int .i64 xb) ∧ z.cell? ⟨b, off + k * 5 + 2, none⟩ = some (.int .u8 (xy : Int)))
            ((with_reducible exact HCell.out _ K.below))
            (first
            | (go_at_call 17; refine (KF _).out.mono ?_; rintro e z1 ⟨rfl, hb1⟩; have K := One.old HC.out K hb1)
            | (go_at_call 16; refine (KW.out _ _ K.d).mono ?_; rintro e z2 ⟨rfl, F2, hd2, hl2'⟩; have K := One.next K hd2 hl2'))
          all_goals
            have HK := hide K
            rw [← HNext.out] at HK
            clear K
            go_wp2
            go_roundw
            case rel => exact ⟨k + 1, _, hlt, by go_num, HK.out⟩
            case measure => simp [intOf]; omega
        · have hke : k = l2.length := by omega
          subst hke
          rw [List.take_length] at HO
          have HOkN := hide (wrs_ok hn1 hn2 HN1.out HF1.out l2)
          have HI3 := hide (H3.out.old (HO.out.below.trans (((Below.refl _ wr).alloc (Nat.le_refl _) (.cells #[] 3)).mono (Nat.le_trans HO.out.size HO.out.below.size))))
          have HLp : Hid (pk.length ≤ 1000) := by unfold Hid; omega
          have HBw : Hid (wr.heap.size ≤ (wr.alloc (.cells #[] 3)).heap.size) := by unfold Hid; simp
          have HR3 := hide (World.ownsRow_lit (base := wr.heap.size) (e := 3) (size := 1) wr #[] 0 (Nat.le_refl _) (by decide) rfl)
          go_wp2_with (at_builtin; refine wpList_append_ints _ rfl _ _ rfl wr.heap.size _ rfl HR3.out a3 c3 pk rfl HI3.out HN3.out HLp.out HBw.out ?_)
          · intro v5 w5 hown5 hgrow5
            obtain ⟨a5, c5, rfl, hi5, hg5⟩ := ints_of_own (by rw [show pk.length = pk.length from rfl]; exact hown5)
            have hb5 : Below wr.heap.size wr w5 := ((Below.refl _ _).alloc (Nat.le_refl _) (.cells #[] 3)).grown hgrow5 (by simp) (fun j e => by cases e; exact Nat.le_refl _)
            have HO5 := hide (HO.out.old HC.out hb5)
            have KC := hide (HC.out.crash p ⟨S1, wrs n l2, -1⟩ F1 a5 c5 pk w5 HO5.out.d HOkN.out (by show (wrs n l2).length ≤ 10000; unfold wrs; rw [List.length_map]; omega) hi5 (fun _ b off e hf => by have q1 := hg5 b off e; have q2 := HC.out.lt HO.out.d b hf; omega) hl3 HPk.out)
            clear hown5 hgrow5 hi5 hg5 hb5 HR3 HI3
            go_wp2_with fail
            refine KC.out.mono ?_
            rintro e w6 ⟨rfl, F6, hd6, hl6⟩
            have HO6 : Hid (One DAt w.heap.size w w6 p F6 ⟨crashed S1 pk 0 (wrs n l2), [], -1⟩) := HO5.out.next hd6 hl6
            clear hd6 hl6 KC HO5 HO
            have HOk6 := hide (HOkN.out.crash pk)
            have KU := hide (HC.out.sure p ⟨crashed S1 pk 0 (wrs n l2), [], -1⟩ F6 w6 HO6.out.d HOk6.out)
            go_wp2_with fail
            refine KU.out.mono ?_
            rintro e w7 ⟨rfl, hb7⟩
            have HB7 := hide (HO6.out.old HC.out hb7).below
            clear hb7 KU HO6
            obtain ⟨M, hM⟩ : ∃ M : Nat, n * 256 = M := ⟨_, rfl⟩
            have hMz : (n : Int) * 256 = (M : Int) := by omega
            have hMs : M ≤ 4096 := by omega
            have hNs : (joined (crashed S1 pk 0 (wrs n l2))).size = M := by rw [joined_size (crashed S1 pk 0 (wrs n l2)) HOk6.out.full, crashed_length, HN1.out]; omega
            have hWs : Wt.size = M := by rw [← HWt.out, joined_size _ HF1.out, HN1.out]; omega
            have HNt : Hid ((⟨crashed S1 pk 0 (wrs n l2), [], -1⟩ : St).text = joined (crashed S1 pk 0 (wrs n l2))) := rfl
            rw [HNt.out]
            generalize hNt : joined (crashed S1 pk 0 (wrs n l2)) = Nt at *
            have HNt2 := hide hNt
            clear hNt HNt
            have HM := hide hM
            clear hM
            go_wp2_with fail
            go_loopw [16, 17, 18] (fun i _ _ wr => ∃ k : Nat, k ≤ M ∧ i = .int .i64 (k : Int) ∧ Below w.heap.size w wr) (fun i _ _ _ => M - (intOf i).toNat)
            case atStart => exact ⟨0, Nat.zero_le _, rfl, HB7.out⟩
            case round =>
              obtain ⟨k, hk, rfl, hB⟩ := hrel
              have HB := hide hB
              clear hB
              by_cases hlt : k < M
              · have hkN : (k : Int) < (Nt.size : Int) := by omega
                have hkW : (k : Int) < (Wt.size : Int) := by omega
                go_wp2_with fail
                have HX := hide (keeps_byte hn1 HN1.out HF1.out HOk2.out HNt2.out HWt.out k (by have := HM.out; omega) (by omega) (by omega))
                go_quiet (fail)
                generalize hxe : Nt[k].toNat = x at *
                have HXe := hide hxe
                clear hxe
                generalize Wt[k].toNat = z at *
                obtain ⟨g0, hg0⟩ : ∃ g0 : Bool, ((x : Int) == (z : Int)) = g0 := ⟨_, rfl⟩
                rw [hg0]
                have HG0 : Hid (g0 = true ∨ ∃ (j : Nat) (hj : j < l2.length), 0 ≤ j ∧ blk n l2[j] = k / 256 ∧ l2[j].byte = x) := by
                  rcases HX.out with h5 | ⟨j, hj, h5, h6⟩
                  · left; rw [← hg0, h5]; simp
                  · exact Or.inr ⟨j, hj, Nat.zero_le _, h5, h6⟩
                clear hg0 HX
                have HBq : Hid (Below w.heap.size w (wr.drewN nq)) := below_drewN HB.out nq
                clear HB
                generalize wr.drewN nq = wq at *
                go_wp2_with fail
                go_loopw [17, 18] (fun gv i wz => ∃ (t : Nat) (g : Bool), t ≤ l2.length ∧ i = .int .i64 (t : Int) ∧ gv = .bool g ∧ Below w.heap.size w wz ∧ (g = true ∨ ∃ (j : Nat) (hj : j < l2.length), t ≤ j ∧ blk n l2[j] = k / 256 ∧ l2[j].byte = x)) (fun _ i _ => l2.length - (intOf i).toNat)
                case atStart => exact ⟨0, g0, Nat.zero_le _, rfl, rfl, HBq.out, HG0.out⟩
                case round =>
                  obtain ⟨t, g, ht, rfl, rfl, hBz, hg⟩ := hrel
                  have HBz := hide hBz
                  have HG := hide hg
                  clear hBz hg
                  cases g with
                  | true =>
                    by_cases htl : t < l2.length
                    · have htz : (t : Int) < (l2.length : Int) := by omega
                      go_wp2
                      go_roundw
                      case rel => exact ⟨k + 1, hlt, by go_num, HBz.out⟩
                      case measure => simp [intOf]; omega
                    · have hte : t = l2.length := by omega
                      subst hte
                      go_wp2
                      go_roundw
                      case rel => exact ⟨k + 1, hlt, by go_num, HBz.out⟩
                      case measure => simp [intOf]; omega
                  | false =>
                    have htl : t < l2.length := by
                      rcases HG.out with h5 | ⟨j, hj, h5, _⟩
                      · cases h5
                      · omega
                    have htz : (t : Int) < (l2.length : Int) := by omega
                    obtain ⟨b, off, rfl, hc⟩ : ∃ b off, a2 = some ⟨b, off, none⟩ ∧ ∀ j (hj : j < l2.length), StepAt w b (off + j * 5) l2[j] := by
                      rcases H2.out with h0 | h1
                      · rw [h0] at htl; exact absurd htl (by simp)
                      · exact h1
                    obtain ⟨e1, e2⟩ := step_cells (hc t htl) HBz.out
                    obtain ⟨y, m, hmb, hu, hy, hm16, hm1, hm2, hw1, hw2, hw3, hw4, hn0⟩ := HSN.out l2[t]
                    have hn0' : ¬ n = 0 := by omega
                    have HNo : Hid (∀ g : Bool, (blk n l2[t] = k / 256 → l2[t].byte = x → g = true) → (g = true ∨ ∃ (j : Nat) (hj : j < l2.length), t + 1 ≤ j ∧ blk n l2[j] = k / 256 ∧ l2[j].byte = x)) := fun g hgg => by
                      rcases HG.out with h5 | ⟨j, hj, h5, h6, h7⟩
                      · cases h5
                      · by_cases hjt : j = t
                        · subst hjt; exact Or.inl (hgg h6 h7)
                        · exact Or.inr ⟨j, hj, by omega, h6, h7⟩
                    rw [← hmb] at HNo
                    clear hc hmb HG
                    generalize l2[t].b = xb at *
                    generalize l2[t].byte = xy at *
                    obtain ⟨hkd, hkd2, hkq⟩ := div_facts k (by omega)
                    generalize k / 256 = kq at *
                    have hw5 : wrap64 (kq : Int) = (kq : Int) := w64_nat hkq
                    have hw6 : IntKind.i64.wrap (kq : Int) = (kq : Int) := i64_nat hkq
                    by_cases hmk : m = kq
                    · subst hmk
                      obtain ⟨g2, hg2⟩ : ∃ g2 : Bool, ((xy : Int) == (x : Int)) = g2 := ⟨_, rfl⟩
                      have HE := hide (HNo.out g2 (fun _ h7 => by rw [← hg2, h7]; simp))
                      go_wp2_with fail
                      go_quiet (fail)
                      rw [HXe.out, hg2]
                      have HBq2 : Hid (Below w.heap.size w (wr.drewN nq)) := below_drewN HBz.out nq
                      clear hg2
                      go_wp2
                      go_roundw
                      case rel => exact ⟨t + 1, g2, htl, by go_num, rfl, HBq2.out, HE.out⟩
                      case measure => simp [intOf]; omega
                    · obtain ⟨hmz, hmz2⟩ := ne_false hmk
                      have HE := hide (HNo.out false (fun h6 => absurd h6 hmk))
                      go_wp2_with fail
                      go_quiet (fail)
                      have HBq2 : Hid (Below w.heap.size w (wr.drewN nq)) := below_drewN HBz.out nq
                      go_wp2
                      go_roundw
                      case rel => exact ⟨t + 1, false, htl, by go_num, rfl, HBq2.out, HE.out⟩
                      case measure => simp [intOf]; omega
              · have hke : k = M := by omega
                subst hke
                have KA := hide (alive_any HC.out wr)
                go_wp2_with fail
                refine KA.out.mono ?_
                rintro e w8 ⟨rfl, hb8⟩
                have HB8 := hide (HB.out.trans (hb8.mono HB.out.size))
                clear hb8 KA
                go_wp2
                go_ret
                exact ⟨rfl, HB8.out⟩
end Go.Proofs.Ytffniclijiekkaa
