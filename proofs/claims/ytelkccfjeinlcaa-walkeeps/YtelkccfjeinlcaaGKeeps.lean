/- The law WalKeeps: what its walk needs. The law WalKeeps. -/
import Derived.Test.YtelkccfjeinlcaaGRd
import Derived.Test.YtelkccfjeinlcaaG1Steps
import Derived.Test.YtelkccfjeinlcaaGForm
namespace Go.Proofs.Ytelkccfjeinlcaa
open Go Go.RowKit Frm Go.Shelf
theorem Lv.more {w : World} {p q r0 c c' : Nat} {all : List ByteArray} {st : St} {F : Nat → Prop} {u : World} (h : Lv w p q all r0 st F c u) (hc : c ≤ c') : Lv w p q all r0 st F c' u := ⟨h.live, h.al, h.log, h.notp, h.newp, Nat.le_trans h.few hc⟩
theorem Lv.form {w : World} {p q r0 c : Nat} {all : List ByteArray} {st : St} {F : Nat → Prop} {u : World} (h : Lv w p q all r0 st F c u) : Form 8 c st := ⟨h.live.ok, h.live.len, h.few⟩
/-- A list of numbers that lies anywhere, or nowhere, goes behind an empty row. -/
theorem wpList_append_ints {ops : Array Oper} {rest : List Oper} {o : Oper} {a : Act} {Q : Exit → Act → World → Prop} (w : World) (hgd : o.guard = none) (s x : Operand)
    (ho : o.op = .call { callee := .builtin .append, args := #[s, x], argTypes := #[38, 38] })
    (base : Nat) (v : Value) (hs : a.eval s = v) (hown : w.ownsRow base 3 1 v 0 [])
    (ao : Option Addr) (c : Nat) (L : List Int) (hx : a.eval x = .slice ao L.length c) (hI : IntsAt w ao L) (hn : ao = none → c = 0) (hl : L.length ≤ 10000) (hb : base ≤ w.heap.size)
    (h : ∀ v' w', w'.ownsRow base 3 1 v' L.length (L.map (Value.int .i64)) → w.grownBy w' v.ownBlock → wpList Try.prog ops Q rest (a.put o.dst v') w') : wpList Try.prog ops Q (o :: rest) a w := by
  obtain ⟨i0, hi, hz0, hz1, hz2⟩ := info_parts info3
  by_cases h0 : L = []
  · subst h0
    cases ao with
    | none =>
      have hc := hn rfl
      subst hc
      exact wpList_append_own_none hgd s x 38 ho base 3 i0 1 Try.underlying38 hi v 0 [] hs hown hx (h v w hown (World.grownBy.refl _ _))
    | some ad =>
      refine wpList_append_own w hgd s x 38 ho base 3 i0 (.int .i64 0) 1 8 Try.underlying38 hi hz0 hz1 hz2 rfl (by decide) v 0 [] hs hown ad 0 c [] hx rfl (fun j v hj => by cases hj) (fun v hv => by cases hv) (by decide) (by decide) hb ?_
      intro v' w' h1 h2 _
      exact h v' w' h1 h2
  · rcases hI with h1 | ⟨b, off, rfl, hc⟩
    · exact absurd h1 h0
    · refine wpList_append_own w hgd s x 38 ho base 3 i0 (.int .i64 0) 1 8 Try.underlying38 hi hz0 hz1 hz2 rfl (by decide) v 0 [] hs hown ⟨b, off, none⟩ L.length c (L.map (Value.int .i64)) hx (by simp) (news_ints hc) (one_ints _) (by unfold maxLen; omega) (by omega) hb ?_
      intro v' w' h1 h2 _
      rw [Nat.zero_add] at h1
      exact h v' w' h1 h2
theorem news_strs {w : World} {b off : Nat} {l : List ByteArray} (h : ∀ j (hj : j < l.length), w.cell? ⟨b, off + j, none⟩ = some (.string l[j])) : ∀ (j : Nat) (u : Value), (l.map Value.string)[j]? = some u → w.cell? ((⟨b, off, none⟩ : Addr).add j) = some u := fun j u hj => by
  have hj' : j < l.length := by
    have := (List.getElem?_eq_some_iff.1 hj).1
    simpa using this
  have hadd : (⟨b, off, none⟩ : Addr).add j = ⟨b, off + j, none⟩ := by unfold Addr.add; split <;> simp_all
  rw [hadd, h j hj']
  simpa [hj'] using hj
theorem one_strs (l : List ByteArray) : ∀ u ∈ l.map Value.string, u.oneCell' = true := fun u hu => by
  obtain ⟨x, _, rfl⟩ := List.mem_map.1 hu
  rfl
theorem infoS : (Try.prog.info? 9).map (fun i => (i.zero, i.size, i.bytes)) = some (some (.string ⟨#[]⟩), 1, 16) := by kernel_rfl
/-- A list of texts that lies anywhere, or nowhere, goes behind an empty row. -/
theorem wpList_append_strs {ops : Array Oper} {rest : List Oper} {o : Oper} {a : Act} {Q : Exit → Act → World → Prop} (w : World) (hgd : o.guard = none) (s x : Operand)
    (ho : o.op = .call { callee := .builtin .append, args := #[s, x], argTypes := #[43, 43] })
    (base : Nat) (v : Value) (hs : a.eval s = v) (hown : w.ownsRow base 9 1 v 0 [])
    (ao : Option Addr) (c : Nat) (L : List ByteArray) (hx : a.eval x = .slice ao L.length c) (hI : StrsAt w ao L) (hn : ao = none → c = 0) (hl : L.length ≤ 10000) (hb : base ≤ w.heap.size)
    (h : ∀ v' w', OwnL w' base v' L → w.grownBy w' v.ownBlock → wpList Try.prog ops Q rest (a.put o.dst v') w') : wpList Try.prog ops Q (o :: rest) a w := by
  obtain ⟨i0, hi, hz0, hz1, hz2⟩ := info_parts infoS
  by_cases h0 : L = []
  · subst h0
    cases ao with
    | none =>
      have hc := hn rfl
      subst hc
      exact wpList_append_own_none hgd s x 43 ho base 9 i0 1 Try.underlying43 hi v 0 [] hs hown hx (h v w hown (World.grownBy.refl _ _))
    | some ad =>
      refine wpList_append_own w hgd s x 43 ho base 9 i0 (.string ⟨#[]⟩) 1 16 Try.underlying43 hi hz0 hz1 hz2 rfl (by decide) v 0 [] hs hown ad 0 c [] hx rfl (fun j v hj => by cases hj) (fun v hv => by cases hv) (by decide) (by decide) hb ?_
      intro v' w' h1 h2 _
      exact h v' w' h1 h2
  · rcases hI with h1 | ⟨b, off, rfl, hc⟩
    · exact absurd h1 h0
    · refine wpList_append_own w hgd s x 43 ho base 9 i0 (.string ⟨#[]⟩) 1 16 Try.underlying43 hi hz0 hz1 hz2 rfl (by decide) v 0 [] hs hown ⟨b, off, none⟩ L.length c (L.map Value.string) hx (by simp) (news_strs hc) (one_strs _) (by unfold maxLen; omega) (by omega) hb ?_
      intro v' w' h1 h2 _
      rw [Nat.zero_add] at h1
      exact h v' w' h1 h2
/-- A row of one's own: no more than its room; where it lies nowhere it has none. -/
theorem own_cap {u : World} {b n c : Nat} {a : Option Addr} {l : List ByteArray} (h : OwnL u b (.slice a n c) l) : n ≤ c ∧ (a = none → c = 0) := by
  rcases h.2 with ⟨e, hz⟩ | ⟨g, cap, cur, e, _, _, h2, _⟩
  · cases e
    exact ⟨Nat.le_refl _, fun _ => rfl⟩
  · cases e
    exact ⟨h2, fun e => by cases e⟩
theorem strs_take {u : World} {a : Option Addr} {l : List ByteArray} (h : StrsAt u a l) (r : Nat) : StrsAt u a (l.take r) := by
  rcases h with rfl | ⟨b, off, rfl, hc⟩
  · rw [List.take_nil]; exact Or.inl rfl
  · refine Or.inr ⟨b, off, rfl, fun j hj => ?_⟩
    rw [List.getElem_take]
    exact hc j (by rw [List.length_take] at hj; omega)
/-- A crash. -/
theorem al_crashed (w : World) (q c : Nat) (st : St) (F : Nat → Prop) (a : Option Addr) (cc : Nat) (picks : List Int) (u : World) (h : Al w q st F u) (hf : Form 8 c st) (hc : c ≤ 10000) (hP : IntsAt u a picks) (hap : Apart a picks F) (hpl : picks.length ≤ 140737488351232) (hr : ∀ x ∈ picks, -9223372036854775808 ≤ x ∧ x ≤ 9223372036854775807) :
    Calls Try.prog 23 #[.pointer (some ⟨q, 0, none⟩), .slice a picks.length cc] u fun e v => e = .returned (.int .i64 0) ∧ ∃ F', Al w q (st.crash picks) F' v ∧ Loc F F' u v := by
  refine (con.crash q st F a cc picks u h.disk hf.ok (Nat.le_trans hf.few hc) hP hap hpl hr).mono ?_
  rintro e v ⟨rfl, F', hd, hl⟩
  exact ⟨rfl, F', h.step hd hl, hl⟩
theorem al_fused (w : World) (q c : Nat) (st : St) (F : Nat → Prop) (n : Int) (u : World) (h : Al w q st F u) (hf : Form 8 c st) (hn : -9223372036854775808 ≤ n ∧ n ≤ 9223372036854775807) :
    Calls Try.prog 24 #[.pointer (some ⟨q, 0, none⟩), .int .i64 n] u fun e v => e = .returned (.int .i64 0) ∧ ∃ F', Al w q (st.fuse n) F' v ∧ Loc F F' u v := by
  refine (con.fuse q st F n u h.disk hf.ok hn).mono ?_
  rintro e v ⟨rfl, F', hd, hl⟩
  exact ⟨rfl, F', h.step hd hl, hl⟩
theorem al_opened (w : World) (q c : Nat) (st : St) (F : Nat → Prop) (u : World) (h : Al w q st F u) (hf : Form 8 c st) (hc : c + 16 ≤ 10000) :
    Calls Try.prog 19 #[.pointer (some ⟨q, 0, none⟩), .int .i64 0, .int .i64 8] u fun e v => ∃ x a n k F', e = .returned (.tuple #[.pointer x, .slice a n k, .int .i64 (((walOpen st 0 8).1.1 : Nat) : Int)]) ∧ Al w q (walOpen st 0 8).2 F' v ∧ Loc F F' u v := by
  have key := pOpen q 0 8 st F u h.disk hf.ok (by have := hf.few; omega) (by rw [hf.len]; exact Nat.le_refl _) (by decide) (by decide)
  refine Calls.mono key ?_
  rintro e v (⟨h0, p', vR, F', rfl, hL, hp, hR, hd, hl, hnp, hdj, hop⟩ | ⟨h1, rfl, F', hd, hl⟩)
  · obtain ⟨a, k, rfl, hs⟩ := hR.strs
    exact ⟨_, a, _, k, F', by rw [h0]; rfl, h.step hd hl, hl⟩
  · exact ⟨none, none, 0, 0, F', rfl, h.step hd hl, hl⟩
theorem lv_opened (w : World) (q c r : Nat) (recs : List ByteArray) (st st' : St) (F : Nat → Prop) (u : World) (h : Al w q st F u) (hf : Form 8 c st) (hc : c + 16 ≤ 10000) (ho : walOpen st 0 8 = ((0, cat recs, recs), st')) (hlv : Live recs r st') :
    Calls Try.prog 19 #[.pointer (some ⟨q, 0, none⟩), .int .i64 0, .int .i64 8] u fun e v => ∃ p' a k F', e = .returned (.tuple #[.pointer (some ⟨p', 0, none⟩), .slice a recs.length k, .int .i64 0]) ∧ Lv w p' q recs r st' F' (c + 16) v ∧ OwnL v w.heap.size (.slice a recs.length k) recs ∧ Loc F F' u v := by
  have key := pOpen q 0 8 st F u h.disk hf.ok (by have := hf.few; omega) (by rw [hf.len]; exact Nat.le_refl _) (by decide) (by decide)
  have hfew : st'.loose.length ≤ c + 16 := by
    have := (hf.open 0 8).few
    rw [ho] at this
    exact this
  rw [ho] at key
  refine Calls.mono key ?_
  rintro e v (⟨h0, p', vR, F', rfl, hL, hp, hR, hd, hl, hnp, hdj, hop⟩ | ⟨h1, _⟩)
  · obtain ⟨a, k, rfl, hs⟩ := hR.strs
    exact ⟨p', a, k, F', rfl, ⟨hlv, h.step hd hl, hL, hnp, Nat.le_trans h.below.size hp, hfew⟩, own_up hR (fun k hk => Nat.le_trans h.below.size (own_ge hR hk)), hl⟩
  · exact absurd rfl h1
end Go.Proofs.Ytelkccfjeinlcaa
namespace Go.Proofs.Ytelkccfjeinlcaa
open Go Go.RowKit Frm Go.Shelf
theorem mod3 (a k : Nat) (h : a % 3 = k) : Int.tmod (a : Int) 3 = (k : Int) := by rw [Int.tmod_eq_emod_of_nonneg (by omega)]; omega
theorem mod3e (a k : Nat) (h : a % 3 = k) : (a : Int) % 3 = (k : Int) := by omega
theorem mod4 (a : Nat) : Int.tmod (a : Int) 4 = ((a % 4 : Nat) : Int) := by rw [Int.tmod_eq_emod_of_nonneg (by omega)]; omega
theorem t_wrap {t : Nat} (h : t < 256) : wrap64 (t : Int) = (t : Int) := by unfold wrap64; omega
theorem t_iwrap {t : Nat} (h : t < 256) : IntKind.i64.wrap (t : Int) = (t : Int) := by rw [IntKind.wrap_i64]; omega
theorem t_fit (t : Nat) : -9223372036854775808 ≤ ((t : Int) % 4) ∧ ((t : Int) % 4) ≤ 9223372036854775807 := by omega
theorem snoc_len {acc : List ByteArray} {k : Nat} (h : acc.length ≤ k) (t : ByteArray) : (acc ++ [t]).length ≤ k + 1 := by rw [List.length_append]; simp; omega
theorem pick_old {w : World} {b o : Nat} {x : Stp} (h : StepAt w b o x) : x.picks ≠ [] → ∀ b off, x.pa = some ⟨b, off, none⟩ → b < w.heap.size := fun hne b off e => by
  rcases h.2.2.2.2.2 with h0 | ⟨b', off', h1, hc⟩
  · exact absurd h0 hne
  · rw [e] at h1
    cases h1
    exact World.block_lt_of_cell? w _ (hc 0 (List.length_pos_iff.2 hne))
set_option maxRecDepth 10000 in
set_option maxHeartbeats 4000000 in
theorem WalKeeps_any (a : Option Addr) (c : Nat) (l : List Stp) (w : World) (h : StepsAt w a l) (hok : ∀ x ∈ l, x.Ok) (hl : l.length ≤ 140737488351232) :
    Calls Try.prog 4 #[.slice a l.length c] w fun e w' => e = .returned (.bool true) ∧ Below w.heap.size w w' := by
  have KA := hide alive_any
  have HSt := hide h
  have HOk := hide hok
  have KH := hide (heavy_any a c l w h hok hl)
  clear h hok
  go_enter Try.func4, Try.ntmps4
  go_wp2_with fail
  refine KH.out.mono ?_
  rintro e w1 ⟨r, rfl, ⟨n1, hw1⟩, hr⟩
  have HB1 : Hid (Below w.heap.size w w1) := by rw [hw1]; exact below_drewN (Below.refl _ _) n1
  clear hw1
  cases r with
  | true =>
    clear hr
    go_wp2_with fail
    refine (KA.out _).mono ?_
    rintro e w2 ⟨rfl, hb2⟩
    have HB2 := hide (bnext HB1.out hb2)
    clear hb2
    go_wp2
    go_ret
    exact ⟨rfl, HB2.out⟩
  | false =>
    obtain ⟨hl60, hsm⟩ := hr rfl
    have HSm := hide hsm
    clear hr hsm
    have K1 := hide (con.new 8 w1 (by decide) (by decide))
    have K2 : Hid (∀ q F u, DAt u q (St.new 8) F → Calls Try.prog 18 #[.pointer (some ⟨q, 0, none⟩), .int .i64 0, .int .i64 8] u fun e w' => e = .returned (.int .i64 0) ∧ ∃ F', DAt w' q (bare 8 (cat [])) F' ∧ Loc F F' u w') := fun q F u h => by
      have := clear_any q 0 8 (St.new 8) F u h (St.Ok.new (by decide) (by decide)) (by decide) (by decide) (by decide)
      rw [clear_eight] at this
      exact this
    go_wp2_with fail
    refine K1.out.mono ?_
    rintro e w2 ⟨q, F1, rfl, hd1, hF1, hb1⟩
    have K2a := hide (K2.out q F1 w2 hd1)
    have A1 := hide (Al.mk (w := w) (st := St.new 8) hd1 (bnext HB1.out hb1) (fun k hk => Nat.le_trans HB1.out.size (hF1 k hk)))
    clear hd1 hF1 hb1
    go_wp2_with fail
    refine K2a.out.mono ?_
    rintro e w3 ⟨rfl, F2, hd2, hl2⟩
    have A2 := hide (A1.out.step hd2 hl2)
    clear hd2 hl2
    have K3a := hide (lv_open0 w q F2 w3 A2.out)
    go_wp2_with fail
    refine K3a.out.mono ?_
    rintro e w4 ⟨p0, a3, c3, F3, rfl, hlv, hown, hsep⟩
    have HLv := hide hlv
    have HLst : Hid (Lst w p0 F3 (.slice a3 0 c3) [] w4) := ⟨hown, hsep⟩
    clear hlv hown hsep K1 K2 K2a K3a A1 A2 KH
    obtain ⟨i0, hi, hz0, hz1, hzb⟩ := info_parts (P := Try.prog) (e := 9) (z := .string ⟨#[]⟩) (size := 1) (bytes := 16) (by kernel_rfl)
    have HI := hide (And.intro hi (And.intro hz0 (And.intro hz1 hzb)))
    clear hi hz0 hz1 hzb
    go_wp2_with fail
    go_loopw [5, 6, 8, 9, 10, 11, 12, 13, 14, 15] (fun xv av sv i _ _ _ _ _ _ u => ∃ (k p : Nat) (all : List ByteArray) (r0 : Nat) (st : St) (F : Nat → Prop), k ≤ l.length ∧ i = .int .i64 (k : Int) ∧ xv = .pointer (some ⟨p, 0, none⟩) ∧ sv = .int .i64 (r0 : Int) ∧ all.length ≤ k ∧ Lv w p q all r0 st F (16 * k) u ∧ Lst w p F av all u) (fun _ _ _ i _ _ _ _ _ _ _ => l.length - (intOf i).toNat)
    case atStart => exact ⟨0, p0, [], 0, _, F3, Nat.zero_le _, rfl, rfl, rfl, Nat.le_refl _, HLv.out, HLst.out⟩
    case round =>
      obtain ⟨k, p, all, r0, st, F, hk, rfl, rfl, rfl, hak, hv, hls⟩ := hrel
      clear HLv HLst
      by_cases hlt : k < l.length
      · obtain ⟨b, off, rfl, hc⟩ : ∃ b off, a = some ⟨b, off, none⟩ ∧ ∀ j (hj : j < l.length), StepAt w b (off + j * 5) l[j] := by
          rcases HSt.out with h0 | h1
          · rw [h0] at hlt; exact absurd hlt (by simp)
          · exact h1
        have HCk := hide (fun v (hb : Below w.heap.size w v) => (hc k hlt).old hb)
        have hxo := HOk.out _ (List.getElem_mem hlt)
        have hsm := HSm.out _ (List.getElem_mem hlt)
        have hpb := pick_old (hc k hlt)
        clear hc
        generalize l[k] = x at *
        have hz : (k : Int) < (l.length : Int) := by omega
        have hw1 : IntKind.i64.wrap ((k : Int) + 1) = (k : Int) + 1 := by rw [IntKind.wrap_i64]; omega
        have hact := hxo.act
        obtain ⟨aa, ca, rfl, -⟩ := hls.own.strs
        rcases Nat.lt_or_ge (x.act % 3) 1 with h3 | h3
        · have h30 : x.act % 3 = 0 := by omega
          have hm := mod3 x.act 0 h30
          have HW1 := hide hw1
          obtain ⟨e0, e1, e2, e3, e4, -⟩ := HCk.out wr hv.al.below
          have KT := hide (fun u => text_any x u hxo (by omega))
          have hsz : x.says.size ≤ 65536 := by have := says_size x; omega
          have KP := hide (fun u (hb : Below wr.heap.size wr u) => lv_append w p q r0 (16 * k) all x.says st F u (hv.keep hb) (by omega) hsz)
          have HLs := hide hls
          have HAK := hide hak
          have HHK : Hid (k ≤ 60) := by show k ≤ 60; omega
          unfold Stp.val at KT
          clear hv hls hak hxo hsm hpb h3 h30 hw1 hsz
          generalize x.says = t at *
          by_cases hfit : (cat all).size + (t.size + 8) ≤ 2040
          · rw [if_pos hfit, if_pos hfit] at KP
            clear hfit
            go_wp2_with fail
            refine (KT.out _).mono ?_
            rintro e u1 ⟨rfl, hb1⟩
            have KP1 := hide (KP.out u1 hb1)
            have HLs1 := hide (HLs.out.keep hb1)
            clear hb1 KP HLs
            go_wp2_with fail
            refine KP1.out.mono ?_
            rintro e u2 ⟨st2, F2, rfl, hv2, hl2⟩
            have HLs2 := hide (HLs1.out.loc hl2)
            have HV2 := hide hv2
            obtain ⟨e0', e1', e2', e3', e4', -⟩ := HCk.out u2 hv2.al.below
            clear hv2 hl2 HLs1 e0 e1 e2 e3 e4
            go_wp2_with fail
            refine (KT.out _).mono ?_
            rintro e u3 ⟨rfl, hb3⟩
            have HLs3 := hide (HLs2.out.keep hb3)
            have HV3 := hide (HV2.out.keep hb3)
            clear hb3 HLs2 HV2 e0' e1' e2' e3' e4'
            go_wp2_with (at_builtin; refine wpList_append_lies _ rfl _ _ 43 rfl w.heap.size 9 i0 (.string ⟨#[]⟩) 1 16 Try.underlying43 HI.out.1 HI.out.2.1 HI.out.2.2.1 HI.out.2.2.2 rfl (by decide) _ _ _ rfl (World.ownsRow.alloc HLs3.out.own _) ⟨u3.heap.size, 0, none⟩ 1 1 [.string t] rfl rfl ?c1 ?c2 (by decide) ?c3 ?c4 ?c5 (u3.heap.size + 1) (by simp) ?_)
            case c1 =>
              intro j u hj
              match j, hj with
              | 0, hj => simp at hj; subst hj; simp [Addr.add, go_sem]
            case c2 => first | rfl | (intro u hu; simp at hu; subst hu; rfl)
            case c3 => have := HAK.out; have := HHK.out; unfold maxLen; omega
            case c4 => have := HAK.out; have := HHK.out; omega
            case c5 => have := HV3.out.al.below.size; simp; omega
            · intro g cap u4 hown4 hgrow4 hat4 _
              obtain ⟨hv4, hls4⟩ := lst_more HV3.out HLs3.out hown4 hgrow4 hat4
              have HV4 := hide (hv4.more (c' := 16 * (k + 1)) (by omega))
              have HLs4 := hide hls4
              have HLen := hide (snoc_len HAK.out t)
              clear hown4 hgrow4 hat4 hv4 hls4 HV3 HLs3
              have hw1 := HW1.out
              go_wp2
              go_roundw
              case rel => exact ⟨k + 1, p, all ++ [t], r0, st2, F2, hlt, by go_num, rfl, rfl, HLen.out, HV4.out, HLs4.out⟩
              case measure => simp [intOf]; omega
          · rw [if_neg hfit, if_neg hfit] at KP
            clear hfit
            go_wp2_with fail
            refine (KT.out _).mono ?_
            rintro e u1 ⟨rfl, hb1⟩
            have KP1 := hide (KP.out u1 hb1)
            have HLs1 := hide (HLs.out.keep hb1)
            clear hb1 KP HLs
            go_wp2_with fail
            refine KP1.out.mono ?_
            rintro e u2 ⟨st2, F2, rfl, hv2, hl2⟩
            have HLs2 := hide (HLs1.out.loc hl2)
            have HV2 := hide (hv2.more (c' := 16 * (k + 1)) (by omega))
            clear hv2 hl2 HLs1 e0 e1 e2 e3 e4
            have hw1 := HW1.out
            go_wp2
            go_roundw
            case rel => exact ⟨k + 1, p, all, r0, st2, F2, hlt, by go_num, rfl, rfl, Nat.le_succ_of_le HAK.out, HV2.out, HLs2.out⟩
            case measure => simp [intOf]; omega
        · rcases Nat.lt_or_ge (x.act % 3) 2 with h4 | h4
          · have h31 : x.act % 3 = 1 := by omega
            have hm := mod3 x.act 1 h31
            have HW1 := hide hw1
            obtain ⟨e0, -, -, -, -, -⟩ := HCk.out wr hv.al.below
            have K5 := hide (lv_sync w p q r0 (16 * k) all st F wr hv (by omega))
            have HLs := hide hls
            have HAK := hide hak
            clear hv hls hak hxo hsm hpb h3 h4 h31 hw1
            go_wp2_with fail
            refine K5.out.mono ?_
            rintro e u1 ⟨st1, F1, rfl, hv1, -, hl1⟩
            have HV1 := hide (hv1.more (c' := 16 * (k + 1)) (Nat.zero_le _))
            have HLs1 := hide (HLs.out.loc0 hl1)
            clear hv1 hl1 HLs
            have hw1 := HW1.out
            go_wp2
            go_roundw
            case rel => exact ⟨k + 1, p, all, all.length, st1, F1, hlt, by go_num, rfl, rfl, Nat.le_succ_of_le HAK.out, HV1.out, HLs1.out⟩
            case measure => simp [intOf]; omega
          · have h32 : x.act % 3 = 2 := by omega
            have hm := mod3 x.act 2 h32
            have HW1 := hide hw1
            obtain ⟨e0, -, -, -, e4, e5⟩ := HCk.out wr hv.al.below
            have hm4 := mod4 x.times
            have htm := hxo.times
            have hw0 := t_wrap htm
            have hwi := t_iwrap htm
            have hkk := t_fit x.times
            have HF0 := hide hv.form
            have HF1 := hide (hv.form.crash x.picks)
            have HF2 := hide ((hv.form.crash x.picks).fuse ((x.times : Int) % 4) hkk.2)
            have HF3 := hide (((hv.form.crash x.picks).fuse ((x.times : Int) % 4) hkk.2).open 0 8)
            have HRd := hide (hv.live.round x.picks x.picks ((x.times : Int) % 4))
            have HV := hide hv
            have HLs := hide hls
            have HAK := hide hak
            have HHK : Hid (k ≤ 60) := by show k ≤ 60; omega
            have HXo := hide hxo
            have HPb := hide hpb
            have HLp : Hid (x.picks.length ≤ 10000) := by show _ ≤ _; omega
            have HPl : Hid (x.picks.length ≤ 140737488351232) := by show _ ≤ _; omega
            have HKK := hide hkk
            have e4a := ((HCk.out wr hv.al.below).old ((Below.refl _ wr).alloc (Nat.le_refl _) (.cells #[] 3))).2.2.2.2.1
            have HI3 := hide (e5.old ((Below.refl _ wr).alloc (Nat.le_refl _) (.cells #[] 3)))
            have HBw : Hid (wr.heap.size ≤ (wr.alloc (.cells #[] 3)).heap.size) := by unfold Hid; simp
            have HR3 := hide (World.ownsRow_lit (base := wr.heap.size) (e := 3) (size := 1) wr #[] 0 (Nat.le_refl _) (by decide) rfl)
            clear hv hls hak hxo hsm hpb h3 h4 h32 hw1 hkk e5 hwi hk htm
            go_wp2_with (at_builtin; refine wpList_append_ints _ rfl _ _ rfl wr.heap.size _ rfl HR3.out x.pa x.pc x.picks rfl HI3.out HXo.out.nil HLp.out HBw.out ?_)
            · intro v5 u1 hown5 hgrow5
              obtain ⟨a5, c5, rfl, hi5, hg5⟩ := ints_of_own (by rw [show x.picks.length = x.picks.length from rfl]; exact hown5)
              have hb5 : Below wr.heap.size wr u1 := ((Below.refl _ _).alloc (Nat.le_refl _) (.cells #[] 3)).grown hgrow5 (by simp) (fun j e => by cases e; exact Nat.le_refl _)
              have HA1 := hide (HV.out.al.keep hb5)
              have KC := hide (al_crashed w q (16 * k) st F a5 c5 x.picks u1 HA1.out HF0.out (by have := HHK.out; omega) hi5 (fun _ b off e hf => by have q1 := hg5 b off e; have q2 := con.lt HV.out.al.disk b hf; omega) HPl.out HXo.out.picks)
              have HLs1 := hide (HLs.out.keep hb5)
              clear hown5 hgrow5 hi5 hg5 hb5 HR3 HI3 HBw HLs e0 e4 e4a
              go_wp2_with fail
              refine KC.out.mono ?_
              rintro e u2 ⟨rfl, F2, hA2, hl2⟩
              have HA2 := hide hA2
              have HLs2 := hide (HLs1.out.loc0 hl2)
              obtain ⟨-, -, e2, -, -, -⟩ := HCk.out u2 hA2.below
              have KF := hide (al_fused w q 0 (st.crash x.picks) F2 ((x.times : Int) % 4) u2 hA2 HF1.out HKK.out)
              clear hA2 hl2 HLs1 KC HA1
              go_wp2_with fail
              refine KF.out.mono ?_
              rintro e u3 ⟨rfl, F3', hA3, hl3⟩
              have HA3 := hide hA3
              have HLs3 := hide (HLs2.out.loc0 hl3)
              have KO := hide (al_opened w q 0 ((st.crash x.picks).fuse ((x.times : Int) % 4)) F3' u3 hA3 HF2.out (by decide))
              clear hA3 hl3 HLs2 HA2 KF e2 hm4 hw0
              obtain ⟨hg, r, st', hr0, hrl, hop, hlv⟩ := HRd.out
              have HG := hide hg
              have HR0 := hide hr0
              have HRl := hide hrl
              have HOp := hide hop
              have HLv := hide hlv
              have HF4 := hide (HF3.out.crash x.picks)
              clear hg hr0 hrl hop hlv HRd
              generalize walOpen ((st.crash x.picks).fuse ((x.times : Int) % 4)) 0 8 = X at *
              go_wp2_with fail
              refine KO.out.mono ?_
              rintro e u4 ⟨xo, ao, no, co, F4, rfl, hA4, hl4⟩
              have HA4 := hide hA4
              have HLs4 := hide (HLs3.out.loc0 hl4)
              have e4b := ((HCk.out u4 hA4.below).old ((Below.refl _ u4).alloc (Nat.le_refl _) (.cells #[] 3))).2.2.2.2.1
              have HI4 := hide ((HCk.out u4 hA4.below).2.2.2.2.2.old ((Below.refl _ u4).alloc (Nat.le_refl _) (.cells #[] 3)))
              have HBw4 : Hid (u4.heap.size ≤ (u4.alloc (.cells #[] 3)).heap.size) := by unfold Hid; simp
              have HR4 := hide (World.ownsRow_lit (base := u4.heap.size) (e := 3) (size := 1) u4 #[] 0 (Nat.le_refl _) (by decide) rfl)
              clear hA4 hl4 HLs3 HA3 KO
              go_wp2_with (at_builtin; refine wpList_append_ints _ rfl _ _ rfl u4.heap.size _ rfl HR4.out x.pa x.pc x.picks rfl HI4.out HXo.out.nil HLp.out HBw4.out ?_)
              intro v6 u5 hown6 hgrow6
              obtain ⟨a6, c6, rfl, hi6, hg6⟩ := ints_of_own (by rw [show x.picks.length = x.picks.length from rfl]; exact hown6)
              have hb6 : Below u4.heap.size u4 u5 := ((Below.refl _ _).alloc (Nat.le_refl _) (.cells #[] 3)).grown hgrow6 (by simp) (fun j e => by cases e; exact Nat.le_refl _)
              have HA5 := hide (HA4.out.keep hb6)
              have KC2 := hide (al_crashed w q 16 X.2 F4 a6 c6 x.picks u5 HA5.out HF3.out (by decide) hi6 (fun _ b off e hf => by have q1 := hg6 b off e; have q2 := con.lt HA4.out.disk b hf; omega) HPl.out HXo.out.picks)
              have HLs5 := hide (HLs4.out.keep hb6)
              clear hown6 hgrow6 hi6 hg6 hb6 HR4 HI4 HBw4 HLs4 e4b HA4
              go_wp2_with fail
              refine KC2.out.mono ?_
              rintro e u6 ⟨rfl, F6, hA6, hl6⟩
              have HLs6 := hide (HLs5.out.loc0 hl6)
              have KO2 := hide (lv_opened w q 0 r (all.take r) (X.2.crash x.picks) st' F6 u6 hA6 HF4.out (by decide) HOp.out HLv.out)
              have HTL : Hid ((all.take r).length = r) := by show _ = _; rw [List.length_take]; exact Nat.min_eq_left HRl.out
              rw [HTL.out] at KO2
              clear hA6 hl6 HLs5 HA5 KC2
              go_wp2_with fail
              refine KO2.out.mono ?_
              rintro e u7 ⟨p7, a7, c7, F7, rfl, hv7, hown7, hl7⟩
              have HLs7 := hide (HLs6.out.loc0 hl7)
              have HV7 := hide (hv7.more (c' := 16 * (k + 1)) (by omega))
              have HOw7 := hide hown7
              obtain ⟨a7', c7', e7, hs7⟩ := hown7.strs
              obtain ⟨q1, -, q2⟩ := Value.slice.inj e7
              clear e7
              subst q1 q2
              obtain ⟨aa', ca', eaa, hsa⟩ := HLs7.out.own.strs
              cases eaa
              have hcap := (own_cap HLs7.out.own).1
              have hrl := HRl.out
              have hr0 := HR0.out
              have K7 := hide (same_any a7 aa c7 ca (all.take r) u7 hs7 (strs_take hsa r) (by rw [HTL.out]; have := HAK.out; have := HHK.out; omega))
              rw [HTL.out] at K7
              have HS7 := hide hs7
              clear hv7 hown7 hl7 HLs6 KO2 hs7 hsa
              have hc1 : (r : Int) ≤ (ca : Int) := by omega
              have hc2 : ¬ ((r : Int) < (r0 : Int)) := by omega
              have hc3 : ¬ ((all.length : Int) < (r : Int)) := by omega
              have HCap := hide (own_cap HOw7.out).2
              have HL1 : Hid (r ≤ 10000) := by show r ≤ 10000; have := HAK.out; have := HHK.out; omega
              have HLr : Hid (r ≤ k + 1) := by show r ≤ k + 1; have := HAK.out; omega
              have HLT := hide hlt
              clear hcap hrl hr0 hm hact hl60 hl hlt hz
              rcases HG.out with hg | hg <;> rw [hg] <;> clear hg HG
              all_goals
                go_wp2_with fail
                refine K7.out.mono ?_
                rintro e u8 ⟨rfl, n8, rfl⟩
                have HV8 := hide (HV7.out.drewN n8)
                have HS8 : Hid (StrsAt (u7.drewN n8) a7 (all.take r)) := HS7.out
                generalize u7.drewN n8 = u8 at *
                have HS9 := hide (HS8.out.below ((Below.refl _ u8).alloc (Nat.le_refl _) (.cells #[] 9)))
                have HBw8 : Hid (u8.heap.size ≤ (u8.alloc (.cells #[] 9)).heap.size) := by unfold Hid; simp
                have HR8 := hide (World.ownsRow_lit (base := u8.heap.size) (e := 9) (size := 1) u8 #[] 0 (Nat.le_refl _) (by decide) rfl)
                go_wp2_with (at_builtin; refine wpList_append_strs _ rfl _ _ rfl u8.heap.size _ rfl HR8.out a7 c7 (all.take r) (by rw [HTL.out]; rfl) HS9.out HCap.out (by rw [HTL.out]; exact HL1.out) HBw8.out ?_)
                intro v9 u9 hown9 hgrow9
                have hb9 : Below u8.heap.size u8 u9 := ((Below.refl _ _).alloc (Nat.le_refl _) (.cells #[] 9)).grown hgrow9 (by simp) (fun j e => by cases e; exact Nat.le_refl _)
                have HV9 := hide (HV8.out.keep hb9)
                have HLs9 : Hid (Lst w p7 F7 v9 (all.take r) u9) := ⟨own_up hown9 (fun j hj => Nat.le_trans HV8.out.al.below.size (own_ge hown9 hj)), fun j hj => ⟨fun hf => by have q1 := own_ge hown9 hj; have q2 := con.lt HV8.out.al.disk j hf; omega, fun e => by have q1 := own_ge hown9 hj; have q2 := HV8.out.log.lt; omega⟩⟩
                obtain ⟨a9, c9, rfl, -⟩ := hown9.strs
                rw [HTL.out] at HLs9 ⊢
                clear hown9 hgrow9 hb9 HR8 HS8 HS9 HBw8 HV8 HV7
                have hw1 := HW1.out
                clear hc1 hc2 hc3
                have hlt := HLT.out
                go_wp2
                go_roundw
                case rel => exact ⟨k + 1, p7, all.take r, r, st', F7, hlt, by go_num, rfl, rfl, by rw [HTL.out]; exact HLr.out, HV9.out, HLs9.out⟩
                case measure => simp [intOf]; omega
      · have hkl : k = l.length := by omega
        subst hkl
        have HB := hide hv.al.below
        clear hv hls
        go_wp2_with fail
        refine (KA.out _).mono ?_
        rintro e w9 ⟨rfl, hb9⟩
        have HB9 := hide (bnext HB.out hb9)
        clear hb9
        go_wp2
        go_ret
        exact ⟨rfl, HB9.out⟩
end Go.Proofs.Ytelkccfjeinlcaa
