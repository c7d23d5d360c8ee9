/- The law WalKeeps: what its walk needs. -/
import Derived.Test.YtelkccfjeinlcaaGRd
import Derived.Test.YtelkccfjeinlcaaG1Steps
import Derived.Test.YtelkccfjeinlcaaGForm
namespace Go.Proofs.Ytelkccfjeinlcaa
open Go Go.RowKit Frm Go.Shelf
theorem Lv.more {w : World} {p q r0 c c' : Nat} {all : List ByteArray} {st : St} {F : Nat → Prop} {u : World} (h : Lv w p q all r0 st F c u) (hc : c ≤ c') : Lv w p q all r0 st F c' u := ⟨h.live, h.al, h.log, h.notp, h.newp, Nat.le_trans h.few hc⟩
theorem Lv.form {w : World} {p q r0 c : Nat} {all : List ByteArray} {st : St} {F : Nat → Prop} {u : World} (h : Lv w p q all r0 st F c u) : Form 8 c st := ⟨h.live.ok, h.live.len, h.few⟩
/-- A list of numbers that lies anywhere, or nowhere, goes behind an empty row. -/
theorem wpList_append_ints {ops : Array Oper} {rest : List Oper} {o : Oper} {a : Act} {Q : Exit → Act → World → Prop} (w : World) (hgd : o.guard = none) (s x : Operand)
    (ho : o.op = .call { callee := .builtin .append, args := #[s, x], argTypes := #[38, 38] })
    (base : Nat) (v : Value) (hs : a.eval s = v) (hown : w.ownsRow base 3 1 v 0 [])
    (ao : Option Addr) (c : Nat) (L : List Int) (hx : a.eval x = .slice ao L.length c) (hI : IntsAt w ao L) (hn : ao = none → c = 0) (hl : L.length ≤ 10000) (hb : base ≤ w.heap.size)
    (h : ∀ v' w', w'.ownsRow base 3 1 v' L.length (L.map (Value.int .i64)) → w.grownBy w' v.ownBlock → wpList Try.prog ops Q rest (a.put o.dst v') w') : wpList Try.prog ops Q (o :: rest) a w := by
  obtain ⟨i0, hi, hz0, hz1, hz2⟩ := info_parts info3
  by_cases h0 : L = []
  · subst h0
    cases ao with
    | none =>
      have hc := hn rfl
      subst hc
      exact wpList_append_own_none hgd s x 38 ho base 3 i0 1 Try.underlying38 hi v 0 [] hs hown hx (h v w hown (World.grownBy.refl _ _))
    | some ad =>
      refine wpList_append_own w hgd s x 38 ho base 3 i0 (.int .i64 0) 1 8 Try.underlying38 hi hz0 hz1 hz2 rfl (by decide) v 0 [] hs hown ad 0 c [] hx rfl (fun j v hj => by cases hj) (fun v hv => by cases hv) (by decide) (by decide) hb ?_
      intro v' w' h1 h2 _
      exact h v' w' h1 h2
  · rcases hI with h1 | ⟨b, off, rfl, hc⟩
    · exact absurd h1 h0
    · refine wpList_append_own w hgd s x 38 ho base 3 i0 (.int .i64 0) 1 8 Try.underlying38 hi hz0 hz1 hz2 rfl (by decide) v 0 [] hs hown ⟨b, off, none⟩ L.length c (L.map (Value.int .i64)) hx (by simp) (news_ints hc) (one_ints _) (by unfold maxLen; omega) (by omega) hb ?_
      intro v' w' h1 h2 _
      rw [Nat.zero_add] at h1
      exact h v' w' h1 h2
theorem news_strs {w : World} {b off : Nat} {l : List ByteArray} (h : ∀ j (hj : j < l.length), w.cell? ⟨b, off + j, none⟩ = some (.string l[j])) : ∀ (j : Nat) (u : Value), (l.map Value.string)[j]? = some u → w.cell? ((⟨b, off, none⟩ : Addr).add j) = some u := fun j u hj => by
  have hj' : j < l.length := by
    have := (List.getElem?_eq_some_iff.1 hj).1
    simpa using this
  have hadd : (⟨b, off, none⟩ : Addr).add j = ⟨b, off + j, none⟩ := by unfold Addr.add; split <;> simp_all
  rw [hadd, h j hj']
  simpa [hj'] using hj
theorem one_strs (l : List ByteArray) : ∀ u ∈ l.map Value.string, u.oneCell' = true := fun u hu => by
  obtain ⟨x, _, rfl⟩ := List.mem_map.1 hu
  rfl
theorem infoS : (Try.prog.info? 9).map (fun i => (i.zero, i.size, i.bytes)) = some (some (.string ⟨#[]⟩), 1, 16) := by kernel_rfl
/-- A list of texts that lies anywhere, or nowhere, goes behind an empty row. -/
theorem wpList_append_strs {ops : Array Oper} {rest : List Oper} {o : Oper} {a : Act} {Q : Exit → Act → World → Prop} (w : World) (hgd : o.guard = none) (s x : Operand)
    (ho : o.op = .call { callee := .builtin .append, args := #[s, x], argTypes := #[43, 43] })
    (base : Nat) (v : Value) (hs : a.eval s = v) (hown : w.ownsRow base 9 1 v 0 [])
    (ao : Option Addr) (c : Nat) (L : List ByteArray) (hx : a.eval x = .slice ao L.length c) (hI : StrsAt w ao L) (hn : ao = none → c = 0) (hl : L.length ≤ 10000) (hb : base ≤ w.heap.size)
    (h : ∀ v' w', OwnL w' base v' L → w.grownBy w' v.ownBlock → wpList Try.prog ops Q rest (a.put o.dst v') w') : wpList Try.prog ops Q (o :: rest) a w := by
  obtain ⟨i0, hi, hz0, hz1, hz2⟩ := info_parts infoS
  by_cases h0 : L = []
  · subst h0
    cases ao with
    | none =>
      have hc := hn rfl
      subst hc
      exact wpList_append_own_none hgd s x 43 ho base 9 i0 1 Try.underlying43 hi v 0 [] hs hown hx (h v w hown (World.grownBy.refl _ _))
    | some ad =>
      refine wpList_append_own w hgd s x 43 ho base 9 i0 (.string ⟨#[]⟩) 1 16 Try.underlying43 hi hz0 hz1 hz2 rfl (by decide) v 0 [] hs hown ad 0 c [] hx rfl (fun j v hj => by cases hj) (fun v hv => by cases hv) (by decide) (by decide) hb ?_
      intro v' w' h1 h2 _
      exact h v' w' h1 h2
  · rcases hI with h1 | ⟨b, off, rfl, hc⟩
    · exact absurd h1 h0
    · refine wpList_append_own w hgd s x 43 ho base 9 i0 (.string ⟨#[]⟩) 1 16 Try.underlying43 hi hz0 hz1 hz2 rfl (by decide) v 0 [] hs hown ⟨b, off, none⟩ L.length c (L.map Value.string) hx (by simp) (news_strs hc) (one_strs _) (by unfold maxLen; omega) (by omega) hb ?_
      intro v' w' h1 h2 _
      rw [Nat.zero_add] at h1
      exact h v' w' h1 h2
/-- A row of one's own: no more than its room; where it lies nowhere it has none. -/
theorem own_cap {u : World} {b n c : Nat} {a : Option Addr} {l : List ByteArray} (h : OwnL u b (.slice a n c) l) : n ≤ c ∧ (a = none → c = 0) := by
  rcases h.2 with ⟨e, hz⟩ | ⟨g, cap, cur, e, _, _, h2, _⟩
  · cases e
    exact ⟨Nat.le_refl _, fun _ => rfl⟩
  · cases e
    exact ⟨h2, fun e => by cases e⟩
theorem strs_take {u : World} {a : Option Addr} {l : List ByteArray} (h : StrsAt u a l) (r : Nat) : StrsAt u a (l.take r) := by
  rcases h with rfl | ⟨b, off, rfl, hc⟩
  · rw [List.take_nil]; exact Or.inl rfl
  · refine Or.inr ⟨b, off, rfl, fun j hj => ?_⟩
    rw [List.getElem_take]
    exact hc j (by rw [List.length_take] at hj; omega)
/-- A crash. -/
theorem al_crashed (w : World) (q c : Nat) (st : St) (F : Nat → Prop) (a : Option Addr) (cc : Nat) (picks : List Int) (u : World) (h : Al w q st F u) (hf : Form 8 c st) (hc : c ≤ 10000) (hP : IntsAt u a picks) (hap : Apart a picks F) (hpl : picks.length ≤ 140737488351232) (hr : ∀ x ∈ picks, -9223372036854775808 ≤ x ∧ x ≤ 9223372036854775807) :
    Calls Try.prog 23 #[.pointer (some ⟨q, 0, none⟩), .slice a picks.length cc] u fun e v => e = .returned (.int .i64 0) ∧ ∃ F', Al w q (st.crash picks) F' v ∧ Loc F F' u v := by
  refine (con.crash q st F a cc picks u h.disk hf.ok (Nat.le_trans hf.few hc) hP hap hpl hr).mono ?_
  rintro e v ⟨rfl, F', hd, hl⟩
  exact ⟨rfl, F', h.step hd hl, hl⟩
theorem al_fused (w : World) (q c : Nat) (st : St) (F : Nat → Prop) (n : Int) (u : World) (h : Al w q st F u) (hf : Form 8 c st) (hn : -9223372036854775808 ≤ n ∧ n ≤ 9223372036854775807) :
    Calls Try.prog 24 #[.pointer (some ⟨q, 0, none⟩), .int .i64 n] u fun e v => e = .returned (.int .i64 0) ∧ ∃ F', Al w q (st.fuse n) F' v ∧ Loc F F' u v := by
  refine (con.fuse q st F n u h.disk hf.ok hn).mono ?_
  rintro e v ⟨rfl, F', hd, hl⟩
  exact ⟨rfl, F', h.step hd hl, hl⟩
theorem al_opened (w : World) (q c : Nat) (st : St) (F : Nat → Prop) (u : World) (h : Al w q st F u) (hf : Form 8 c st) (hc : c + 16 ≤ 10000) :
    Calls Try.prog 19 #[.pointer (some ⟨q, 0, none⟩), .int .i64 0, .int .i64 8] u fun e v => ∃ x a n k F', e = .returned (.tuple #[.pointer x, .slice a n k, .int .i64 (((walOpen st 0 8).1.1 : Nat) : Int)]) ∧ Al w q (walOpen st 0 8).2 F' v ∧ Loc F F' u v := by
  have key := pOpen q 0 8 st F u h.disk hf.ok (by have := hf.few; omega) (by rw [hf.len]; exact Nat.le_refl _) (by decide) (by decide)
  refine Calls.mono key ?_
  rintro e v (⟨h0, p', vR, F', rfl, hL, hp, hR, hd, hl, hnp, hdj, hop⟩ | ⟨h1, rfl, F', hd, hl⟩)
  · obtain ⟨a, k, rfl, hs⟩ := hR.strs
    exact ⟨_, a, _, k, F', by rw [h0]; rfl, h.step hd hl, hl⟩
  · exact ⟨none, none, 0, 0, F', rfl, h.step hd hl, hl⟩
theorem lv_opened (w : World) (q c r : Nat) (recs : List ByteArray) (st st' : St) (F : Nat → Prop) (u : World) (h : Al w q st F u) (hf : Form 8 c st) (hc : c + 16 ≤ 10000) (ho : walOpen st 0 8 = ((0, cat recs, recs), st')) (hlv : Live recs r st') :
    Calls Try.prog 19 #[.pointer (some ⟨q, 0, none⟩), .int .i64 0, .int .i64 8] u fun e v => ∃ p' a k F', e = .returned (.tuple #[.pointer (some ⟨p', 0, none⟩), .slice a recs.length k, .int .i64 0]) ∧ Lv w p' q recs r st' F' (c + 16) v ∧ OwnL v w.heap.size (.slice a recs.length k) recs ∧ Loc F F' u v := by
  have key := pOpen q 0 8 st F u h.disk hf.ok (by have := hf.few; omega) (by rw [hf.len]; exact Nat.le_refl _) (by decide) (by decide)
  have hfew : st'.loose.length ≤ c + 16 := by
    have := (hf.open 0 8).few
    rw [ho] at this
    exact this
  rw [ho] at key
  refine Calls.mono key ?_
  rintro e v (⟨h0, p', vR, F', rfl, hL, hp, hR, hd, hl, hnp, hdj, hop⟩ | ⟨h1, _⟩)
  · obtain ⟨a, k, rfl, hs⟩ := hR.strs
    exact ⟨p', a, k, F', rfl, ⟨hlv, h.step hd hl, hL, hnp, Nat.le_trans h.below.size hp, hfew⟩, own_up hR (fun k hk => Nat.le_trans h.below.size (own_ge hR hk)), hl⟩
  · exact absurd rfl h1
end Go.Proofs.Ytelkccfjeinlcaa
