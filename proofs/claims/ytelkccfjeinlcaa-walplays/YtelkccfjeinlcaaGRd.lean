/- The law WalReads: what its walk needs. The law WalReads: Sync, and Open anew. -/
import Derived.Test.YtelkccfjeinlcaaGAlive
namespace Go.Proofs.Ytelkccfjeinlcaa
open Go Go.RowKit Frm Go.Shelf
/-- What the first texts weigh. -/
def wsz (l : List ByteArray) : Nat := (l.map fun t => 8 + t.size).sum
theorem wsz_snoc (l : List ByteArray) (t : ByteArray) : wsz (l ++ [t]) = wsz l + (8 + t.size) := by unfold wsz; simp
theorem wsz_mem {l : List ByteArray} {t : ByteArray} (h : t ∈ l) : 8 + t.size ≤ wsz l := by
  induction l with
  | nil => cases h
  | cons x l ih =>
    have e : wsz (x :: l) = (8 + x.size) + wsz l := by unfold wsz; simp
    rw [e]
    rcases List.mem_cons.1 h with rfl | h
    · omega
    · have := ih h; omega
theorem wsz_len (l : List ByteArray) : 8 * l.length ≤ wsz l := by
  induction l with
  | nil => exact Nat.zero_le _
  | cons x l ih =>
    have e : wsz (x :: l) = (8 + x.size) + wsz l := by unfold wsz; simp
    rw [e, List.length_cons]
    omega
/-- A log of the caller's own on eight blocks: its records, which of them are sure, how many writes are loose at the most. -/
structure Lv (w : World) (p q : Nat) (all : List ByteArray) (r0 : Nat) (st : St) (F : Nat → Prop) (c : Nat) (u : World) : Prop where
  live : Live all r0 st
  al : Al w q st F u
  log : LAt u p q 0 8 (cat all) false
  notp : ¬ F p
  newp : w.heap.size ≤ p
  few : st.loose.length ≤ c
theorem Lv.keep {w : World} {p q r0 c : Nat} {all : List ByteArray} {st : St} {F : Nat → Prop} {u v : World} (h : Lv w p q all r0 st F c u) (hb : Below u.heap.size u v) : Lv w p q all r0 st F c v :=
  ⟨h.live, h.al.keep hb, h.log.same (hb.block p h.log.lt), h.notp, h.newp, h.few⟩
theorem Lv.drewN {w : World} {p q r0 c : Nat} {all : List ByteArray} {st : St} {F : Nat → Prop} {u : World} (h : Lv w p q all r0 st F c u) (n : Nat) : Lv w p q all r0 st F c (u.drewN n) :=
  ⟨h.live, h.al.drewN n, h.log, h.notp, h.newp, h.few⟩
/-- What a call on the log leaves of another object of the caller's. -/
def Sep (F : Nat → Prop) (p : Nat) (v : Value) : Prop := ∀ k, OB v k → ¬ F k ∧ k ≠ p
theorem append_few (st : St) (o n : Nat) (s t : ByteArray) (h : st.Ok) : (walAppend st o n s t).2.2.loose.length ≤ st.loose.length + n := by
  unfold walAppend
  split
  · simp
  · split
    · simp
    · split
      · exact (lay_len o n _ _ st h).2
      · exact (lay_len o n _ _ st h).2
/-- An Append on such a log. -/
theorem lv_append (w : World) (p q r0 c : Nat) (all : List ByteArray) (t : ByteArray) (st : St) (F : Nat → Prop) (u : World) (h : Lv w p q all r0 st F c u) (hc : c + 8 ≤ 10000) (ht : t.size ≤ 65536) :
    Calls Try.prog 20 #[.pointer (some ⟨p, 0, none⟩), .string t] u fun e v => ∃ st' F', e = .returned (.int .i64 (if (cat all).size + (t.size + 8) ≤ 2040 then 0 else 6)) ∧ Lv w p q (if (cat all).size + (t.size + 8) ≤ 2040 then all ++ [t] else all) r0 st' F' (c + 8) v ∧ Loc (fun k => F k ∨ k = p) (fun k => F' k ∨ k = p) u v := by
  have hf := h.live.fits
  have key := pAppend p q 0 8 (cat all) t st F u h.log h.al.disk h.notp h.live.ok (by have := h.few; omega) (by decide) (by decide) (by omega) (by unfold maxLen; omega)
  have hfw := append_few st 0 8 (cat all) t h.live.ok
  by_cases h2 : (cat all).size + (t.size + 8) ≤ 2040
  · obtain ⟨st', e1, hl⟩ := h.live.append t ht h2
    have hb : brk st 0 8 (cat all) t = false := decide_eq_false (fun hh => by
      have hx := e1
      unfold walAppend at hx
      rw [if_neg (by omega), if_neg (by omega), if_pos hh.2.2] at hx
      exact hh.2.2 (congrArg Prod.fst hx))
    have hfw2 : st'.loose.length ≤ st.loose.length + 8 := by rw [e1] at hfw; exact hfw
    rw [e1, hb] at key
    rw [if_pos h2, if_pos h2]
    refine Calls.mono key ?_
    rintro e v ⟨rfl, hL, F', hd, hl2, hnp⟩
    exact ⟨st', F', rfl, ⟨hl, h.al.stepP h.newp hd hl2, hL, hnp, h.newp, by have := h.few; omega⟩, hl2⟩
  · have e1 := append_full st 0 8 (cat all) t (by omega) (by omega)
    have hb : brk st 0 8 (cat all) t = false := decide_eq_false (fun hh => by omega)
    rw [e1, hb] at key
    rw [if_neg h2, if_neg h2]
    refine Calls.mono key ?_
    rintro e v ⟨rfl, hL, F', hd, hl2, hnp⟩
    exact ⟨st, F', rfl, ⟨h.live, h.al.stepP h.newp hd hl2, hL, hnp, h.newp, by have := h.few; omega⟩, hl2⟩
/-- A new disk of eight blocks, cleared. -/
theorem clear_eight : walClear (St.new 8) 0 8 = (0, bare 8 (cat [])) := clear_new
theorem lv_open0 (w : World) (q : Nat) (F : Nat → Prop) (u : World) (h : Al w q (bare 8 (cat [])) F u) :
    Calls Try.prog 19 #[.pointer (some ⟨q, 0, none⟩), .int .i64 0, .int .i64 8] u fun e v => ∃ p a c F', e = .returned (.tuple #[.pointer (some ⟨p, 0, none⟩), .slice a 0 c, .int .i64 0]) ∧ Lv w p q [] 0 (bare 8 (cat [])) F' 0 v ∧ OwnL v w.heap.size (.slice a 0 c) [] ∧ Sep F' p (.slice a 0 c) := by
  have key := pOpen q 0 8 (bare 8 (cat [])) F u h.disk (bare_ok 8 _ (by decide) (by decide)) (by show 0 + 8 + 8 ≤ 10000; decide) (by rw [bare_len]; exact Nat.le_refl _) (by decide) (by decide)
  rw [open_bare 8 [] (by simp) (Nat.zero_le _)] at key
  refine Calls.mono key ?_
  rintro e v (⟨_, p, vR, F', rfl, hL, hp, hR, hd, hl, hnp, hdj, hop⟩ | ⟨h1, _⟩)
  · obtain ⟨a, c, rfl, -⟩ := hR.strs
    have hlv : Live [] 0 (bare 8 (cat [])) := Live.bare [] (by simp) (Nat.zero_le _)
    exact ⟨p, a, c, F', rfl, ⟨hlv, h.step hd hl, hL, hnp, Nat.le_trans h.below.size hp, Nat.le_refl _⟩, own_up hR (fun k hk => Nat.le_trans h.below.size (own_ge hR hk)), fun k hk => ⟨fun hf => hdj k hf hk, fun e => hop (by rw [← e]; exact hk)⟩⟩
  · exact absurd rfl h1
theorem Lv.grown {w : World} {p q r0 c : Nat} {all : List ByteArray} {st : St} {F : Nat → Prop} {u v : World} {row : Option Nat} (h : Lv w p q all r0 st F c u) (hg : u.grownBy v row) (hrow : ∀ k, row = some k → ¬ F k ∧ k ≠ p ∧ w.heap.size ≤ k) : Lv w p q all r0 st F c v :=
  ⟨h.live, ⟨con.same h.al.disk (fun k hk => hg.block k (con.lt h.al.disk k hk) (fun e => (hrow k e.symm).1 hk)), h.al.below.grown hg h.al.below.size (fun k e => (hrow k e).2.2), h.al.new⟩, h.log.same (hg.block p h.log.lt (fun e => (hrow p e.symm).2.1 rfl)), h.notp, h.newp, h.few⟩
/-- A list of texts of the caller's own, beside a log. -/
structure Lst (w : World) (p : Nat) (F : Nat → Prop) (v : Value) (all : List ByteArray) (u : World) : Prop where
  own : OwnL u w.heap.size v all
  sep : Sep F p v
theorem Lst.loc {w : World} {p : Nat} {F F' : Nat → Prop} {v : Value} {all : List ByteArray} {u u' : World} (h : Lst w p F v all u) (hl : Loc (fun k => F k ∨ k = p) (fun k => F' k ∨ k = p) u u') : Lst w p F' v all u' := by
  refine ⟨own_kept h.own (fun k hk => hl.block k (World.ownsRow.lt h.own k hk).2 (fun hh => ?_)), fun k hk => ⟨fun hf => ?_, (h.sep k hk).2⟩⟩
  · rcases hh with h1 | h1
    · exact (h.sep k hk).1 h1
    · exact (h.sep k hk).2 h1
  · rcases hl.own k (Or.inl hf) with (h1 | h1) | h1
    · exact (h.sep k hk).1 h1
    · exact (h.sep k hk).2 h1
    · have := (World.ownsRow.lt h.own k hk).2; omega
theorem Lst.keep {w : World} {p : Nat} {F : Nat → Prop} {v : Value} {all : List ByteArray} {u u' : World} (h : Lst w p F v all u) (hb : Below u.heap.size u u') : Lst w p F v all u' := ⟨h.own.below hb, h.sep⟩
/-- One text more. -/
theorem lst_more {w : World} {p q r0 c g cap : Nat} {F : Nat → Prop} {v : Value} {all recs : List ByteArray} {t : ByteArray} {st : St} {u u' : World} (hv : Lv w p q recs r0 st F c u) (h : Lst w p F v all u)
    (hown : u'.ownsRow w.heap.size 9 1 (.slice (some ⟨g, 0, none⟩) (all.length + 1) cap) (all.length + 1) (all.map Value.string ++ [.string t])) (hg : (u.alloc (.cells #[.string t] 9)).grownBy u' v.ownBlock) (hat : v.ownBlock = some g ∨ g = u.heap.size + 1) :
    Lv w p q recs r0 st F c u' ∧ Lst w p F (.slice (some ⟨g, 0, none⟩) (all.length + 1) cap) (all ++ [t]) u' := by
  have hb : Below u.heap.size u (u.alloc (.cells #[.string t] 9)) := bgrow0 u _
  refine ⟨(hv.keep hb).grown hg (fun k e => ⟨(h.sep k e).1, (h.sep k e).2, own_ge h.own e⟩), ⟨?_, fun k hk => ?_⟩⟩
  · rw [map_snoc] at hown
    unfold OwnL
    rw [List.length_append]
    exact hown
  · have e : g = k := by unfold OB at hk; simp [Value.ownBlock] at hk; exact hk
    subst e
    rcases hat with h1 | h1
    · exact h.sep g h1
    · exact ⟨fun hf => by have := con.lt hv.al.disk g hf; omega, fun e => by have := hv.log.lt; omega⟩
theorem lst_nil (w : World) (p : Nat) (F : Nat → Prop) (u : World) : Lst w p F (.slice none 0 0) [] u := ⟨World.ownsRow_nil _ _ _ _, fun k hk => absurd hk (OB_nil k)⟩
end Go.Proofs.Ytelkccfjeinlcaa
namespace Go.Proofs.Ytelkccfjeinlcaa
open Go Go.RowKit Frm Go.Shelf
theorem Lst.loc0 {w : World} {p : Nat} {F F' : Nat → Prop} {v : Value} {all : List ByteArray} {u u' : World} (h : Lst w p F v all u) (hl : Loc F F' u u') : Lst w p F' v all u' := h.loc (hl.or (P := fun k => k = p))
theorem Lst.drewN {w : World} {p : Nat} {F : Nat → Prop} {v : Value} {all : List ByteArray} {u : World} (h : Lst w p F v all u) (n : Nat) : Lst w p F v all (u.drewN n) := ⟨own_kept h.own (fun _ _ => rfl), h.sep⟩
theorem lv_sync (w : World) (p q r0 c : Nat) (all : List ByteArray) (st : St) (F : Nat → Prop) (u : World) (h : Lv w p q all r0 st F c u) (hc : c ≤ 10000) :
    Calls Try.prog 22 #[.pointer (some ⟨q, 0, none⟩)] u fun e v => ∃ st' F', e = .returned (.int .i64 0) ∧ Lv w p q all all.length st' F' 0 v ∧ st'.loose = [] ∧ Loc F F' u v := by
  have key := con.sync q st F u h.al.disk h.live.ok (by have := h.few; omega)
  obtain ⟨e1, e2⟩ := h.live.sync
  rw [e1] at key
  refine Calls.mono key ?_
  rintro e v ⟨rfl, F', hd, hl⟩
  obtain ⟨hL, hp⟩ := h.log.loc hl h.notp
  exact ⟨st.sync.2, F', rfl, ⟨e2, h.al.step hd hl, hL, hp, h.newp, by rw [h.live.synced]; exact Nat.zero_le _⟩, h.live.synced, hl⟩
theorem lv_reopen (w : World) (p q c : Nat) (all : List ByteArray) (st : St) (F : Nat → Prop) (u : World) (h : Lv w p q all all.length st F c u) (hl0 : st.loose = []) :
    Calls Try.prog 19 #[.pointer (some ⟨q, 0, none⟩), .int .i64 0, .int .i64 8] u fun e v => ∃ p' a k st' F', e = .returned (.tuple #[.pointer (some ⟨p', 0, none⟩), .slice a all.length k, .int .i64 0]) ∧ Lv w p q all all.length st' F' c v ∧ st'.loose = [] ∧ StrsAt v a all ∧ LAt v p' q 0 8 (cat all) false ∧ Loc F F' u v := by
  obtain ⟨st', e1, hlv, hl1⟩ := h.live.reopen hl0
  have key := pOpen q 0 8 st F u h.al.disk h.live.ok (by rw [hl0]; decide) (by rw [h.live.len]; exact Nat.le_refl _) (by decide) (by decide)
  rw [e1] at key
  refine Calls.mono key ?_
  rintro e v (⟨_, p', vR, F', rfl, hL, hp, hR, hd, hl, hnp, hdj, hop⟩ | ⟨h1, _⟩)
  · obtain ⟨a, k, rfl, hs⟩ := hR.strs
    obtain ⟨hLo, hpo⟩ := h.log.loc hl h.notp
    exact ⟨p', a, k, st', F', rfl, ⟨hlv, h.al.step hd hl, hLo, hpo, h.newp, by rw [hl1]; exact Nat.zero_le _⟩, hl1, hs, hL, hl⟩
  · exact absurd rfl h1
end Go.Proofs.Ytelkccfjeinlcaa
