/- The law WalReads: what its walk needs. The law WalReads: Sync, and Open anew. The law WalReads. -/
import Derived.Test.YtelkccfjeinlcaaGAlive
namespace Go.Proofs.Ytelkccfjeinlcaa
open Go Go.RowKit Frm Go.Shelf
/-- What the first texts weigh. -/
def wsz (l : List ByteArray) : Nat := (l.map fun t => 8 + t.size).sum
theorem wsz_snoc (l : List ByteArray) (t : ByteArray) : wsz (l ++ [t]) = wsz l + (8 + t.size) := by unfold wsz; simp
theorem wsz_mem {l : List ByteArray} {t : ByteArray} (h : t ∈ l) : 8 + t.size ≤ wsz l := by
  induction l with
  | nil => cases h
  | cons x l ih =>
    have e : wsz (x :: l) = (8 + x.size) + wsz l := by unfold wsz; simp
    rw [e]
    rcases List.mem_cons.1 h with rfl | h
    · omega
    · have := ih h; omega
theorem wsz_len (l : List ByteArray) : 8 * l.length ≤ wsz l := by
  induction l with
  | nil => exact Nat.zero_le _
  | cons x l ih =>
    have e : wsz (x :: l) = (8 + x.size) + wsz l := by unfold wsz; simp
    rw [e, List.length_cons]
    omega
/-- A log of the caller's own on eight blocks: its records, which of them are sure, how many writes are loose at the most. -/
structure Lv (w : World) (p q : Nat) (all : List ByteArray) (r0 : Nat) (st : St) (F : Nat → Prop) (c : Nat) (u : World) : Prop where
  live : Live all r0 st
  al : Al w q st F u
  log : LAt u p q 0 8 (cat all) false
  notp : ¬ F p
  newp : w.heap.size ≤ p
  few : st.loose.length ≤ c
theorem Lv.keep {w : World} {p q r0 c : Nat} {all : List ByteArray} {st : St} {F : Nat → Prop} {u v : World} (h : Lv w p q all r0 st F c u) (hb : Below u.heap.size u v) : Lv w p q all r0 st F c v :=
  ⟨h.live, h.al.keep hb, h.log.same (hb.block p h.log.lt), h.notp, h.newp, h.few⟩
theorem Lv.drewN {w : World} {p q r0 c : Nat} {all : List ByteArray} {st : St} {F : Nat → Prop} {u : World} (h : Lv w p q all r0 st F c u) (n : Nat) : Lv w p q all r0 st F c (u.drewN n) :=
  ⟨h.live, h.al.drewN n, h.log, h.notp, h.newp, h.few⟩
/-- What a call on the log leaves of another object of the caller's. -/
def Sep (F : Nat → Prop) (p : Nat) (v : Value) : Prop := ∀ k, OB v k → ¬ F k ∧ k ≠ p
theorem append_few (st : St) (o n : Nat) (s t : ByteArray) (h : st.Ok) : (walAppend st o n s t).2.2.loose.length ≤ st.loose.length + n := by
  unfold walAppend
  split
  · simp
  · split
    · simp
    · split
      · exact (lay_len o n _ _ st h).2
      · exact (lay_len o n _ _ st h).2
/-- An Append on such a log. -/
theorem lv_append (w : World) (p q r0 c : Nat) (all : List ByteArray) (t : ByteArray) (st : St) (F : Nat → Prop) (u : World) (h : Lv w p q all r0 st F c u) (hc : c + 8 ≤ 10000) (ht : t.size ≤ 65536) :
    Calls Try.prog 20 #[.pointer (some ⟨p, 0, none⟩), .string t] u fun e v => ∃ st' F', e = .returned (.int .i64 (if (cat all).size + (t.size + 8) ≤ 2040 then 0 else 6)) ∧ Lv w p q (if (cat all).size + (t.size + 8) ≤ 2040 then all ++ [t] else all) r0 st' F' (c + 8) v ∧ Loc (fun k => F k ∨ k = p) (fun k => F' k ∨ k = p) u v := by
  have hf := h.live.fits
  have key := pAppend p q 0 8 (cat all) t st F u h.log h.al.disk h.notp h.live.ok (by have := h.few; omega) (by decide) (by decide) (by omega) (by unfold maxLen; omega)
  have hfw := append_few st 0 8 (cat all) t h.live.ok
  by_cases h2 : (cat all).size + (t.size + 8) ≤ 2040
  · obtain ⟨st', e1, hl⟩ := h.live.append t ht h2
    have hb : brk st 0 8 (cat all) t = false := decide_eq_false (fun hh => by
      have hx := e1
      unfold walAppend at hx
      rw [if_neg (by omega), if_neg (by omega), if_pos hh.2.2] at hx
      exact hh.2.2 (congrArg Prod.fst hx))
    have hfw2 : st'.loose.length ≤ st.loose.length + 8 := by rw [e1] at hfw; exact hfw
    rw [e1, hb] at key
    rw [if_pos h2, if_pos h2]
    refine Calls.mono key ?_
    rintro e v ⟨rfl, hL, F', hd, hl2, hnp⟩
    exact ⟨st', F', rfl, ⟨hl, h.al.stepP h.newp hd hl2, hL, hnp, h.newp, by have := h.few; omega⟩, hl2⟩
  · have e1 := append_full st 0 8 (cat all) t (by omega) (by omega)
    have hb : brk st 0 8 (cat all) t = false := decide_eq_false (fun hh => by omega)
    rw [e1, hb] at key
    rw [if_neg h2, if_neg h2]
    refine Calls.mono key ?_
    rintro e v ⟨rfl, hL, F', hd, hl2, hnp⟩
    exact ⟨st, F', rfl, ⟨h.live, h.al.stepP h.newp hd hl2, hL, hnp, h.newp, by have := h.few; omega⟩, hl2⟩
/-- A new disk of eight blocks, cleared. -/
theorem clear_eight : walClear (St.new 8) 0 8 = (0, bare 8 (cat [])) := clear_new
theorem lv_open0 (w : World) (q : Nat) (F : Nat → Prop) (u : World) (h : Al w q (bare 8 (cat [])) F u) :
    Calls Try.prog 19 #[.pointer (some ⟨q, 0, none⟩), .int .i64 0, .int .i64 8] u fun e v => ∃ p a c F', e = .returned (.tuple #[.pointer (some ⟨p, 0, none⟩), .slice a 0 c, .int .i64 0]) ∧ Lv w p q [] 0 (bare 8 (cat [])) F' 0 v ∧ OwnL v w.heap.size (.slice a 0 c) [] ∧ Sep F' p (.slice a 0 c) := by
  have key := pOpen q 0 8 (bare 8 (cat [])) F u h.disk (bare_ok 8 _ (by decide) (by decide)) (by show 0 + 8 + 8 ≤ 10000; decide) (by rw [bare_len]; exact Nat.le_refl _) (by decide) (by decide)
  rw [open_bare 8 [] (by simp) (Nat.zero_le _)] at key
  refine Calls.mono key ?_
  rintro e v (⟨_, p, vR, F', rfl, hL, hp, hR, hd, hl, hnp, hdj, hop⟩ | ⟨h1, _⟩)
  · obtain ⟨a, c, rfl, -⟩ := hR.strs
    have hlv : Live [] 0 (bare 8 (cat [])) := Live.bare [] (by simp) (Nat.zero_le _)
    exact ⟨p, a, c, F', rfl, ⟨hlv, h.step hd hl, hL, hnp, Nat.le_trans h.below.size hp, Nat.le_refl _⟩, own_up hR (fun k hk => Nat.le_trans h.below.size (own_ge hR hk)), fun k hk => ⟨fun hf => hdj k hf hk, fun e => hop (by rw [← e]; exact hk)⟩⟩
  · exact absurd rfl h1
theorem Lv.grown {w : World} {p q r0 c : Nat} {all : List ByteArray} {st : St} {F : Nat → Prop} {u v : World} {row : Option Nat} (h : Lv w p q all r0 st F c u) (hg : u.grownBy v row) (hrow : ∀ k, row = some k → ¬ F k ∧ k ≠ p ∧ w.heap.size ≤ k) : Lv w p q all r0 st F c v :=
  ⟨h.live, ⟨con.same h.al.disk (fun k hk => hg.block k (con.lt h.al.disk k hk) (fun e => (hrow k e.symm).1 hk)), h.al.below.grown hg h.al.below.size (fun k e => (hrow k e).2.2), h.al.new⟩, h.log.same (hg.block p h.log.lt (fun e => (hrow p e.symm).2.1 rfl)), h.notp, h.newp, h.few⟩
/-- A list of texts of the caller's own, beside a log. -/
structure Lst (w : World) (p : Nat) (F : Nat → Prop) (v : Value) (all : List ByteArray) (u : World) : Prop where
  own : OwnL u w.heap.size v all
  sep : Sep F p v
theorem Lst.loc {w : World} {p : Nat} {F F' : Nat → Prop} {v : Value} {all : List ByteArray} {u u' : World} (h : Lst w p F v all u) (hl : Loc (fun k => F k ∨ k = p) (fun k => F' k ∨ k = p) u u') : Lst w p F' v all u' := by
  refine ⟨own_kept h.own (fun k hk => hl.block k (World.ownsRow.lt h.own k hk).2 (fun hh => ?_)), fun k hk => ⟨fun hf => ?_, (h.sep k hk).2⟩⟩
  · rcases hh with h1 | h1
    · exact (h.sep k hk).1 h1
    · exact (h.sep k hk).2 h1
  · rcases hl.own k (Or.inl hf) with (h1 | h1) | h1
    · exact (h.sep k hk).1 h1
    · exact (h.sep k hk).2 h1
    · have := (World.ownsRow.lt h.own k hk).2; omega
theorem Lst.keep {w : World} {p : Nat} {F : Nat → Prop} {v : Value} {all : List ByteArray} {u u' : World} (h : Lst w p F v all u) (hb : Below u.heap.size u u') : Lst w p F v all u' := ⟨h.own.below hb, h.sep⟩
/-- One text more. -/
theorem lst_more {w : World} {p q r0 c g cap : Nat} {F : Nat → Prop} {v : Value} {all recs : List ByteArray} {t : ByteArray} {st : St} {u u' : World} (hv : Lv w p q recs r0 st F c u) (h : Lst w p F v all u)
    (hown : u'.ownsRow w.heap.size 9 1 (.slice (some ⟨g, 0, none⟩) (all.length + 1) cap) (all.length + 1) (all.map Value.string ++ [.string t])) (hg : (u.alloc (.cells #[.string t] 9)).grownBy u' v.ownBlock) (hat : v.ownBlock = some g ∨ g = u.heap.size + 1) :
    Lv w p q recs r0 st F c u' ∧ Lst w p F (.slice (some ⟨g, 0, none⟩) (all.length + 1) cap) (all ++ [t]) u' := by
  have hb : Below u.heap.size u (u.alloc (.cells #[.string t] 9)) := bgrow0 u _
  refine ⟨(hv.keep hb).grown hg (fun k e => ⟨(h.sep k e).1, (h.sep k e).2, own_ge h.own e⟩), ⟨?_, fun k hk => ?_⟩⟩
  · rw [map_snoc] at hown
    unfold OwnL
    rw [List.length_append]
    exact hown
  · have e : g = k := by unfold OB at hk; simp [Value.ownBlock] at hk; exact hk
    subst e
    rcases hat with h1 | h1
    · exact h.sep g h1
    · exact ⟨fun hf => by have := con.lt hv.al.disk g hf; omega, fun e => by have := hv.log.lt; omega⟩
theorem lst_nil (w : World) (p : Nat) (F : Nat → Prop) (u : World) : Lst w p F (.slice none 0 0) [] u := ⟨World.ownsRow_nil _ _ _ _, fun k hk => absurd hk (OB_nil k)⟩
end Go.Proofs.Ytelkccfjeinlcaa
namespace Go.Proofs.Ytelkccfjeinlcaa
open Go Go.RowKit Frm Go.Shelf
theorem Lst.loc0 {w : World} {p : Nat} {F F' : Nat → Prop} {v : Value} {all : List ByteArray} {u u' : World} (h : Lst w p F v all u) (hl : Loc F F' u u') : Lst w p F' v all u' := h.loc (hl.or (P := fun k => k = p))
theorem Lst.drewN {w : World} {p : Nat} {F : Nat → Prop} {v : Value} {all : List ByteArray} {u : World} (h : Lst w p F v all u) (n : Nat) : Lst w p F v all (u.drewN n) := ⟨own_kept h.own (fun _ _ => rfl), h.sep⟩
theorem lv_sync (w : World) (p q r0 c : Nat) (all : List ByteArray) (st : St) (F : Nat → Prop) (u : World) (h : Lv w p q all r0 st F c u) (hc : c ≤ 10000) :
    Calls Try.prog 22 #[.pointer (some ⟨q, 0, none⟩)] u fun e v => ∃ st' F', e = .returned (.int .i64 0) ∧ Lv w p q all all.length st' F' 0 v ∧ st'.loose = [] ∧ Loc F F' u v := by
  have key := con.sync q st F u h.al.disk h.live.ok (by have := h.few; omega)
  obtain ⟨e1, e2⟩ := h.live.sync
  rw [e1] at key
  refine Calls.mono key ?_
  rintro e v ⟨rfl, F', hd, hl⟩
  obtain ⟨hL, hp⟩ := h.log.loc hl h.notp
  exact ⟨st.sync.2, F', rfl, ⟨e2, h.al.step hd hl, hL, hp, h.newp, by rw [h.live.synced]; exact Nat.zero_le _⟩, h.live.synced, hl⟩
theorem lv_reopen (w : World) (p q c : Nat) (all : List ByteArray) (st : St) (F : Nat → Prop) (u : World) (h : Lv w p q all all.length st F c u) (hl0 : st.loose = []) :
    Calls Try.prog 19 #[.pointer (some ⟨q, 0, none⟩), .int .i64 0, .int .i64 8] u fun e v => ∃ p' a k st' F', e = .returned (.tuple #[.pointer (some ⟨p', 0, none⟩), .slice a all.length k, .int .i64 0]) ∧ Lv w p q all all.length st' F' c v ∧ st'.loose = [] ∧ StrsAt v a all ∧ LAt v p' q 0 8 (cat all) false ∧ Loc F F' u v := by
  obtain ⟨st', e1, hlv, hl1⟩ := h.live.reopen hl0
  have key := pOpen q 0 8 st F u h.al.disk h.live.ok (by rw [hl0]; decide) (by rw [h.live.len]; exact Nat.le_refl _) (by decide) (by decide)
  rw [e1] at key
  refine Calls.mono key ?_
  rintro e v (⟨_, p', vR, F', rfl, hL, hp, hR, hd, hl, hnp, hdj, hop⟩ | ⟨h1, _⟩)
  · obtain ⟨a, k, rfl, hs⟩ := hR.strs
    obtain ⟨hLo, hpo⟩ := h.log.loc hl h.notp
    exact ⟨p', a, k, st', F', rfl, ⟨hlv, h.al.step hd hl, hLo, hpo, h.newp, by rw [hl1]; exact Nat.zero_le _⟩, hl1, hs, hL, hl⟩
  · exact absurd rfl h1
end Go.Proofs.Ytelkccfjeinlcaa
namespace Go.Proofs.Ytelkccfjeinlcaa
open Go Go.RowKit Frm Go.Shelf
theorem snoc_len {acc : List ByteArray} {k : Nat} (h : acc.length ≤ k) (t : ByteArray) : (acc ++ [t]).length ≤ k + 1 := by rw [List.length_append]; simp; omega
theorem full_no {s t : Nat} (h : ¬ s + (t + 8) ≤ 2040) : ¬ ((t : Int) + 8 ≤ 2040 - (s : Int)) := by omega
theorem small_wrap {t : Nat} (h : 8 + t ≤ 8192) : IntKind.i64.wrap ((t : Int) + 8) = (t : Int) + 8 := by rw [IntKind.wrap_i64]; omega
theorem sum_room (s : Nat) : IntKind.i64.wrap ((s : Int) + (2040 - (s : Int))) = 2040 := by rw [show (s : Int) + (2040 - (s : Int)) = 2040 from by omega]; rfl
theorem nn_of {a b n : Nat} (h : a + (b + 8) = n) : ((a : Int) + (b : Int) + 8) = (n : Int) := by omega
set_option maxRecDepth 10000 in
set_option maxHeartbeats 4000000 in
theorem WalReads_any (a : Option Addr) (c : Nat) (l : List ByteArray) (w : World) (hl : StrsAt w a l) (hr : ∀ t ∈ l, t.size ≤ 140737488351232) (hlen : l.length ≤ 140737488351232) :
    Calls Try.prog 6 #[.slice a l.length c] w fun e w' => e = .returned (.bool true) ∧ Below w.heap.size w w' := by
  have KA := hide alive_any
  have HL := hide hl
  have HR := hide hr
  clear hl hr
  go_enter Try.func6, Try.ntmps6
  go_wp2_with fail
  go_loopw [3, 4] (fun n i wr => ∃ k : Nat, k ≤ l.length ∧ i = .int .i64 (k : Int) ∧ n = .int .i64 ((wsz (l.take k) : Nat) : Int) ∧ wsz (l.take k) ≤ 140737488359700 ∧ wr = w) (fun _ i _ => l.length - (intOf i).toNat)
  case atStart => exact ⟨0, Nat.zero_le _, rfl, rfl, Nat.zero_le _, rfl⟩
  case round =>
    obtain ⟨k, hk, rfl, rfl, hn, hwr⟩ := hrel
    obtain rfl := hwr.symm
    clear hwr
    by_cases hbig : wsz (l.take k) ≤ 8192
    · by_cases hlt : k < l.length
      · obtain ⟨b, off, rfl, hc⟩ : ∃ b off, a = some ⟨b, off, none⟩ ∧ ∀ j (hj : j < l.length), w.cell? ⟨b, off + j, none⟩ = some (.string l[j]) := by
          rcases HL.out with rfl | h
          · exact absurd hlt (by simp)
          · exact h
        have hck := hc k hlt
        have hz : (k : Int) < (l.length : Int) := by omega
        have hz2 : ((wsz (l.take k) : Nat) : Int) ≤ 8192 := by omega
        have hsz := HR.out _ (List.getElem_mem hlt)
        have HS : Hid (wsz (l.take (k + 1)) = wsz (l.take k) + (8 + l[k].size)) := by
          show _ = _
          rw [take_snoc hlt, wsz_snoc]
        have hw1 : IntKind.i64.wrap ((k : Int) + 1) = (k : Int) + 1 := by rw [IntKind.wrap_i64]; omega
        clear hc
        generalize l[k] = t at *
        generalize wsz (l.take k) = n at *
        have hw2 : wrap64 ((n : Int) + 8) = (n : Int) + 8 := by unfold wrap64; omega
        have hw3 : wrap64 ((n : Int) + 8 + (t.size : Int)) = (n : Int) + 8 + (t.size : Int) := by unfold wrap64; omega
        go_wp2
        go_roundw
        case rel => exact ⟨k + 1, hlt, by go_num, by rw [HS.out]; go_num, by rw [HS.out]; omega, by first | rfl | trivial⟩
        case measure => simp [intOf]; omega
      · have hkl : k = l.length := by omega
        subst hkl
        have hz2 : ¬ (8192 < ((wsz (l.take l.length) : Nat) : Int)) := by omega
        rw [List.take_length] at *
        have K1 := hide (con.new 8 w (by decide) (by decide))
        have HW := hide hbig
        have HLn : Hid (l.length ≤ 1024) := by
          have := wsz_len l
          show l.length ≤ 1024
          omega
        have K2 : Hid (∀ q F u, DAt u q (St.new 8) F → Calls Try.prog 18 #[.pointer (some ⟨q, 0, none⟩), .int .i64 0, .int .i64 8] u fun e w' => e = .returned (.int .i64 0) ∧ ∃ F', DAt w' q (bare 8 (cat [])) F' ∧ Loc F F' u w') := fun q F u h => by
          have := clear_any q 0 8 (St.new 8) F u h (St.Ok.new (by decide) (by decide)) (by decide) (by decide) (by decide)
          rw [clear_eight] at this
          exact this
        clear hbig hn hk hlt hlen
        generalize hwn : wsz l = n at *
        have HWN := hide hwn
        clear hwn
        go_wp2_with fail
        refine K1.out.mono ?_
        rintro e w1 ⟨q, F1, rfl, hd1, hF1, hb1⟩
        have K2a := hide (K2.out q F1 w1 hd1)
        have A1 := hide (Al.mk (st := St.new 8) hd1 hb1 hF1)
        clear hd1 hF1 hb1
        go_wp2_with fail
        refine K2a.out.mono ?_
        rintro e w2 ⟨rfl, F2, hd2, hl2⟩
        have A2 := hide (A1.out.step hd2 hl2)
        clear hd2 hl2
        have K3a := hide (lv_open0 w q F2 w2 A2.out)
        go_wp2_with fail
        refine K3a.out.mono ?_
        rintro e w3 ⟨p, a3, c3, F3, rfl, hlv, -, -⟩
        have HLv := hide hlv
        clear hlv
        obtain ⟨i0, hi, hz0, hz1, hzb⟩ := info_parts (P := Try.prog) (e := 9) (z := .string ⟨#[]⟩) (size := 1) (bytes := 16) (by kernel_rfl)
        have HI := hide (And.intro hi (And.intro hz0 (And.intro hz1 hzb)))
        clear hi hz0 hz1 hzb
        go_wp2_with fail
        go_loopw [10, 11, 12, 13] (fun av i _ _ u => ∃ (k : Nat) (acc : List ByteArray) (st : St) (F : Nat → Prop), k ≤ l.length ∧ i = .int .i64 (k : Int) ∧ acc.length ≤ k ∧ Lv w p q acc 0 st F (8 * k) u ∧ Lst w p F av acc u) (fun _ i _ _ _ => l.length - (intOf i).toNat)
        case atStart => exact ⟨0, [], _, F3, Nat.zero_le _, rfl, Nat.le_refl _, HLv.out, lst_nil _ _ _ _⟩
        case round =>
          obtain ⟨k, acc, st, F, hk, rfl, hak, hv, hls⟩ := hrel
          have hlen := HLn.out
          by_cases hlt : k < l.length
          · obtain ⟨b, off, rfl, hc⟩ : ∃ b off, a = some ⟨b, off, none⟩ ∧ ∀ j (hj : j < l.length), ∀ v, Below w.heap.size w v → v.cell? ⟨b, off + j, none⟩ = some (.string l[j]) := by
              rcases HL.out with rfl | ⟨b, off, e, h⟩
              · exact absurd hlt (by simp)
              · exact ⟨b, off, e, fun j hj v hv => cellB hv (h j hj)⟩
            have hz : (k : Int) < (l.length : Int) := by omega
            have htw : 8 + l[k].size ≤ 8192 := by
              have h1 := wsz_mem (List.getElem_mem hlt)
              have h2 := HWN.out
              have h3 := HW.out
              omega
            have HCk := hide (hc k hlt)
            have hw1 : IntKind.i64.wrap ((k : Int) + 1) = (k : Int) + 1 := by rw [IntKind.wrap_i64]; omega
            have hcat := hv.live.fits
            have hc1 := HCk.out wr hv.al.below
            have KL := hide (len_any p q 0 8 (cat acc) false wr hv.log)
            have KP := hide (lv_append w p q 0 (8 * k) acc l[k] st F wr hv (by omega) (by omega))
            have HLs := hide hls
            have HAK := hide hak
            obtain ⟨aa, ca, rfl, -⟩ := hls.own.strs
            have hcl := hc1
            clear hc hv hls hak hcl
            generalize hszc : (cat acc).size = sz at *
            have HSZ := hide hszc
            clear hszc
            generalize l[k] = t at *
            by_cases hfit : sz + (t.size + 8) ≤ 2040
            · rw [if_pos hfit, if_pos hfit] at KP
              have HSN : Hid ((cat (acc ++ [t])).size = sz + (t.size + 8)) := by
                show _ = _
                rw [cat_snoc, ByteArray.size_append, frm_size, HSZ.out]
              go_wp2_with fail
              refine KL.out.mono ?_
              rintro e u1 ⟨rfl, hu1⟩
              obtain rfl := hu1.symm
              go_wp2_with fail
              refine KP.out.mono ?_
              rintro e u2 ⟨st2, F2, rfl, hv2, hl2⟩
              have hls2 := HLs.out.loc hl2
              have hc2 := HCk.out u2 hv2.al.below
              have HV2 := hide hv2
              have HLs2 := hide hls2
              clear hv2 hl2 hls2
              go_wp2_with (at_builtin; refine wpList_append_lies _ rfl _ _ 43 rfl w.heap.size 9 i0 (.string ⟨#[]⟩) 1 16 Try.underlying43 HI.out.1 HI.out.2.1 HI.out.2.2.1 HI.out.2.2.2 rfl (by decide) _ _ _ rfl (World.ownsRow.alloc HLs2.out.own _) ⟨u2.heap.size, 0, none⟩ 1 1 [.string t] rfl rfl ?c1 ?c2 (by decide) ?c3 ?c4 ?c5 (u2.heap.size + 1) (by simp) ?_)
              case c1 =>
                intro j u hj
                match j, hj with
                | 0, hj => simp at hj; subst hj; simp [Addr.add, go_sem]
              case c2 => first | rfl | (intro u hu; simp at hu; subst hu; rfl)
              case c3 => have := HAK.out; unfold maxLen; omega
              case c4 => have := HAK.out; omega
              case c5 => have := HV2.out.al.below.size; simp; omega
              · intro g cap u3 hown3 hgrow3 hat3 _
                obtain ⟨hv3, hls3⟩ := lst_more HV2.out HLs2.out hown3 hgrow3 hat3
                have hc3 := HCk.out u3 hv3.al.below
                have KL3 : Hid (∀ n, Calls Try.prog 16 #[.pointer (some ⟨p, 0, none⟩)] (u3.drewN n) fun e w' => e = .returned (.int .i64 ((sz + (t.size + 8) : Nat) : Int)) ∧ w' = u3.drewN n) := fun n => by
                  have := len_any p q 0 8 (cat (acc ++ [t])) false (u3.drewN n) hv3.log
                  rw [HSN.out] at this
                  exact this
                have KR3 : Hid (∀ n, Calls Try.prog 17 #[.pointer (some ⟨p, 0, none⟩)] (u3.drewN n) fun e w' => e = .returned (.int .i64 (2040 - ((sz + (t.size + 8) : Nat) : Int))) ∧ ∃ m, w' = (u3.drewN n).drewN m) := fun n => by
                  have := room_any p q 0 8 (cat (acc ++ [t])) false (u3.drewN n) hv3.log (by decide) (by rw [HSN.out]; omega)
                  rw [HSN.out] at this
                  exact this
                have hsum : wrap64 ((sz : Int) + (t.size : Int)) = (sz : Int) + (t.size : Int) := by unfold wrap64; omega
                have hsum2 : wrap64 ((sz : Int) + (t.size : Int) + 8) = ((sz + (t.size + 8) : Nat) : Int) := by unfold wrap64; omega
                have hsum3 : IntKind.i64.wrap (((sz + (t.size + 8) : Nat) : Int) + (2040 - ((sz + (t.size + 8) : Nat) : Int))) = 2040 := by rw [IntKind.wrap_i64]; omega
                have hsum4 : wrap64 (((sz + (t.size + 8) : Nat) : Int) + (2040 - ((sz + (t.size + 8) : Nat) : Int))) = 2040 := by unfold wrap64; omega
                have HV3 := hide hv3
                have HLs3 := hide hls3
                clear hown3 hgrow3 hat3 hv3 hls3
                generalize hnn : sz + (t.size + 8) = nn at *
                have HNN := hide hnn
                have HNZ : Hid (((sz : Int) + (t.size : Int) + 8) = (nn : Int)) := nn_of hnn
                have HW1 := hide hw1
                clear hnn hsum3 hsum4 hw1
                go_wp2_with fail
                rw [HNZ.out]
                clear hsum hsum2 hcat htw
                go_quiet ((first | (go_at_call 16; exact Calls.quiet_of_same (KL3.out _)) | (go_at_call 17; exact Calls.quiet_of (KR3.out _))))
                have HV4 := hide (HV3.out.drewN nq)
                have HLs4 := hide (HLs3.out.drewN nq)
                have HLen := hide (snoc_len HAK.out t)
                clear HV3 HLs3 HV2 HLs2 KL3 KR3 hc3 hc2
                have hw1 := HW1.out
                generalize u3.drewN nq = u4 at *
                go_wp2
                go_roundw
                case rel => exact ⟨k + 1, acc ++ [t], st2, F2, hlt, by go_num, HLen.out, HV4.out, by rw [List.length_append] at *; exact HLs4.out⟩
                case measure => simp [intOf]; omega
            · rw [if_neg hfit, if_neg hfit] at KP
              have hno : ¬ ((t.size : Int) + 8 ≤ 2040 - (sz : Int)) := full_no hfit
              have HNo : Hid (decide ((t.size : Int) + 8 ≤ 2040 - (sz : Int)) = false) := decide_eq_false (full_no hfit)
              have hwt : IntKind.i64.wrap ((t.size : Int) + 8) = (t.size : Int) + 8 := small_wrap htw
              have HSr : Hid (IntKind.i64.wrap ((sz : Int) + (2040 - (sz : Int))) = 2040) := sum_room sz
              go_wp2_with fail
              refine KL.out.mono ?_
              rintro e u1 ⟨rfl, hu1⟩
              obtain rfl := hu1.symm
              go_wp2_with fail
              refine KP.out.mono ?_
              rintro e u2 ⟨st2, F2, rfl, hv2, hl2⟩
              have hls2 := HLs.out.loc hl2
              have hc2 := HCk.out u2 hv2.al.below
              have KL3 : Hid (∀ n, Calls Try.prog 16 #[.pointer (some ⟨p, 0, none⟩)] (u2.drewN n) fun e w' => e = .returned (.int .i64 (sz : Int)) ∧ w' = u2.drewN n) := fun n => by
                have := len_any p q 0 8 (cat acc) false (u2.drewN n) hv2.log
                rw [HSZ.out] at this
                exact this
              have KR3 : Hid (∀ n, Calls Try.prog 17 #[.pointer (some ⟨p, 0, none⟩)] (u2.drewN n) fun e w' => e = .returned (.int .i64 (2040 - (sz : Int))) ∧ ∃ m, w' = (u2.drewN n).drewN m) := fun n => by
                have := room_any p q 0 8 (cat acc) false (u2.drewN n) hv2.log (by decide) (by rw [HSZ.out]; exact hcat)
                rw [HSZ.out] at this
                exact this
              have HV2 := hide hv2
              have HLs2 := hide hls2
              have HW1 := hide hw1
              clear hv2 hl2 hls2 hw1 htw hfit
              go_wp2_with fail
              go_quiet ((first | (go_at_call 16; exact Calls.quiet_of_same (KL3.out _)) | (go_at_call 17; exact Calls.quiet_of (KR3.out _))))
              have HV4 := hide (HV2.out.drewN nq)
              have HLs4 := hide (HLs2.out.drewN nq)
              clear HV2 HLs2 KL3 KR3 hc2
              have hw1 := HW1.out
              rw [HNo.out, HSr.out]
              generalize u2.drewN nq = u4 at *
              go_wp2
              go_roundw
              case rel => exact ⟨k + 1, acc, st2, F2, hlt, by go_num, Nat.le_succ_of_le HAK.out, HV4.out, HLs4.out⟩
              case measure => simp [intOf]; omega
          · have hkl : k = l.length := by omega
            subst hkl
            have hz : ¬ ((l.length : Int) < (l.length : Int)) := by omega
            have K5 := hide (lv_sync w p q 0 (8 * l.length) acc st F wr hv (by omega))
            have HLs := hide hls
            have HAK := hide hak
            obtain ⟨aa, ca, rfl, -⟩ := hls.own.strs
            clear hv hls hak
            go_wp2_with fail
            refine K5.out.mono ?_
            rintro e u1 ⟨st1, F1', rfl, hv1, hlo1, hl1⟩
            have HV1 := hide hv1
            have HLo1 := hide hlo1
            have HLs1 := hide (HLs.out.loc0 hl1)
            clear hv1 hlo1 hl1 HLs
            go_wp2_with fail
            go_loopw [14, 15, 16, 17] (fun i _ _ _ u => ∃ (m : Nat) (st : St) (F : Nat → Prop), m ≤ 2 ∧ i = .int .i64 (m : Int) ∧ Lv w p q acc acc.length st F 0 u ∧ st.loose = [] ∧ Lst w p F (.slice aa acc.length ca) acc u) (fun i _ _ _ _ => 2 - (intOf i).toNat)
            case atStart => exact ⟨0, st1, F1', by omega, rfl, HV1.out, HLo1.out, HLs1.out⟩
            case round =>
              obtain ⟨m, stm, Fm, hm, rfl, hvm, hlom, hlsm⟩ := hrel
              by_cases hm2 : m < 2
              · have hzm : (m : Int) < 2 := by omega
                have K6 := hide (lv_reopen w p q 0 acc stm Fm wr hvm hlom)
                have HLsm := hide hlsm
                have HM2 := hide hm2
                have HLa : Hid (acc.length ≤ 140737488351232) := by have := HAK.out; have := HLn.out; show acc.length ≤ _; omega
                clear hvm hlom hlsm hm hm2
                go_wp2_with fail
                refine K6.out.mono ?_
                rintro e v1 ⟨p', a', c', st', F', rfl, hv', hlo', hs', hL', hl'⟩
                have hls' := HLsm.out.loc0 hl'
                obtain ⟨aa', ca', eaa, hsa⟩ := hls'.own.strs
                cases eaa
                have K7 := hide (same_any a' aa c' ca acc v1 hs' hsa HLa.out)
                have KLy : Hid (∀ n, Calls Try.prog 16 #[.pointer (some ⟨p', 0, none⟩)] (v1.drewN n) fun e w' => e = .returned (.int .i64 ((cat acc).size : Int)) ∧ w' = v1.drewN n) := fun n => len_any p' q 0 8 (cat acc) false (v1.drewN n) hL'
                have KLx : Hid (∀ n, Calls Try.prog 16 #[.pointer (some ⟨p, 0, none⟩)] (v1.drewN n) fun e w' => e = .returned (.int .i64 ((cat acc).size : Int)) ∧ w' = v1.drewN n) := fun n => len_any p q 0 8 (cat acc) false (v1.drewN n) hv'.log
                have HV' := hide hv'
                have HLo' := hide hlo'
                have HLs' := hide hls'
                clear hv' hlo' hs' hL' hl' hls' hsa
                generalize (cat acc).size = csz at *
                go_wp2_with fail
                refine K7.out.mono ?_
                rintro e v2 ⟨rfl, n2, rfl⟩
                have HV2 := hide (HV'.out.drewN n2)
                have HLs2 := hide (HLs'.out.drewN n2)
                have KLy2 := hide (KLy.out n2)
                have KLx2 := hide (KLx.out n2)
                generalize v1.drewN n2 = v2 at *
                go_wp2_with fail
                refine KLy2.out.mono ?_
                rintro e v3 ⟨rfl, hv3⟩
                obtain rfl := hv3.symm
                go_wp2_with fail
                refine KLx2.out.mono ?_
                rintro e v4 ⟨rfl, hv4⟩
                obtain rfl := hv4.symm
                have hw9 : IntKind.i64.wrap ((m : Int) + 1) = (m : Int) + 1 := by rw [IntKind.wrap_i64]; omega
                go_wp2
                go_roundw
                case rel => exact ⟨m + 1, st', F', HM2.out, by go_num, HV2.out, HLo'.out, HLs2.out⟩
                case measure => simp [intOf]; omega
              · have hm3 : m = 2 := by omega
                subst hm3
                have HB := hide hvm.al.below
                clear hvm hlom hlsm
                go_wp2_with fail
                refine (KA.out _).mono ?_
                rintro e w9 ⟨rfl, hb9⟩
                have HB9 := hide (bnext HB.out hb9)
                clear hb9
                go_wp2
                go_ret
                exact ⟨rfl, HB9.out⟩
    · have hz2 : ¬ (((wsz (l.take k) : Nat) : Int) ≤ 8192) := by omega
      have hz3 : (8192 : Int) < ((wsz (l.take k) : Nat) : Int) := by omega
      by_cases hlt : k < l.length
      · have hz : (k : Int) < (l.length : Int) := by omega
        generalize wsz (l.take k) = n at *
        go_wp2_with fail
        refine (KA.out _).mono ?_
        rintro e w1 ⟨rfl, hb⟩
        have HB := hide hb
        clear hb
        go_wp2
        go_ret
        exact ⟨rfl, HB.out⟩
      · have hz : ¬ ((k : Int) < (l.length : Int)) := by omega
        generalize wsz (l.take k) = n at *
        go_wp2_with fail
        refine (KA.out _).mono ?_
        rintro e w1 ⟨rfl, hb⟩
        have HB := hide hb
        clear hb
        go_wp2
        go_ret
        exact ⟨rfl, HB.out⟩
end Go.Proofs.Ytelkccfjeinlcaa
