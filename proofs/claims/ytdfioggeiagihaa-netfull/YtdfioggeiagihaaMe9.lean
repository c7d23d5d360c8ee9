/- The program's net: Age, List, New. -/
import Derived.Test.YtdfioggeiagihaaMe5
namespace Go.Proofs.Ytdfioggeiagihaa
open Go Go.RowKit

set_option maxRecDepth 10000 in
set_option maxHeartbeats 2000000 in
theorem pAge (p b : Nat) (vL : Value) (st : Nt) (m : Nat) (w : World) (h : PAt w p b vL st) (hok : st.Ok m) (hm : m ≤ 1099511627776) :
    Calls Try.prog 24 #[.pointer (some ⟨p, 0, none⟩)] w fun e w' => e = .returned (.tuple #[]) ∧ PAt w' p b vL (ageN st) ∧ Loc (PF p b vL) (PF p b vL) w w' := by
  have hfew := hok.few
  have HAg := hide (fun x hx => Nat.le_trans (hok.ages x hx) hm)
  obtain ⟨aL, cL, rfl, -, -, -⟩ := h.ls.slice
  have H0 : Hid (PAt w p b (.slice aL st.l.length cL) ⟨aged st.l 0, st.n, st.p⟩) := h
  obtain ⟨c0, -, -⟩ := h.cells
  clear h hok
  go_enter Try.func24, Try.ntmps24
  go_wp2_with fail
  go_loopw [2, 10] (fun _ i u => ∃ j : Nat, j ≤ st.l.length ∧ i = .int .i64 (j : Int) ∧ PAt u p b (.slice aL st.l.length cL) ⟨aged st.l j, st.n, st.p⟩ ∧ Loc (PF p b (.slice aL st.l.length cL)) (PF p b (.slice aL st.l.length cL)) w u) (fun _ i _ => st.l.length - (intOf i).toNat)
  case atStart => exact ⟨0, Nat.zero_le _, rfl, H0.out, Loc.refl _ _⟩
  case round =>
    obtain ⟨j, hj, rfl, hr, hlc⟩ := hrel
    have HR := hide hr
    have HLc := hide hlc
    clear hr hlc c0
    obtain ⟨p0, -, -⟩ := HR.out.cells
    by_cases hlt : j < st.l.length
    · have hln := aged_len st.l j hj
      obtain ⟨g, c', e', -, -, h4, hfz⟩ := HR.out.letter (by show 0 < (aged st.l j).length; omega)
      rw [show (⟨aged st.l j, st.n, st.p⟩ : Nt).l.length = st.l.length from hln] at e'
      cases e'
      have h5 := h4 j (by show j < (aged st.l j).length; omega)
      have hat : (aged st.l j)[j]'(by omega) = st.l[j] := by
        have h6 := aged_at st.l j hlt
        rw [List.getElem?_eq_getElem (by omega)] at h6
        exact Option.some.inj h6
      have hat' : (⟨aged st.l j, st.n, st.p⟩ : Nt).l[j]'(by show j < (aged st.l j).length; omega) = st.l[j] := hat
      rw [hat'] at h5
      obtain ⟨-, -, -, -, g4⟩ := h5
      have hag := HAg.out _ (List.getElem_mem hlt)
      have hfj := hfz (j * 5 + 4)
      have HP : Hid (PAt (wr.setCell ⟨g, j * 5 + 4, none⟩ (.int .i64 ((st.l[j].g : Int) + 1))) p b (.slice (some ⟨g, 0, none⟩) st.l.length cL) ⟨aged st.l (j + 1), st.n, st.p⟩) := by
        have h7 := PAt.putLetter (l := aged st.l j) (c := cL) (by rw [hln]; exact HR.out) j (by omega)
        rw [hat, aged_set st.l j hlt] at h7
        simp only [hln] at h7
        exact h7
      have HPl : Hid (Loc (PF p b (.slice (some ⟨g, 0, none⟩) st.l.length cL)) (PF p b (.slice (some ⟨g, 0, none⟩) st.l.length cL)) w (wr.setCell ⟨g, j * 5 + 4, none⟩ (.int .i64 ((st.l[j].g : Int) + 1)))) := HLc.out.trans (Loc.setCell wr ⟨g, j * 5 + 4, none⟩ _ (Or.inr (Or.inr rfl)))
      clear h4 hat hat' hfz hln HR HLc
      generalize st.l[j].g = yg at *
      go_wp2_with fail
      exact ⟨⟨j + 1, hlt, by go_num, HP.out, HPl.out⟩, by simp [intOf]; omega⟩
    · have hje : j = st.l.length := by omega
      subst hje
      have hjz : ¬ (st.l.length : Int) < (st.l.length : Int) := by omega
      have HF := HR.out
      rw [aged_all] at HF
      have HFh := hide HF
      clear HF
      go_wp2_with fail
      exact ⟨rfl, .tuple #[], by simp [results, Try.results24, go_sem], rfl, HFh.out, HLc.out⟩
theorem nAge (w : World) : Calls Try.prog 24 #[.pointer none] w fun e w' => e = .returned (.tuple #[]) ∧ w' = w := by
  go_enter Try.func24, Try.ntmps24
  go_wp2
  exact bodyPost_ret (results_none rfl _ _ _) rfl ⟨rfl, rfl⟩
theorem eqlLs (w : World) (a : Option Addr) (n c n' c' : Nat) : (binOp .eql 28 (.slice a n c) (.slice none n' c')).run Try.prog w = .ok (.bool a.isNone) w := Lib.run_eql_slice_nil w _ _ a n c n' c' Try.underlying28
/-- A row of letters as it is seen from outside. -/
theorem letters_of {w : World} {v : Value} {l : List Lt} {base : Nat} (h : w.ownsRow base 41 5 v l.length (l.flatMap letC)) : ∃ a c, v = .slice a l.length c ∧ LettersAt w a l := by
  have h0 : Recs w 41 5 letC v l := ⟨h.1, by
    rcases h.2 with h1 | ⟨g, cap, cur, h1, hb, hg, hr⟩
    · exact Or.inl h1
    · exact Or.inr ⟨g, cap, cur, h1, Nat.zero_le _, hg, hr⟩⟩
  by_cases hl : 0 < l.length
  · obtain ⟨g, c, h1, h2, h3, h4, h5⟩ := Recs.there h0 letC_len hl
    refine ⟨_, c, h1, Or.inr ⟨g, 0, rfl, fun k hk => ?_⟩⟩
    rw [Nat.zero_add]
    exact ⟨h4 k 0 hk (by decide), h4 k 1 hk (by decide), h4 k 2 hk (by decide), h4 k 3 hk (by decide), h4 k 4 hk (by decide)⟩
  · obtain ⟨a, c, h1, -⟩ := h0.slice
    exact ⟨a, c, h1, Or.inl (List.length_eq_zero_iff.1 (by omega))⟩
set_option maxRecDepth 10000 in
set_option maxHeartbeats 2000000 in
theorem pCloneLs (v : Value) (l : List Lt) (w : World) (h : Recs w 41 5 letC v l) (hfew : l.length ≤ 4096) :
    Calls Try.prog 45 #[v] w fun e w' => ∃ a c, e = .returned (.slice a l.length c) ∧ LettersAt w' a l ∧ Below w.heap.size w w' := by
  obtain ⟨i0, hi, hz0, hz1, hz2⟩ := info_parts infoL
  obtain ⟨a, c, rfl, -, hn, hs⟩ := h.slice
  have qL := eqlLs
  cases a with
  | none =>
    have h0 : l = [] := by
      rcases h.2 with ⟨_, h1⟩ | ⟨g, cap, cur, h1, _⟩
      · exact List.length_eq_zero_iff.1 h1
      · cases h1
    subst h0
    clear h hs hn
    go_enter Try.func45, Try.ntmps45
    go_wp2
    go_ret
    exact ⟨none, 0, rfl, Or.inl rfl, Below.refl _ _⟩
  | some x =>
    obtain ⟨g, rfl, hg⟩ := hs x rfl
    have HN : Hid (∀ j u, (l.flatMap letC)[j]? = some u → (w.alloc (.cells #[] 41)).cell? ((⟨g, 0, none⟩ : Addr).add j) = some u) := fun j u hu => by
      have hj := (List.getElem?_eq_some_iff.1 hu).1
      rw [flat_len letC_len] at hj
      rw [Addr.add_lit, Nat.zero_add]
      refine Lib.cell?_alloc_some _ ?_
      rw [World.ownsRow.cellAt h j hj]
      exact hu
    have HF := hide hfew
    clear hn hs hg h hfew
    go_enter Try.func45, Try.ntmps45
    go_wp2_with (at_builtin; refine wpList_append_own _ rfl _ _ 28 rfl w.heap.size 41 i0 (.agg #[.int .u64 0, .int .i64 0, .int .i64 0, .string ⟨#[]⟩, .int .i64 0]) 5 48 Try.underlying28 hi hz0 hz1 hz2 rfl (by decide) _ _ _ rfl (World.ownsRow_made w #[] 0 (Nat.le_refl _) (Nat.zero_le _) rfl) ⟨g, 0, none⟩ l.length c (l.flatMap letC) rfl ?qc1 HN.out ?qc3 ?qc4 ?qc5 ?qc6 ?_)
    case qc1 => rw [flat_len letC_len]
    case qc3 => exact one_letC l
    case qc4 => have := HF.out; unfold maxLen; omega
    case qc5 => have := HF.out; omega
    case qc6 => simp
    intro v' w1 hown hgrow hnil
    have HB : Hid (Below w.heap.size w w1) := ((Below.refl _ w).alloc (Nat.le_refl _) _).grown hgrow (by simp) (by intro k hk; simp [Value.ownBlock] at hk; omega)
    obtain ⟨a', c', rfl, hl⟩ := letters_of (l := l) (by simpa using hown)
    have HL := hide hl
    clear hl hown hgrow hnil HN
    go_wp2
    go_ret
    exact ⟨a', c', rfl, HL.out, HB.out⟩
theorem pList (p b : Nat) (vL : Value) (st : Nt) (m : Nat) (w : World) (h : PAt w p b vL st) (hok : st.Ok m) :
    Calls Try.prog 28 #[.pointer (some ⟨p, 0, none⟩)] w fun e w' => ∃ a c, e = .returned (.slice a st.l.length c) ∧ LettersAt w' a st.l ∧ Below w.heap.size w w' := by
  have KC := hide (pCloneLs vL st.l w h.ls hok.few)
  obtain ⟨aL, cL, rfl, -, -, -⟩ := h.ls.slice
  obtain ⟨c0, -, -⟩ := h.cells
  clear h hok
  go_enter Try.func28, Try.ntmps28
  go_wp2_with fail
  refine KC.out.mono ?_
  rintro e w1 ⟨a, c, rfl, hl, hb⟩
  have HL := hide (And.intro hl hb)
  clear hl hb
  go_wp2
  go_ret
  exact ⟨a, c, rfl, HL.out.1, HL.out.2⟩
theorem nList (w : World) : Calls Try.prog 28 #[.pointer none] w fun e w' => e = .returned (.slice none 0 0) ∧ w' = w := by
  go_enter Try.func28, Try.ntmps28
  go_wp2
  go_ret
  exact ⟨rfl, rfl⟩
theorem nReady (w : World) : Calls Try.prog 30 #[.pointer none] w fun e w' => e = .returned (.slice none 0 0) ∧ w' = w := by
  go_enter Try.func30, Try.ntmps30
  go_wp2
  go_ret
  exact ⟨rfl, rfl⟩
theorem size_alloc (w : World) (o : Obj) : (w.alloc o).heap.size = w.heap.size + 1 := by
  unfold World.alloc
  exact Array.size_push ..
theorem pNew (w : World) : Calls Try.prog 10 #[] w fun e w' => ∃ p b, e = .returned (.pointer (some ⟨p, 0, none⟩)) ∧ PAt w' p b (.slice none 0 0) Nt.new ∧ w.heap.size ≤ p ∧ w.heap.size ≤ b ∧ Below w.heap.size w w' := by
  have hmm := @run_makeMap Try.prog
  have HB : Hid (Below w.heap.size w ((w.alloc (.map #[] 0)).alloc (.cells #[.slice none 0 0, .int .u64 0, .map (some w.heap.size)] 59))) := ((Below.refl _ w).alloc (Nat.le_refl _) _).alloc (one_below w _).size _
  have HH : Hid (PAt ((w.alloc (.map #[] 0)).alloc (.cells #[.slice none 0 0, .int .u64 0, .map (some w.heap.size)] 59)) (w.heap.size + 1) w.heap.size (.slice none 0 0) Nt.new) := by
    refine ⟨?_, Recs.nil _ _ _ _, ⟨_, ((MAt.made w 70).below (one_below _ _)).mono (Nat.zero_le _), Cuts.new⟩⟩
    have := heap_alloc_last (w.alloc (.map #[] 0)) (.cells #[.slice none 0 0, .int .u64 0, .map (some w.heap.size)] 59)
    rw [size_alloc] at this
    exact this
  go_enter Try.func10, Try.ntmps10
  go_wp2
  go_ret
  exact ⟨w.heap.size + 1, w.heap.size, rfl, HH.out, Nat.le_succ _, Nat.le_refl _, HB.out⟩
end Go.Proofs.Ytdfioggeiagihaa
