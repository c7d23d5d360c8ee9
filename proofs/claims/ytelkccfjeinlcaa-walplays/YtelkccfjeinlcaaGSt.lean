/- Steps of the laws, heavy, and a step's text. The law WalKeeps: what its walk needs. -/
import Derived.Test.YtelkccfjeinlcaaGLoose
import Derived.Test.YtelkccfjeinlcaaGRd
import Derived.Test.YtelkccfjeinlcaaGForm
namespace Go.Proofs.Ytelkccfjeinlcaa
open Go Go.RowKit
/-- A step, as it lies in memory. -/
structure Stp where
  act : Nat
  text : ByteArray
  times : Nat
  n : Int
  pa : Option Addr
  picks : List Int
  pc : Nat
/-- What a step always is. -/
structure Stp.Ok (x : Stp) : Prop where
  act : x.act < 256
  text : x.text.size ≤ 140737488351232
  times : x.times < 256
  n : -9223372036854775808 ≤ x.n ∧ x.n ≤ 9223372036854775807
  many : x.picks.length ≤ 140737488351232
  picks : ∀ y ∈ x.picks, -9223372036854775808 ≤ y ∧ y ≤ 9223372036854775807
  nil : x.pa = none → x.pc = 0
/-- A step as a value. -/
def Stp.val (x : Stp) : Value := .agg #[.int .u8 (x.act : Int), .string x.text, .int .u8 (x.times : Int), .int .i64 x.n, .slice x.pa x.picks.length x.pc]
/-- The cells of a step at an address. -/
def StepAt (w : World) (b o : Nat) (x : Stp) : Prop :=
  w.cell? ⟨b, o, none⟩ = some (.int .u8 (x.act : Int)) ∧ w.cell? ⟨b, o + 1, none⟩ = some (.string x.text) ∧ w.cell? ⟨b, o + 2, none⟩ = some (.int .u8 (x.times : Int)) ∧ w.cell? ⟨b, o + 3, none⟩ = some (.int .i64 x.n) ∧ w.cell? ⟨b, o + 4, none⟩ = some (.slice x.pa x.picks.length x.pc) ∧ IntsAt w x.pa x.picks
/-- A list of steps lies at a slice's address. -/
def StepsAt (w : World) (a : Option Addr) (l : List Stp) : Prop := l = [] ∨ ∃ b off, a = some ⟨b, off, none⟩ ∧ ∀ j (hj : j < l.length), StepAt w b (off + j * 5) l[j]
theorem IntsAt.old {u v : World} {a : Option Addr} {l : List Int} (h : IntsAt u a l) (hb : Below u.heap.size u v) : IntsAt v a l := by
  rcases h with h0 | ⟨b, off, rfl, hc⟩
  · exact Or.inl h0
  · exact Or.inr ⟨b, off, rfl, fun j hj => (hb.cell (p := ⟨b, off + j, none⟩) (World.block_lt_of_cell? u _ (hc j hj))).trans (hc j hj)⟩
theorem StepAt.old {u v : World} {b o : Nat} {x : Stp} (h : StepAt u b o x) (hb : Below u.heap.size u v) : StepAt v b o x := by
  have g : ∀ (k : Nat) (y : Value), u.cell? ⟨b, k, none⟩ = some y → v.cell? ⟨b, k, none⟩ = some y := fun k y hy => (hb.cell (p := ⟨b, k, none⟩) (World.block_lt_of_cell? u _ hy)).trans hy
  exact ⟨g _ _ h.1, g _ _ h.2.1, g _ _ h.2.2.1, g _ _ h.2.2.2.1, g _ _ h.2.2.2.2.1, h.2.2.2.2.2.old hb⟩
/-- What heavy tells. -/
def HeavySays (l : List Stp) (w : World) (e : Ending) (w' : World) : Prop :=
  ∃ r : Bool, e = .returned (.bool r) ∧ (∃ q, w' = w.drewN q) ∧ (r = false → l.length ≤ 60 ∧ ∀ x ∈ l, x.picks.length + 8 * x.text.size ≤ 8192)
theorem HeavySays.yes {l : List Stp} {w : World} (q : Nat) : HeavySays l w (.returned (.bool true)) (w.drewN q) := ⟨true, rfl, ⟨q, rfl⟩, fun h => by cases h⟩
theorem HeavySays.no {l : List Stp} {w : World} (q : Nat) (h : l.length ≤ 60 ∧ ∀ x ∈ l, x.picks.length + 8 * x.text.size ≤ 8192) : HeavySays l w (.returned (.bool false)) (w.drewN q) := ⟨false, rfl, ⟨q, rfl⟩, fun _ => h⟩
set_option maxRecDepth 10000 in
set_option maxHeartbeats 1000000 in
theorem heavy_any (a : Option Addr) (c : Nat) (l : List Stp) (w : World) (h : StepsAt w a l) (hok : ∀ x ∈ l, x.Ok) (hl : l.length ≤ 140737488351232) :
    Calls Try.prog 7 #[.slice a l.length c] w (HeavySays l w) := by
  have H := hide h
  have HOk := hide hok
  clear h hok
  go_enter Try.func7, Try.ntmps7
  go_wp2_with fail
  go_loopw [3, 4] (fun nv i wr => ∃ k m q : Nat, wr = w.drewN q ∧ k ≤ l.length ∧ i = .int .i64 (k : Int) ∧ nv = .int .i64 (m : Int) ∧ l.length ≤ m ∧ m ≤ 1562949953421312 ∧ (∀ j (hj : j < l.length), j < k → l[j].picks.length + 8 * l[j].text.size ≤ m)) (fun _ i _ => l.length - (intOf i).toNat)
  case atStart => exact ⟨0, l.length, 0, rfl, Nat.zero_le _, rfl, rfl, Nat.le_refl _, by omega, fun j _ hj => absurd hj (by omega)⟩
  case round =>
    obtain ⟨k, m, q, hwr, hk, rfl, rfl, hlm, hm, hall⟩ := hrel
    have HWr := hide hwr
    clear hwr
    have HA := hide hall
    clear hall
    by_cases hlt : k < l.length
    · by_cases h4 : m ≤ 8192
      · obtain ⟨b, off, rfl, hc⟩ : ∃ b off, a = some ⟨b, off, none⟩ ∧ ∀ j (hj : j < l.length), StepAt w b (off + j * 5) l[j] := by
          rcases H.out with h0 | h1
          · rw [h0] at hlt; exact absurd hlt (by simp)
          · exact h1
        have e4 : wr.cell? ⟨b, off + k * 5 + 4, none⟩ = some (.slice l[k].pa l[k].picks.length l[k].pc) := by rw [HWr.out]; exact (hc k hlt).2.2.2.2.1
        have e1 : wr.cell? ⟨b, off + k * 5 + 1, none⟩ = some (.string l[k].text) := by rw [HWr.out]; exact (hc k hlt).2.1
        have hpm := (HOk.out _ (List.getElem_mem hlt)).many
        have htx := (HOk.out _ (List.getElem_mem hlt)).text
        have HNext : Hid (∀ j (hj : j < l.length), j < k + 1 → l[j].picks.length + 8 * l[j].text.size ≤ m + l[k].picks.length + 8 * l[k].text.size) := fun j hj hjk => by
          by_cases e : j = k
          · subst e; omega
          · have := HA.out j hj (by omega); omega
        clear hc
        generalize l[k].picks.length = y at *
        generalize l[k].pa = ya at *
        generalize l[k].pc = yc at *
        generalize l[k].text = t at *
        have h4z : (m : Int) ≤ 8192 := by omega
        have hw1 : wrap64 (8 * (t.size : Int)) = 8 * (t.size : Int) := by unfold wrap64; omega
        have hw2 : wrap64 ((m : Int) + (y : Int)) = (m : Int) + (y : Int) := by unfold wrap64; omega
        have hw3 : wrap64 ((m : Int) + (y : Int) + 8 * (t.size : Int)) = (m : Int) + (y : Int) + 8 * (t.size : Int) := by unfold wrap64; omega
        go_wp2_with fail
        go_quiet (fail)
        go_wp2
        go_roundw
        case rel => exact ⟨k + 1, m + y + 8 * t.size, q + nq, by rw [HWr.out, World.drewN_drewN], hlt, by go_num, by go_num, by omega, by omega, HNext.out⟩
        case measure => simp [intOf]; omega
      · have h4z : ¬ ((m : Int) ≤ 8192) := by omega
        have h4y : (8192 : Int) < (m : Int) := by omega
        go_wp2
        go_ret
        rw [HWr.out]
        exact HeavySays.yes _
    · have hke : k = l.length := by omega
      by_cases h4 : m ≤ 8192
      · have h4z : ¬ ((8192 : Int) < (m : Int)) := by omega
        have HF : Hid (∀ x ∈ l, x.picks.length + 8 * x.text.size ≤ 8192) := fun x hx => by
          obtain ⟨j, hj, rfl⟩ := List.getElem_of_mem hx
          have := HA.out j hj (by omega)
          omega
        subst hke
        by_cases hn1 : 60 < l.length
        · have hn2 : (60 : Int) < (l.length : Int) := by omega
          go_wp2
          go_ret
          rw [HWr.out]
          exact HeavySays.yes _
        · have hn2 : ¬ ((60 : Int) < (l.length : Int)) := by omega
          go_wp2
          go_ret
          rw [HWr.out]
          exact HeavySays.no _ ⟨by omega, HF.out⟩
      · have h4z : (8192 : Int) < (m : Int) := by omega
        subst hke
        go_wp2
        go_ret
        rw [HWr.out]
        exact HeavySays.yes _
/-- A text, so many times more. -/
def rep (t : ByteArray) : Nat → ByteArray
  | 0 => t
  | k + 1 => rep t k ++ t
theorem rep_size (t : ByteArray) : ∀ k, (rep t k).size = (k + 1) * t.size
  | 0 => by show t.size = _; omega
  | k + 1 => by
    show (rep t k ++ t).size = _
    rw [ByteArray.size_append, rep_size t k, Nat.add_mul (k + 1) 1]
    omega
def Stp.says (x : Stp) : ByteArray := rep x.text (x.times % 8)
theorem says_size (x : Stp) : x.says.size ≤ 8 * x.text.size := by
  unfold Stp.says
  rw [rep_size]
  exact Nat.mul_le_mul_right _ (by have := Nat.mod_lt x.times (show 0 < 8 by decide); omega)
theorem mod8 (a : Nat) : Int.tmod (a : Int) 8 = ((a % 8 : Nat) : Int) := by rw [Int.tmod_eq_emod_of_nonneg (by omega)]; omega
set_option maxRecDepth 10000 in
set_option maxHeartbeats 1000000 in
theorem text_any (x : Stp) (w : World) (hx : x.Ok) (ht : x.text.size ≤ 100000) :
    Calls Try.prog 21 #[x.val] w fun e w' => e = .returned (.string x.says) ∧ Below w.heap.size w w' := by
  have htm := hx.times
  have hm := mod8 x.times
  have hm2 : x.times % 8 < 8 := Nat.mod_lt _ (by decide)
  have hw0 : wrap64 (x.times : Int) = (x.times : Int) := by unfold wrap64; omega
  have hwi : IntKind.i64.wrap (x.times : Int) = (x.times : Int) := by rw [IntKind.wrap_i64]; omega
  have HSz := hide (rep_size x.text)
  unfold Stp.says Stp.val
  clear hx
  generalize x.text = t at *
  generalize x.times % 8 = M at *
  generalize x.times = T at *
  go_enter Try.func21, Try.ntmps21
  go_wp2_with fail
  generalize hW : w.alloc (.cells #[.int .u8 (x.act : Int), .string t, .int .u8 (T : Int), .int .i64 x.n, .slice x.pa x.picks.length x.pc] 40) = W at *
  have hb : Below w.heap.size w W := by rw [← hW]; exact (Below.refl _ _).alloc (Nat.le_refl _) _
  have hbox : W.heap[w.heap.size]? = some (.cells #[.int .u8 (x.act : Int), .string t, .int .u8 (T : Int), .int .i64 x.n, .slice x.pa x.picks.length x.pc] 40 (0, 0)) := by rw [← hW]; exact heap_alloc_last w _
  have hc1 : W.cell? ⟨w.heap.size, 1, none⟩ = some (.string t) := by simp [World.cell?, hbox]
  have hc2 : W.cell? ⟨w.heap.size, 2, none⟩ = some (.int .u8 (T : Int)) := by simp [World.cell?, hbox]
  have HB := hide hb
  clear hb hbox hW
  go_loopw [3, 4] (fun sv i wr => ∃ k : Nat, k ≤ M ∧ i = .int .i64 (k : Int) ∧ sv = .string (rep t k) ∧ wr = W) (fun _ i _ => M - (intOf i).toNat)
  case atStart => exact ⟨0, Nat.zero_le _, rfl, rfl, rfl⟩
  case round =>
    obtain ⟨k, hk, rfl, rfl, hwr⟩ := hrel
    obtain rfl := hwr.symm
    clear hwr
    have hsz := HSz.out k
    have hmul : (k + 1) * t.size ≤ 8 * t.size := Nat.mul_le_mul_right _ (by omega)
    have HR : Hid (rep t (k + 1) = rep t k ++ t) := rfl
    by_cases hlt : k < M
    · have hz : (k : Int) < (M : Int) := by omega
      generalize rep t k = r at *
      have hlen : r.size + t.size ≤ maxLen := by unfold maxLen; omega
      go_wp2
      go_roundw
      case rel => exact ⟨k + 1, hlt, by go_num, by rw [HR.out], by first | rfl | trivial⟩
      case measure => simp [intOf]; omega
    · have hke : k = M := by omega
      subst hke
      have hz : ¬ ((k : Int) < (k : Int)) := by omega
      go_wp2
      go_ret
      exact ⟨rfl, HB.out⟩
end Go.Proofs.Ytelkccfjeinlcaa
namespace Go.Proofs.Ytelkccfjeinlcaa
open Go Go.RowKit Frm Go.Shelf
theorem Lv.more {w : World} {p q r0 c c' : Nat} {all : List ByteArray} {st : St} {F : Nat → Prop} {u : World} (h : Lv w p q all r0 st F c u) (hc : c ≤ c') : Lv w p q all r0 st F c' u := ⟨h.live, h.al, h.log, h.notp, h.newp, Nat.le_trans h.few hc⟩
theorem Lv.form {w : World} {p q r0 c : Nat} {all : List ByteArray} {st : St} {F : Nat → Prop} {u : World} (h : Lv w p q all r0 st F c u) : Form 8 c st := ⟨h.live.ok, h.live.len, h.few⟩
/-- A list of numbers that lies anywhere, or nowhere, goes behind an empty row. -/
theorem wpList_append_ints {ops : Array Oper} {rest : List Oper} {o : Oper} {a : Act} {Q : Exit → Act → World → Prop} (w : World) (hgd : o.guard = none) (s x : Operand)
    (ho : o.op = .call { callee := .builtin .append, args := #[s, x], argTypes := #[38, 38] })
    (base : Nat) (v : Value) (hs : a.eval s = v) (hown : w.ownsRow base 3 1 v 0 [])
    (ao : Option Addr) (c : Nat) (L : List Int) (hx : a.eval x = .slice ao L.length c) (hI : IntsAt w ao L) (hn : ao = none → c = 0) (hl : L.length ≤ 10000) (hb : base ≤ w.heap.size)
    (h : ∀ v' w', w'.ownsRow base 3 1 v' L.length (L.map (Value.int .i64)) → w.grownBy w' v.ownBlock → wpList Try.prog ops Q rest (a.put o.dst v') w') : wpList Try.prog ops Q (o :: rest) a w := by
  obtain ⟨i0, hi, hz0, hz1, hz2⟩ := info_parts info3
  by_cases h0 : L = []
  · subst h0
    cases ao with
    | none =>
      have hc := hn rfl
      subst hc
      exact wpList_append_own_none hgd s x 38 ho base 3 i0 1 Try.underlying38 hi v 0 [] hs hown hx (h v w hown (World.grownBy.refl _ _))
    | some ad =>
      refine wpList_append_own w hgd s x 38 ho base 3 i0 (.int .i64 0) 1 8 Try.underlying38 hi hz0 hz1 hz2 rfl (by decide) v 0 [] hs hown ad 0 c [] hx rfl (fun j v hj => by cases hj) (fun v hv => by cases hv) (by decide) (by decide) hb ?_
      intro v' w' h1 h2 _
      exact h v' w' h1 h2
  · rcases hI with h1 | ⟨b, off, rfl, hc⟩
    · exact absurd h1 h0
    · refine wpList_append_own w hgd s x 38 ho base 3 i0 (.int .i64 0) 1 8 Try.underlying38 hi hz0 hz1 hz2 rfl (by decide) v 0 [] hs hown ⟨b, off, none⟩ L.length c (L.map (Value.int .i64)) hx (by simp) (news_ints hc) (one_ints _) (by unfold maxLen; omega) (by omega) hb ?_
      intro v' w' h1 h2 _
      rw [Nat.zero_add] at h1
      exact h v' w' h1 h2
theorem news_strs {w : World} {b off : Nat} {l : List ByteArray} (h : ∀ j (hj : j < l.length), w.cell? ⟨b, off + j, none⟩ = some (.string l[j])) : ∀ (j : Nat) (u : Value), (l.map Value.string)[j]? = some u → w.cell? ((⟨b, off, none⟩ : Addr).add j) = some u := fun j u hj => by
  have hj' : j < l.length := by
    have := (List.getElem?_eq_some_iff.1 hj).1
    simpa using this
  have hadd : (⟨b, off, none⟩ : Addr).add j = ⟨b, off + j, none⟩ := by unfold Addr.add; split <;> simp_all
  rw [hadd, h j hj']
  simpa [hj'] using hj
theorem one_strs (l : List ByteArray) : ∀ u ∈ l.map Value.string, u.oneCell' = true := fun u hu => by
  obtain ⟨x, _, rfl⟩ := List.mem_map.1 hu
  rfl
theorem infoS : (Try.prog.info? 9).map (fun i => (i.zero, i.size, i.bytes)) = some (some (.string ⟨#[]⟩), 1, 16) := by kernel_rfl
/-- A list of texts that lies anywhere, or nowhere, goes behind an empty row. -/
theorem wpList_append_strs {ops : Array Oper} {rest : List Oper} {o : Oper} {a : Act} {Q : Exit → Act → World → Prop} (w : World) (hgd : o.guard = none) (s x : Operand)
    (ho : o.op = .call { callee := .builtin .append, args := #[s, x], argTypes := #[43, 43] })
    (base : Nat) (v : Value) (hs : a.eval s = v) (hown : w.ownsRow base 9 1 v 0 [])
    (ao : Option Addr) (c : Nat) (L : List ByteArray) (hx : a.eval x = .slice ao L.length c) (hI : StrsAt w ao L) (hn : ao = none → c = 0) (hl : L.length ≤ 10000) (hb : base ≤ w.heap.size)
    (h : ∀ v' w', OwnL w' base v' L → w.grownBy w' v.ownBlock → wpList Try.prog ops Q rest (a.put o.dst v') w') : wpList Try.prog ops Q (o :: rest) a w := by
  obtain ⟨i0, hi, hz0, hz1, hz2⟩ := info_parts infoS
  by_cases h0 : L = []
  · subst h0
    cases ao with
    | none =>
      have hc := hn rfl
      subst hc
      exact wpList_append_own_none hgd s x 43 ho base 9 i0 1 Try.underlying43 hi v 0 [] hs hown hx (h v w hown (World.grownBy.refl _ _))
    | some ad =>
      refine wpList_append_own w hgd s x 43 ho base 9 i0 (.string ⟨#[]⟩) 1 16 Try.underlying43 hi hz0 hz1 hz2 rfl (by decide) v 0 [] hs hown ad 0 c [] hx rfl (fun j v hj => by cases hj) (fun v hv => by cases hv) (by decide) (by decide) hb ?_
      intro v' w' h1 h2 _
      exact h v' w' h1 h2
  · rcases hI with h1 | ⟨b, off, rfl, hc⟩
    · exact absurd h1 h0
    · refine wpList_append_own w hgd s x 43 ho base 9 i0 (.string ⟨#[]⟩) 1 16 Try.underlying43 hi hz0 hz1 hz2 rfl (by decide) v 0 [] hs hown ⟨b, off, none⟩ L.length c (L.map Value.string) hx (by simp) (news_strs hc) (one_strs _) (by unfold maxLen; omega) (by omega) hb ?_
      intro v' w' h1 h2 _
      rw [Nat.zero_add] at h1
      exact h v' w' h1 h2
/-- A row of one's own: no more than its room; where it lies nowhere it has none. -/
theorem own_cap {u : World} {b n c : Nat} {a : Option Addr} {l : List ByteArray} (h : OwnL u b (.slice a n c) l) : n ≤ c ∧ (a = none → c = 0) := by
  rcases h.2 with ⟨e, hz⟩ | ⟨g, cap, cur, e, _, _, h2, _⟩
  · cases e
    exact ⟨Nat.le_refl _, fun _ => rfl⟩
  · cases e
    exact ⟨h2, fun e => by cases e⟩
theorem strs_take {u : World} {a : Option Addr} {l : List ByteArray} (h : StrsAt u a l) (r : Nat) : StrsAt u a (l.take r) := by
  rcases h with rfl | ⟨b, off, rfl, hc⟩
  · rw [List.take_nil]; exact Or.inl rfl
  · refine Or.inr ⟨b, off, rfl, fun j hj => ?_⟩
    rw [List.getElem_take]
    exact hc j (by rw [List.length_take] at hj; omega)
/-- A crash. -/
theorem al_crashed (w : World) (q c : Nat) (st : St) (F : Nat → Prop) (a : Option Addr) (cc : Nat) (picks : List Int) (u : World) (h : Al w q st F u) (hf : Form 8 c st) (hc : c ≤ 10000) (hP : IntsAt u a picks) (hap : Apart a picks F) (hpl : picks.length ≤ 140737488351232) (hr : ∀ x ∈ picks, -9223372036854775808 ≤ x ∧ x ≤ 9223372036854775807) :
    Calls Try.prog 23 #[.pointer (some ⟨q, 0, none⟩), .slice a picks.length cc] u fun e v => e = .returned (.int .i64 0) ∧ ∃ F', Al w q (st.crash picks) F' v ∧ Loc F F' u v := by
  refine (con.crash q st F a cc picks u h.disk hf.ok (Nat.le_trans hf.few hc) hP hap hpl hr).mono ?_
  rintro e v ⟨rfl, F', hd, hl⟩
  exact ⟨rfl, F', h.step hd hl, hl⟩
theorem al_fused (w : World) (q c : Nat) (st : St) (F : Nat → Prop) (n : Int) (u : World) (h : Al w q st F u) (hf : Form 8 c st) (hn : -9223372036854775808 ≤ n ∧ n ≤ 9223372036854775807) :
    Calls Try.prog 24 #[.pointer (some ⟨q, 0, none⟩), .int .i64 n] u fun e v => e = .returned (.int .i64 0) ∧ ∃ F', Al w q (st.fuse n) F' v ∧ Loc F F' u v := by
  refine (con.fuse q st F n u h.disk hf.ok hn).mono ?_
  rintro e v ⟨rfl, F', hd, hl⟩
  exact ⟨rfl, F', h.step hd hl, hl⟩
theorem al_opened (w : World) (q c : Nat) (st : St) (F : Nat → Prop) (u : World) (h : Al w q st F u) (hf : Form 8 c st) (hc : c + 16 ≤ 10000) :
    Calls Try.prog 19 #[.pointer (some ⟨q, 0, none⟩), .int .i64 0, .int .i64 8] u fun e v => ∃ x a n k F', e = .returned (.tuple #[.pointer x, .slice a n k, .int .i64 (((walOpen st 0 8).1.1 : Nat) : Int)]) ∧ Al w q (walOpen st 0 8).2 F' v ∧ Loc F F' u v := by
  have key := pOpen q 0 8 st F u h.disk hf.ok (by have := hf.few; omega) (by rw [hf.len]; exact Nat.le_refl _) (by decide) (by decide)
  refine Calls.mono key ?_
  rintro e v (⟨h0, p', vR, F', rfl, hL, hp, hR, hd, hl, hnp, hdj, hop⟩ | ⟨h1, rfl, F', hd, hl⟩)
  · obtain ⟨a, k, rfl, hs⟩ := hR.strs
    exact ⟨_, a, _, k, F', by rw [h0]; rfl, h.step hd hl, hl⟩
  · exact ⟨none, none, 0, 0, F', rfl, h.step hd hl, hl⟩
theorem lv_opened (w : World) (q c r : Nat) (recs : List ByteArray) (st st' : St) (F : Nat → Prop) (u : World) (h : Al w q st F u) (hf : Form 8 c st) (hc : c + 16 ≤ 10000) (ho : walOpen st 0 8 = ((0, cat recs, recs), st')) (hlv : Live recs r st') :
    Calls Try.prog 19 #[.pointer (some ⟨q, 0, none⟩), .int .i64 0, .int .i64 8] u fun e v => ∃ p' a k F', e = .returned (.tuple #[.pointer (some ⟨p', 0, none⟩), .slice a recs.length k, .int .i64 0]) ∧ Lv w p' q recs r st' F' (c + 16) v ∧ OwnL v w.heap.size (.slice a recs.length k) recs ∧ Loc F F' u v := by
  have key := pOpen q 0 8 st F u h.disk hf.ok (by have := hf.few; omega) (by rw [hf.len]; exact Nat.le_refl _) (by decide) (by decide)
  have hfew : st'.loose.length ≤ c + 16 := by
    have := (hf.open 0 8).few
    rw [ho] at this
    exact this
  rw [ho] at key
  refine Calls.mono key ?_
  rintro e v (⟨h0, p', vR, F', rfl, hL, hp, hR, hd, hl, hnp, hdj, hop⟩ | ⟨h1, _⟩)
  · obtain ⟨a, k, rfl, hs⟩ := hR.strs
    exact ⟨p', a, k, F', rfl, ⟨hlv, h.step hd hl, hL, hnp, Nat.le_trans h.below.size hp, hfew⟩, own_up hR (fun k hk => Nat.le_trans h.below.size (own_ge hR hk)), hl⟩
  · exact absurd rfl h1
end Go.Proofs.Ytelkccfjeinlcaa
