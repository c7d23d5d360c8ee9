/- Steps of the laws, heavy, and a step's text. The law CkptKeeps. How lists of steps come in. -/
import Derived.Test.YtiebhdgpnloieaaDoorInts
import Derived.Test.YtiebhdgpnloieaaDoorAl
import Derived.Test.YtiebhdgpnloieaaDoorIn7
import Derived.Deep.Slices
import Derived.Deep.Strs
import Derived.SizedLaws
namespace Go.Proofs.YtiebhdgpnloieaaDoor
open Go Go.RowKit
/-- A step, as it lies in memory. -/
structure Stp where
  act : Nat
  gen : Nat
  text : ByteArray
  times : Nat
  n : Int
  pos : Nat
  pa : Option Addr
  picks : List Int
  pc : Nat
/-- What a step always is. -/
structure Stp.Ok (x : Stp) : Prop where
  act : x.act < 256
  gen : x.gen < 18446744073709551616
  pos : x.pos < 65536
  text : x.text.size ≤ 140737488351232
  times : x.times < 256
  n : -9223372036854775808 ≤ x.n ∧ x.n ≤ 9223372036854775807
  many : x.picks.length ≤ 140737488351232
  picks : ∀ y ∈ x.picks, -9223372036854775808 ≤ y ∧ y ≤ 9223372036854775807
  nil : x.pa = none → x.pc = 0
/-- A step as a value. -/
def Stp.val (x : Stp) : Value := .agg #[.int .u8 (x.act : Int), .int .u64 (x.gen : Int), .string x.text, .int .u8 (x.times : Int), .int .i64 x.n, .int .u16 (x.pos : Int), .slice x.pa x.picks.length x.pc]
/-- The cells of a step at an address. -/
def StepAt (w : World) (b o : Nat) (x : Stp) : Prop :=
  w.cell? ⟨b, o, none⟩ = some (.int .u8 (x.act : Int)) ∧ w.cell? ⟨b, o + 1, none⟩ = some (.int .u64 (x.gen : Int)) ∧ w.cell? ⟨b, o + 2, none⟩ = some (.string x.text) ∧ w.cell? ⟨b, o + 3, none⟩ = some (.int .u8 (x.times : Int)) ∧ w.cell? ⟨b, o + 4, none⟩ = some (.int .i64 x.n) ∧ w.cell? ⟨b, o + 5, none⟩ = some (.int .u16 (x.pos : Int)) ∧ w.cell? ⟨b, o + 6, none⟩ = some (.slice x.pa x.picks.length x.pc) ∧ IntsAt w x.pa x.picks
/-- A list of steps lies at a slice's address. -/
def StepsAt (w : World) (a : Option Addr) (l : List Stp) : Prop := l = [] ∨ ∃ b off, a = some ⟨b, off, none⟩ ∧ ∀ j (hj : j < l.length), StepAt w b (off + j * 7) l[j]
theorem IntsAt.old {u v : World} {a : Option Addr} {l : List Int} (h : IntsAt u a l) (hb : Below u.heap.size u v) : IntsAt v a l := by
  rcases h with h0 | ⟨b, off, rfl, hc⟩
  · exact Or.inl h0
  · exact Or.inr ⟨b, off, rfl, fun j hj => (hb.cell (p := ⟨b, off + j, none⟩) (World.block_lt_of_cell? u _ (hc j hj))).trans (hc j hj)⟩
theorem StepAt.old {u v : World} {b o : Nat} {x : Stp} (h : StepAt u b o x) (hb : Below u.heap.size u v) : StepAt v b o x := by
  have g : ∀ (k : Nat) (y : Value), u.cell? ⟨b, k, none⟩ = some y → v.cell? ⟨b, k, none⟩ = some y := fun k y hy => (hb.cell (p := ⟨b, k, none⟩) (World.block_lt_of_cell? u _ hy)).trans hy
  exact ⟨g _ _ h.1, g _ _ h.2.1, g _ _ h.2.2.1, g _ _ h.2.2.2.1, g _ _ h.2.2.2.2.1, g _ _ h.2.2.2.2.2.1, g _ _ h.2.2.2.2.2.2.1, h.2.2.2.2.2.2.2.old hb⟩
/-- What heavy tells. -/
def HeavySays (l : List Stp) (w : World) (e : Ending) (w' : World) : Prop :=
  ∃ r : Bool, e = .returned (.bool r) ∧ (∃ q, w' = w.drewN q) ∧ (r = false → l.length ≤ 60 ∧ ∀ x ∈ l, x.picks.length + 8 * x.text.size ≤ 8192)
theorem HeavySays.yes {l : List Stp} {w : World} (q : Nat) : HeavySays l w (.returned (.bool true)) (w.drewN q) := ⟨true, rfl, ⟨q, rfl⟩, fun h => by cases h⟩
theorem HeavySays.no {l : List Stp} {w : World} (q : Nat) (h : l.length ≤ 60 ∧ ∀ x ∈ l, x.picks.length + 8 * x.text.size ≤ 8192) : HeavySays l w (.returned (.bool false)) (w.drewN q) := ⟨false, rfl, ⟨q, rfl⟩, fun _ => h⟩
set_option maxRecDepth 10000 in
set_option maxHeartbeats 1000000 in
theorem heavy_any (a : Option Addr) (c : Nat) (l : List Stp) (w : World) (h : StepsAt w a l) (hok : ∀ x ∈ l, x.Ok) (hl : l.length ≤ 140737488351232) :
    Calls Tryd.prog 6 #[.slice a l.length c] w (HeavySays l w) := by
  have H := hide h
  have HOk := hide hok
  clear h hok
  go_enter Tryd.func6, Tryd.ntmps6
  go_wp2_with fail
  go_loopw [3, 4] (fun nv i wr => ∃ k m q : Nat, wr = w.drewN q ∧ k ≤ l.length ∧ i = .int .i64 (k : Int) ∧ nv = .int .i64 (m : Int) ∧ l.length ≤ m ∧ m ≤ 1562949953421312 ∧ (∀ j (hj : j < l.length), j < k → l[j].picks.length + 8 * l[j].text.size ≤ m)) (fun _ i _ => l.length - (intOf i).toNat)
  case atStart => exact ⟨0, l.length, 0, rfl, Nat.zero_le _, rfl, rfl, Nat.le_refl _, by omega, fun j _ hj => absurd hj (by omega)⟩
  case round =>
    obtain ⟨k, m, q, hwr, hk, rfl, rfl, hlm, hm, hall⟩ := hrel
    have HWr := hide hwr
    clear hwr
    have HA := hide hall
    clear hall
    by_cases hlt : k < l.length
    · by_cases h4 : m ≤ 8192
      · obtain ⟨b, off, rfl, hc⟩ : ∃ b off, a = some ⟨b, off, none⟩ ∧ ∀ j (hj : j < l.length), StepAt w b (off + j * 7) l[j] := by
          rcases H.out with h0 | h1
          · rw [h0] at hlt; exact absurd hlt (by simp)
          · exact h1
        have e4 : wr.cell? ⟨b, off + k * 7 + 6, none⟩ = some (.slice l[k].pa l[k].picks.length l[k].pc) := by rw [HWr.out]; exact (hc k hlt).2.2.2.2.2.2.1
        have e1 : wr.cell? ⟨b, off + k * 7 + 2, none⟩ = some (.string l[k].text) := by rw [HWr.out]; exact (hc k hlt).2.2.1
        have hpm := (HOk.out _ (List.getElem_mem hlt)).many
        have htx := (HOk.out _ (List.getElem_mem hlt)).text
        have HNext : Hid (∀ j (hj : j < l.length), j < k + 1 → l[j].picks.length + 8 * l[j].text.size ≤ m + l[k].picks.length + 8 * l[k].text.size) := fun j hj hjk => by
          by_cases e : j = k
          · subst e; omega
          · have := HA.out j hj (by omega); omega
        clear hc
        generalize l[k].picks.length = y at *
        generalize l[k].pa = ya at *
        generalize l[k].pc = yc at *
        generalize l[k].text = t at *
        have h4z : (m : Int) ≤ 8192 := by omega
        have hw1 : wrap64 (8 * (t.size : Int)) = 8 * (t.size : Int) := by unfold wrap64; omega
        have hw2 : wrap64 ((m : Int) + (y : Int)) = (m : Int) + (y : Int) := by unfold wrap64; omega
        have hw3 : wrap64 ((m : Int) + (y : Int) + 8 * (t.size : Int)) = (m : Int) + (y : Int) + 8 * (t.size : Int) := by unfold wrap64; omega
        go_wp2_with fail
        go_quiet (fail)
        go_wp2
        go_roundw
        case rel => exact ⟨k + 1, m + y + 8 * t.size, q + nq, by rw [HWr.out, World.drewN_drewN], hlt, by go_num, by go_num, by omega, by omega, HNext.out⟩
        case measure => simp [intOf]; omega
      · have h4z : ¬ ((m : Int) ≤ 8192) := by omega
        have h4y : (8192 : Int) < (m : Int) := by omega
        go_wp2
        go_ret
        rw [HWr.out]
        exact HeavySays.yes _
    · have hke : k = l.length := by omega
      by_cases h4 : m ≤ 8192
      · have h4z : ¬ ((8192 : Int) < (m : Int)) := by omega
        have HF : Hid (∀ x ∈ l, x.picks.length + 8 * x.text.size ≤ 8192) := fun x hx => by
          obtain ⟨j, hj, rfl⟩ := List.getElem_of_mem hx
          have := HA.out j hj (by omega)
          omega
        subst hke
        by_cases hn1 : 60 < l.length
        · have hn2 : (60 : Int) < (l.length : Int) := by omega
          go_wp2
          go_ret
          rw [HWr.out]
          exact HeavySays.yes _
        · have hn2 : ¬ ((60 : Int) < (l.length : Int)) := by omega
          go_wp2
          go_ret
          rw [HWr.out]
          exact HeavySays.no _ ⟨by omega, HF.out⟩
      · have h4z : (8192 : Int) < (m : Int) := by omega
        subst hke
        go_wp2
        go_ret
        rw [HWr.out]
        exact HeavySays.yes _
/-- A text, so many times more. -/
def rep (t : ByteArray) : Nat → ByteArray
  | 0 => t
  | k + 1 => rep t k ++ t
theorem rep_size (t : ByteArray) : ∀ k, (rep t k).size = (k + 1) * t.size
  | 0 => by show t.size = _; omega
  | k + 1 => by
    show (rep t k ++ t).size = _
    rw [ByteArray.size_append, rep_size t k, Nat.add_mul (k + 1) 1]
    omega
def Stp.says (x : Stp) : ByteArray := rep x.text (x.times % 8)
theorem says_size (x : Stp) : x.says.size ≤ 8 * x.text.size := by
  unfold Stp.says
  rw [rep_size]
  exact Nat.mul_le_mul_right _ (by have := Nat.mod_lt x.times (show 0 < 8 by decide); omega)
theorem mod8 (a : Nat) : Int.tmod (a : Int) 8 = ((a % 8 : Nat) : Int) := by rw [Int.tmod_eq_emod_of_nonneg (by omega)]; omega
set_option maxRecDepth 10000 in
set_option maxHeartbeats 1000000 in
theorem text_any (x : Stp) (w : World) (hx : x.Ok) (ht : x.text.size ≤ 100000) :
    Calls Tryd.prog 17 #[x.val] w fun e w' => e = .returned (.string x.says) ∧ Below w.heap.size w w' := by
  have htm := hx.times
  have hm := mod8 x.times
  have hm2 : x.times % 8 < 8 := Nat.mod_lt _ (by decide)
  have hw0 : wrap64 (x.times : Int) = (x.times : Int) := by unfold wrap64; omega
  have hwi : IntKind.i64.wrap (x.times : Int) = (x.times : Int) := by rw [IntKind.wrap_i64]; omega
  have HSz := hide (rep_size x.text)
  unfold Stp.says Stp.val
  clear hx
  generalize x.text = t at *
  generalize x.times % 8 = M at *
  generalize x.times = T at *
  go_enter Tryd.func17, Tryd.ntmps17
  go_wp2_with fail
  generalize hW : w.alloc (.cells #[.int .u8 (x.act : Int), .int .u64 (x.gen : Int), .string t, .int .u8 (T : Int), .int .i64 x.n, .int .u16 (x.pos : Int), .slice x.pa x.picks.length x.pc] 38) = W at *
  have hb : Below w.heap.size w W := by rw [← hW]; exact (Below.refl _ _).alloc (Nat.le_refl _) _
  have hbox : W.heap[w.heap.size]? = some (.cells #[.int .u8 (x.act : Int), .int .u64 (x.gen : Int), .string t, .int .u8 (T : Int), .int .i64 x.n, .int .u16 (x.pos : Int), .slice x.pa x.picks.length x.pc] 38 (0, 0)) := by rw [← hW]; exact heap_alloc_last w _
  have hc1 : W.cell? ⟨w.heap.size, 2, none⟩ = some (.string t) := by simp [World.cell?, hbox]
  have hc2 : W.cell? ⟨w.heap.size, 3, none⟩ = some (.int .u8 (T : Int)) := by simp [World.cell?, hbox]
  have HB := hide hb
  clear hb hbox hW
  go_loopw [3, 4] (fun sv i wr => ∃ k : Nat, k ≤ M ∧ i = .int .i64 (k : Int) ∧ sv = .string (rep t k) ∧ wr = W) (fun _ i _ => M - (intOf i).toNat)
  case atStart => exact ⟨0, Nat.zero_le _, rfl, rfl, rfl⟩
  case round =>
    obtain ⟨k, hk, rfl, rfl, hwr⟩ := hrel
    obtain rfl := hwr.symm
    clear hwr
    have hsz := HSz.out k
    have hmul : (k + 1) * t.size ≤ 8 * t.size := Nat.mul_le_mul_right _ (by omega)
    have HR : Hid (rep t (k + 1) = rep t k ++ t) := rfl
    by_cases hlt : k < M
    · have hz : (k : Int) < (M : Int) := by omega
      generalize rep t k = r at *
      have hlen : r.size + t.size ≤ maxLen := by unfold maxLen; omega
      go_wp2
      go_roundw
      case rel => exact ⟨k + 1, hlt, by go_num, by rw [HR.out], by first | rfl | trivial⟩
      case measure => simp [intOf]; omega
    · have hke : k = M := by omega
      subst hke
      have hz : ¬ ((k : Int) < (k : Int)) := by omega
      go_wp2
      go_ret
      exact ⟨rfl, HB.out⟩
end Go.Proofs.YtiebhdgpnloieaaDoor
namespace Go.Proofs.YtiebhdgpnloieaaDoor
open Go Go.RowKit Frm
/-- A list of numbers that lies anywhere, or nowhere, goes behind an empty row. -/
theorem wpList_append_ints {ops : Array Oper} {rest : List Oper} {o : Oper} {a : Act} {Q : Exit → Act → World → Prop} (w : World) (hgd : o.guard = none) (s x : Operand)
    (ho : o.op = .call { callee := .builtin .append, args := #[s, x], argTypes := #[36, 36] })
    (base : Nat) (v : Value) (hs : a.eval s = v) (hown : w.ownsRow base 3 1 v 0 [])
    (ao : Option Addr) (c : Nat) (L : List Int) (hx : a.eval x = .slice ao L.length c) (hI : IntsAt w ao L) (hn : ao = none → c = 0) (hl : L.length ≤ 10000) (hb : base ≤ w.heap.size)
    (h : ∀ v' w', w'.ownsRow base 3 1 v' L.length (L.map (Value.int .i64)) → w.grownBy w' v.ownBlock → wpList Tryd.prog ops Q rest (a.put o.dst v') w') : wpList Tryd.prog ops Q (o :: rest) a w := by
  obtain ⟨i0, hi, hz0, hz1, hz2⟩ := info_parts info3
  by_cases h0 : L = []
  · subst h0
    cases ao with
    | none =>
      have hc := hn rfl
      subst hc
      exact wpList_append_own_none hgd s x 36 ho base 3 i0 1 Tryd.underlying36 hi v 0 [] hs hown hx (h v w hown (World.grownBy.refl _ _))
    | some ad =>
      refine wpList_append_own w hgd s x 36 ho base 3 i0 (.int .i64 0) 1 8 Tryd.underlying36 hi hz0 hz1 hz2 rfl (by decide) v 0 [] hs hown ad 0 c [] hx rfl (fun j v hj => by cases hj) (fun v hv => by cases hv) (by decide) (by decide) hb ?_
      intro v' w' h1 h2 _
      exact h v' w' h1 h2
  · rcases hI with h1 | ⟨b, off, rfl, hc⟩
    · exact absurd h1 h0
    · refine wpList_append_own w hgd s x 36 ho base 3 i0 (.int .i64 0) 1 8 Tryd.underlying36 hi hz0 hz1 hz2 rfl (by decide) v 0 [] hs hown ⟨b, off, none⟩ L.length c (L.map (Value.int .i64)) hx (by simp) (news_ints hc) (one_ints _) (by unfold maxLen; omega) (by omega) hb ?_
      intro v' w' h1 h2 _
      rw [Nat.zero_add] at h1
      exact h v' w' h1 h2
theorem al_crashed (w : World) (q : Nat) (st : St) (F : Nat → Prop) (a : Option Addr) (cc : Nat) (picks : List Int) (u : World) (h : Al w q st F u) (hok : st.Ok) (hl : st.loose.length ≤ 10000) (hP : IntsAt u a picks) (hap : Apart a picks F) (hpl : picks.length ≤ 140737488351232) (hr : ∀ x ∈ picks, -9223372036854775808 ≤ x ∧ x ≤ 9223372036854775807) :
    Calls Tryd.prog 19 #[.pointer (some ⟨q, 0, none⟩), .slice a picks.length cc] u fun e v => e = .returned (.int .i64 0) ∧ ∃ F', Al w q (st.crash picks) F' v := by
  refine (con.crash q st F a cc picks u h.disk hok hl hP hap hpl hr).mono ?_
  rintro e v ⟨rfl, F', hd, hl⟩
  exact ⟨rfl, F', h.step hd hl⟩
theorem al_fused (w : World) (q : Nat) (st : St) (F : Nat → Prop) (n : Int) (u : World) (h : Al w q st F u) (hok : st.Ok) (hn : -9223372036854775808 ≤ n ∧ n ≤ 9223372036854775807) :
    Calls Tryd.prog 18 #[.pointer (some ⟨q, 0, none⟩), .int .i64 n] u fun e v => e = .returned (.int .i64 0) ∧ ∃ F', Al w q (st.fuse n) F' v := by
  refine (con.fuse q st F n u h.disk hok hn).mono ?_
  rintro e v ⟨rfl, F', hd, hl⟩
  exact ⟨rfl, F', h.step hd hl⟩
theorem al_saved (w : World) (q : Nat) (o n : Int) (g : Nat) (t : ByteArray) (st : St) (F : Nat → Prop) (u : World) (h : Al w q st F u) (hok : st.Ok) (hl : st.loose.length ≤ 7000) (hn : -9223372036854775808 ≤ n ∧ n ≤ 9223372036854775807) (ht : t.size ≤ 100000) :
    Calls Tryd.prog 16 #[.pointer (some ⟨q, 0, none⟩), .int .i64 o, .int .i64 n, .int .u64 (g : Int), .string t] u fun e v => e = .returned (.int .i64 (((st.save o n g t).1 : Nat) : Int)) ∧ ∃ F', Al w q (st.save o n g t).2 F' v := by
  refine (pSave q o n g t st F u h.disk hok (by omega) hn ht).mono ?_
  rintro e v ⟨rfl, F', hd, hl⟩
  exact ⟨rfl, F', h.step hd hl⟩
theorem al_loaded (w : World) (q : Nat) (o n : Int) (st : St) (F : Nat → Prop) (u : World) (h : Al w q st F u) (hok : st.Ok) (hl : st.loose.length ≤ 10000) (hn : -9223372036854775808 ≤ n ∧ n ≤ 9223372036854775807) :
    Calls Tryd.prog 20 #[.pointer (some ⟨q, 0, none⟩), .int .i64 o, .int .i64 n] u fun e v => e = .returned (.tuple #[.int .u64 (((st.load o n).1.1 : Nat) : Int), .string (st.load o n).1.2, .int .i64 (((st.load o n).2 : Nat) : Int)]) ∧ Al w q st F v := by
  refine (pLoad q o n st F u h.disk hok hl hn).mono ?_
  rintro e v ⟨rfl, hb⟩
  exact ⟨rfl, h.keep hb⟩
/-- A Save that is too long, and the fuse taken out: all is as it was. -/
theorem Keep.long {st : St} {g : Nat} {t : ByteArray} (h : Keep 12 st g t) (k : Nat) (_ : k < 16) (hg : g + 1 ≤ 4611686018427387904) (t' : ByteArray) (ht : 1280 < t'.size) : (st.fuse (k : Int)).save 0 12 (g + 1) t' = (4, st.fuse (k : Int)) ∧ (st.fuse (k : Int)).fuse (-1) = st := by
  have hr : room 12 = 1280 := rfl
  have hm : (st.fuse (k : Int)).mayC 0 12 := ⟨by rw [hr]; decide, by omega, by show (0 : Int) ≤ (st.sure.length : Int) - 12; rw [h.len]; decide⟩
  constructor
  · unfold St.save
    rw [if_neg (fun x => x hm), if_neg (by omega), if_pos (by rw [hr]; omega)]
  · obtain ⟨s, l, f⟩ := st
    have h1 : l = [] := h.loose
    have h2 : f = -1 := h.left
    subst h1 h2
    rfl
/-- A Save that fits. -/
theorem Keep.saved {st : St} {g : Nat} {t : ByteArray} (h : Keep 12 st g t) (k : Nat) (hk : k < 16) (hg : g + 1 ≤ 4611686018427387904) (t' : ByteArray) (ht : t'.size ≤ 1280) (picks : List Int) :
    (st.fuse (k : Int)).Ok ∧ (st.fuse (k : Int)).loose.length ≤ 7000 ∧ ((st.fuse (k : Int)).save 0 12 (g + 1) t').2.Ok ∧ ((st.fuse (k : Int)).save 0 12 (g + 1) t').2.loose.length ≤ 10000 ∧
    ((((st.fuse (k : Int)).save 0 12 (g + 1) t').1 = 50 ∧ Keep 12 (((st.fuse (k : Int)).save 0 12 (g + 1) t').2.crash picks) g t) ∨
      ((((st.fuse (k : Int)).save 0 12 (g + 1) t').1 = 0 ∨ ((st.fuse (k : Int)).save 0 12 (g + 1) t').1 = 50) ∧ Keep 12 (((st.fuse (k : Int)).save 0 12 (g + 1) t').2.crash picks) (g + 1) t')) := by
  have hf : (st.fuse (k : Int)).Ok := h.ok.fuse _ (by omega)
  have e : (st.fuse (k : Int)).save 0 12 (g + 1) t' = saveAt (slN 12 (g + 1)) (g + 1) t' (st.fuse (k : Int)) :=
    save_at (N := 12) (st := st.fuse (k : Int)) h.len (by decide) (by decide) rfl ⟨by omega, hg⟩ ht
  have e2 : st.fuse (k : Int) = ⟨st.sure, [], (k : Int)⟩ := by unfold St.fuse; rw [h.loose, show max (k : Int) (-1) = (k : Int) from by omega]
  have hfew : (saveAt (slN 12 (g + 1)) (g + 1) t' (st.fuse (k : Int))).2.loose.length ≤ 10000 := by
    have hsl := slN_le 12 (g + 1)
    have hnb : nb t'.size ≤ 5 := by unfold nb; omega
    have := writes_few (slN 12 (g + 1)) (g + 1) t' st.sure (k : Int) (by rw [h.len]; omega) (by omega)
    rw [← e2] at this
    omega
  rw [e]
  refine ⟨hf, by show st.loose.length ≤ 7000; rw [h.loose]; decide, save_ok hf _ _ _, hfew, ?_⟩
  rcases h.step (by decide) (by decide) k (by omega) t' ht picks with h1 | ⟨h1, _, h2⟩
  · exact Or.inl h1
  · exact Or.inr ⟨h1, h2⟩
theorem mod16 (a : Nat) : Int.tmod (a : Int) 16 = ((a % 16 : Nat) : Int) := by rw [Int.tmod_eq_emod_of_nonneg (by omega)]; omega
set_option maxRecDepth 10000 in
set_option maxHeartbeats 8000000 in
theorem CkptKeeps_any (a : Option Addr) (c : Nat) (l : List Stp) (w : World) (h : StepsAt w a l) (hok : ∀ x ∈ l, x.Ok) (hl : l.length ≤ 140737488351232) :
    Calls Tryd.prog 4 #[.slice a l.length c] w fun e w' => e = .returned (.bool true) ∧ Below w.heap.size w w' := by
  have HHv := hide (heavy_any a c l w h hok hl)
  have HOk := hide hok
  have KA := hide (fun u => alive_any u)
  have HSt := hide h
  clear h hok
  go_enter Tryd.func4, Tryd.ntmps4
  go_wp2_with fail
  refine HHv.out.mono ?_
  rintro e w1 ⟨r, rfl, ⟨n1, hw1⟩, hr⟩
  obtain rfl := hw1
  cases hrr : r with
  | true =>
    clear hr HHv
    go_wp2_with fail
    refine (KA.out _).mono ?_
    rintro e w2 ⟨rfl, hb2⟩
    have HB2 := hide (below_drewN (Below.refl _ w) n1 |>.trans hb2)
    clear hb2
    go_wp2
    go_ret
    exact ⟨rfl, HB2.out⟩
  | false =>
    obtain ⟨h60, hsm⟩ := hr hrr
    have HSm := hide hsm
    clear hr hsm HHv
    have K1 := hide (con.new 12 (w.drewN n1) (by decide) (by decide))
    go_wp2_with fail
    refine K1.out.mono ?_
    rintro e w2 ⟨q, F1, rfl, hd1, hF1, hb1⟩
    have hA1 : Al w q (St.new 12) F1 w2 := ⟨hd1, (below_drewN (Below.refl _ w) n1).trans hb1, hF1⟩
    have K2 : Hid (Calls Tryd.prog 16 #[.pointer (some ⟨q, 0, none⟩), .int .i64 0, .int .i64 12, .int .u64 1, .string ⟨#[]⟩] w2 fun e v => e = .returned (.int .i64 0) ∧ ∃ st F', Keep 12 st 1 ⟨#[]⟩ ∧ Al w q st F' v) := by
      have hk := keep_first 12 (by decide) (by decide) ⟨#[]⟩ (by decide)
      have := al_saved w q 0 12 1 ⟨#[]⟩ (St.new 12) F1 w2 hA1 (St.Ok.new (by decide) (by decide)) (by decide) (by decide) (by decide)
      rw [show (12 : Int) = ((12 : Nat) : Int) from rfl, save_at (N := 12) (List.length_replicate ..) (by decide) (by decide) rfl (by decide) (by decide), hk.1] at this
      refine this.mono ?_
      rintro e v ⟨rfl, F', hA⟩
      exact ⟨rfl, _, F', hk.2, hA⟩
    clear hd1 hF1 hb1 K1 hA1
    go_wp2_with fail
    refine K2.out.mono ?_
    rintro e w3 ⟨rfl, st0, F0, hk0, hA0⟩
    clear K2
    have HK0 := hide hk0
    have HA0 := hide hA0
    go_wp2_with fail
    clear HA0 HK0
    go_loopw [5, 6, 7, 8, 9, 10, 11, 12, 13, 14] (fun gv tv i _ _ _ _ _ _ _ u => ∃ (k g : Nat) (t : ByteArray) (st : St) (F : Nat → Prop), k ≤ l.length ∧ 1 ≤ g ∧ g ≤ k + 1 ∧ gv = .int .u64 (g : Int) ∧ tv = .string t ∧ i = .int .i64 (k : Int) ∧ Keep 12 st g t ∧ Al w q st F u) (fun _ _ i _ _ _ _ _ _ _ _ => l.length - (intOf i).toNat)
    case atStart => exact ⟨0, 1, ⟨#[]⟩, st0, F0, Nat.zero_le _, Nat.le_refl _, Nat.le_refl _, rfl, rfl, rfl, hk0, hA0⟩
    case round =>
      obtain ⟨k, g, t, st, F, hk, hg1, hgk, rfl, rfl, rfl, hkp, hal⟩ := hrel
      clear hk0 hA0
      by_cases hlt : k < l.length
      · obtain ⟨b, off, rfl, hc⟩ : ∃ b off, a = some ⟨b, off, none⟩ ∧ ∀ j (hj : j < l.length), StepAt w b (off + j * 7) l[j] := by
          rcases HSt.out with h0 | h1
          · rw [h0] at hlt; exact absurd hlt (by simp)
          · exact h1
        have HCk := hide (fun v (hb : Below w.heap.size w v) => (hc k hlt).old hb)
        have hxo := HOk.out _ (List.getElem_mem hlt)
        have hsm := HSm.out _ (List.getElem_mem hlt)
        clear hc
        generalize l[k] = x at *
        have hz : (k : Int) < (l.length : Int) := by omega
        have HW1 : Hid (IntKind.i64.wrap ((k : Int) + 1) = (k : Int) + 1) := by show _ = _; rw [IntKind.wrap_i64]; omega
        have hgw : IntKind.u64.wrap ((g : Int) + 1) = ((g + 1 : Nat) : Int) := by rw [IntKind.wrap_u64]; omega
        have HGne : Hid (¬ (((g + 1 : Nat) : Int) = (g : Int))) := by show ¬ _; omega
        have hps := hxo.pos
        have hpw : IntKind.i64.wrap (x.pos : Int) = (x.pos : Int) := by rw [IntKind.wrap_i64]; omega
        have hpw2 : wrap64 (x.pos : Int) = (x.pos : Int) := by unfold wrap64; omega
        have hpm := mod16 x.pos
        have HPm : Hid (x.pos % 16 < 16) := Nat.mod_lt _ (by decide)
        obtain ⟨e0, e1, e2, e3, e4, e5, e6, e7⟩ := HCk.out wr hal.below
        have KT := hide (fun u => text_any x u hxo (by omega))
        have HSz : Hid (x.says.size ≤ 65536) := by have := says_size x; show _ ≤ _; omega
        have HXo := hide hxo
        have HLp : Hid (x.picks.length ≤ 10000) := by show _ ≤ _; omega
        have HPl : Hid (x.picks.length ≤ 140737488351232) := by show _ ≤ _; omega
        have HAl := hide hal
        have HKp := hide hkp
        have HG1 := hide hg1
        have HGk := hide hgk
        have HL60 := hide h60
        unfold Stp.val at KT
        clear hal hkp hxo hsm hg1 hgk hps h60 e7
        generalize x.says = t2 at *
        generalize x.pos % 16 = m at *
        go_wp2_with fail
        refine (KT.out _).mono ?_
        rintro e u1 ⟨rfl, hb1⟩
        have HA1 := hide (HAl.out.keep hb1)
        obtain ⟨f0, f1, f2, f3, f4, f5, f6, -⟩ := HCk.out u1 HA1.out.below
        have KF := hide (al_fused w q st F (m : Int) u1 HA1.out HKp.out.ok (by have := HPm.out; omega))
        clear hb1 HAl e0 e1 e2 e3 e4 e5 e6
        go_wp2_with fail
        refine KF.out.mono ?_
        rintro e u2 ⟨rfl, F2, hA2⟩
        have HA2 := hide hA2
        clear hA2 HA1 KF f0 f1 f2 f3 f4 f5 f6 hpm hpw hpw2
        by_cases hlong : 1280 < t2.size
        · have hlg := HKp.out.long m HPm.out (by have := HG1.out; have := HGk.out; have := HL60.out; omega) t2 hlong
          have KS := hide (al_saved w q 0 12 (g + 1) t2 (st.fuse (m : Int)) F2 u2 HA2.out (HKp.out.ok.fuse _ (by have := HPm.out; omega)) (by show st.loose.length ≤ 7000; rw [HKp.out.loose]; decide) (by decide) (by have := HSz.out; omega))
          rw [hlg.1] at KS
          have HLg := hide hlg.2
          clear hlg hlong HA2
          go_wp2_with fail
          refine KS.out.mono ?_
          rintro e u3 ⟨rfl, F3, hA3⟩
          have KF2 := hide (al_fused w q (st.fuse (m : Int)) F3 (-1) u3 hA3 (HKp.out.ok.fuse _ (by have := HPm.out; omega)) (by decide))
          rw [HLg.out] at KF2
          clear hA3 KS HLg
          go_wp2_with fail
          refine KF2.out.mono ?_
          rintro e u4 ⟨rfl, F4, hA4⟩
          have HA4 := hide hA4
          clear hA4 KF2
          have hw1 := HW1.out
          go_wp2
          go_roundw
          case rel => exact ⟨k + 1, g, t, st, F4, hlt, HG1.out, Nat.le_succ_of_le HGk.out, rfl, rfl, by go_num, HKp.out, HA4.out⟩
          case measure => simp [intOf]; omega
        · obtain ⟨ho1, hl1, ho2, hl2, hres⟩ := HKp.out.saved m HPm.out (by have := HG1.out; have := HGk.out; have := HL60.out; omega) t2 (by omega) x.picks
          have KS := hide (al_saved w q 0 12 (g + 1) t2 (st.fuse (m : Int)) F2 u2 HA2.out ho1 hl1 (by decide) (by have := HSz.out; omega))
          generalize (st.fuse (m : Int)).save 0 12 (g + 1) t2 = X at *
          obtain ⟨s, st3⟩ := X
          have hs4 : s ≠ 4 := by rcases hres with ⟨h1, _⟩ | ⟨h1, _⟩ <;> (simp at h1; omega)
          have hs4z : ¬ ((s : Int) = 4) := by omega
          have HRes := hide hres
          have HO2 : Hid st3.Ok := ho2
          have HL2 : Hid (st3.loose.length ≤ 10000) := hl2
          clear ho1 hl1 ho2 hl2 hres HA2 hlong
          go_wp2_with fail
          refine KS.out.mono ?_
          rintro e u3 ⟨rfl, F3, hA3⟩
          have HA3 := hide hA3
          clear hA3 KS
          obtain ⟨e0, e1, e2, e3, e4, e5, e6, -⟩ := (HCk.out u3 HA3.out.below).old ((Below.refl _ u3).alloc (Nat.le_refl _) (.cells #[] 3))
          have HI3 := hide ((HCk.out u3 HA3.out.below).2.2.2.2.2.2.2.old ((Below.refl _ u3).alloc (Nat.le_refl _) (.cells #[] 3)))
          have HBw : Hid (u3.heap.size ≤ (u3.alloc (.cells #[] 3)).heap.size) := by unfold Hid; simp
          have HR3 := hide (World.ownsRow_lit (base := u3.heap.size) (e := 3) (size := 1) u3 #[] 0 (Nat.le_refl _) (by decide) rfl)
          clear e0 e1 e2 e3 e4 e5
          go_wp2_with (at_builtin; refine wpList_append_ints _ rfl _ _ rfl u3.heap.size _ rfl HR3.out x.pa x.pc x.picks rfl HI3.out HXo.out.nil HLp.out HBw.out ?_)
          intro v5 u4 hown5 hgrow5
          obtain ⟨a5, c5, rfl, hi5, hg5⟩ := ints_of_own (by rw [show x.picks.length = x.picks.length from rfl]; exact hown5)
          have hb5 : Below u3.heap.size u3 u4 := ((Below.refl _ _).alloc (Nat.le_refl _) (.cells #[] 3)).grown hgrow5 (by simp) (fun j e => by cases e; exact Nat.le_refl _)
          have HA4 := hide (HA3.out.keep hb5)
          have KC := hide (al_crashed w q st3 F3 a5 c5 x.picks u4 HA4.out HO2.out HL2.out hi5 (fun _ b off e hf => by have q1 := hg5 b off e; have q2 := con.lt HA3.out.disk b hf; omega) HPl.out HXo.out.picks)
          clear hown5 hgrow5 hi5 hg5 hb5 HR3 HI3 HBw e6
          go_wp2_with fail
          refine KC.out.mono ?_
          rintro e u5 ⟨rfl, F5, hA5⟩
          have HA5 := hide hA5
          clear hA5 KC HA3 HA4
          rcases HRes.out with ⟨h1, h2⟩ | ⟨h1, h2⟩
          · have h1 : s = 50 := h1
            subst h1
            have HKp2 : Hid (Keep 12 (st3.crash x.picks) g t) := h2
            have KL := hide (al_loaded w q 0 12 (st3.crash x.picks) F5 u5 HA5.out HKp2.out.ok (by rw [HKp2.out.loose]; decide) (by decide))
            have hld := HKp2.out.load (by decide) (by decide) (by decide) ⟨HG1.out, by have := HGk.out; have := HL60.out; omega⟩
            rw [show ((12 : Nat) : Int) = 12 from rfl] at hld
            rw [hld] at KL
            clear hld h2 HRes hs4 hs4z HKp
            have hgne : ¬ ((g : Int) = ((g + 1 : Nat) : Int)) := by omega
            go_wp2_with fail
            refine KL.out.mono ?_
            rintro e u6 ⟨rfl, hA6⟩
            have HA6 := hide hA6
            clear hA6 KL HA5
            have hw1 := HW1.out
            go_wp2
            go_roundw
            case rel => exact ⟨k + 1, g, t, _, F5, hlt, HG1.out, Nat.le_succ_of_le HGk.out, rfl, rfl, by go_num, HKp2.out, HA6.out⟩
            case measure => simp [intOf]; omega
          · have h1 : s = 0 ∨ s = 50 := h1
            have HKp2 : Hid (Keep 12 (st3.crash x.picks) (g + 1) t2) := h2
            have KL := hide (al_loaded w q 0 12 (st3.crash x.picks) F5 u5 HA5.out HKp2.out.ok (by rw [HKp2.out.loose]; decide) (by decide))
            have hld := HKp2.out.load (by decide) (by decide) (by decide) ⟨by omega, by have := HGk.out; have := HL60.out; omega⟩
            rw [show ((12 : Nat) : Int) = 12 from rfl] at hld
            rw [hld] at KL
            clear hld h2 HRes hs4 hs4z HKp
            have hgne := HGne.out
            go_wp2_with fail
            refine KL.out.mono ?_
            rintro e u6 ⟨rfl, hA6⟩
            have HA6 := hide hA6
            clear hA6 KL HA5
            have hw1 := HW1.out
            rcases h1 with rfl | rfl
            · go_wp2
              go_roundw
              case rel => exact ⟨k + 1, g + 1, t2, _, F5, hlt, Nat.succ_le_succ (Nat.zero_le _), Nat.succ_le_succ HGk.out, rfl, rfl, by go_num, HKp2.out, HA6.out⟩
              case measure => simp [intOf]; omega
            · go_wp2
              go_roundw
              case rel => exact ⟨k + 1, g + 1, t2, _, F5, hlt, Nat.succ_le_succ (Nat.zero_le _), Nat.succ_le_succ HGk.out, rfl, rfl, by go_num, HKp2.out, HA6.out⟩
              case measure => simp [intOf]; omega
      · have hke : k = l.length := by omega
        subst hke
        have hz : ¬ ((l.length : Int) < (l.length : Int)) := by omega
        have HAl := hide hal
        clear hal hkp
        go_wp2_with fail
        refine (KA.out _).mono ?_
        rintro e w9 ⟨rfl, hb9⟩
        have HB9 := hide (bnext HAl.out.below hb9)
        go_wp2
        go_ret
        exact ⟨rfl, HB9.out⟩
end Go.Proofs.YtiebhdgpnloieaaDoor
namespace Go.Proofs.YtiebhdgpnloieaaDoor
open Go Go.ChangeShapes Go.WideShapes Go.ChangeAt Go.RowKit Go.Joins Go.Deep
theorem Tryd.laidOut : laidOutB Tryd.prog = true := by kernel_rfl
theorem nat_of_wf8 {x : Int} (h : (Lit.int .u8 x).wf = true) : ∃ m : Nat, x = (m : Int) ∧ m < 256 := by
  simp [Lit.wf, IntKind.min, IntKind.max, IntKind.signed, IntKind.bits] at h
  exact ⟨x.toNat, by omega, by omega⟩
theorem nat_of_wf16 {x : Int} (h : (Lit.int .u16 x).wf = true) : ∃ m : Nat, x = (m : Int) ∧ m < 65536 := by
  simp [Lit.wf, IntKind.min, IntKind.max, IntKind.signed, IntKind.bits] at h
  exact ⟨x.toNat, by omega, by omega⟩
theorem weightsAll_mem {H : Type} (P : Program) (e : TypeId) : ∀ (l : List (DataW H)) (x : DataW H), x ∈ l → ∀ n ∈ DataW.weights P e x, n ∈ DataW.weightsAll P e l
  | [], _, h, _, _ => absurd h (by simp)
  | y :: l, x, h, n, hn => by
    rw [DataW.weightsAll]
    rcases List.mem_cons.1 h with rfl | h
    · exact List.mem_append_left _ hn
    · exact List.mem_append_right _ (weightsAll_mem P e l x h n hn)
theorem reach_of {H : Type} {ts : List TypeId} {ds : List (DataW H)} (hsz : (DataW.weightsEach Tryd.prog ts ds).all (· ≤ reachBytes) = true) (j : Nat) {t : TypeId} {d : DataW H} (ht : ts[j]? = some t) (hd : ds[j]? = some d) : ∀ n ∈ DataW.weights Tryd.prog t d, n ≤ 140737488351232 := fun n hn => by
  have h1 : n ≤ reachBytes := of_decide_eq_true (List.all_eq_true.1 hsz n (DataW.weights_mem_each ht hd n hn))
  exact h1
theorem plain_addr {W : World} {a : Addr} {v : Value} (h : W.cell? (a.add 0) = some v) : ∃ b off, a = ⟨b, off, none⟩ := by
  obtain ⟨b, off, spot⟩ := a
  cases spot with
  | none => exact ⟨b, off, rfl⟩
  | some s =>
    exfalso
    simp [Addr.add, World.cell?] at h
    split at h <;> simp at h
theorem add_off (b off j : Nat) : (⟨b, off, none⟩ : Addr).add j = ⟨b, off + j, none⟩ := by unfold Addr.add; split <;> simp_all
theorem cells3 : Tryd.prog.cellsOf 3 = 1 := by kernel_rfl
theorem cells5 : Tryd.prog.cellsOf 5 = 1 := by kernel_rfl
theorem cells9 : Tryd.prog.cellsOf 9 = 1 := by kernel_rfl
theorem cells34 : Tryd.prog.cellsOf 34 = 1 := by kernel_rfl
theorem cells35 : Tryd.prog.cellsOf 35 = 1 := by kernel_rfl
theorem cells36 : Tryd.prog.cellsOf 36 = 1 := by kernel_rfl
theorem cells38 : Tryd.prog.cellsOf 38 = 7 := by kernel_rfl
theorem bytes3 : Tryd.prog.bytesOf 3 = 8 := by kernel_rfl
theorem bytes38 : Tryd.prog.bytesOf 38 = 80 := by kernel_rfl
set_option maxRecDepth 10000 in
/-- A list of numbers that comes in. -/
theorem open_picks {H : Type} {enc : TypeId × Value → H} {W : World} {base : Nat} {sp : Nat → Bool} {held : Bool} {fuel : Nat} {cs : List Value} {x : DataW H × List MemPlace}
    (h : DataW.trod enc Tryd.prog W base sp held fuel 36 cs = some x) (hw : ∀ n ∈ DataW.weights Tryd.prog 36 x.1, n ≤ 140737488351232) :
    ∃ (a : Option Addr) (cap : Nat) (L : List Int), cs = [.slice a L.length cap] ∧ IntsAt W a L ∧ (∀ y ∈ L, -9223372036854775808 ≤ y ∧ y ≤ 9223372036854775807) ∧ L.length ≤ 140737488351232 ∧ (a = none → cap = 0) := by
  rcases open_ints Tryd.underlying36 Tryd.underlying3 cells3 h with ⟨hcs, _⟩ | ⟨a, len, cap, zs, hcs, hb, hl, hm, hzl, hx, hcell, hwf⟩
  · exact ⟨none, 0, [], hcs, Or.inl rfl, by simp, by simp, fun _ => rfl⟩
  · have hlz : len ≤ zs.length := by rw [hzl]; split <;> omega
    have htl : (zs.take len).length = len := by rw [List.length_take]; omega
    refine ⟨some a, cap, zs.take len, by rw [htl]; exact hcs, ?_, fun y hy => int_of_wf64 (hwf y (List.mem_of_mem_take hy)), ?_, fun e => by cases e⟩
    · by_cases h0 : len = 0
      · left; rw [h0]; rfl
      · right
        obtain ⟨b, off, rfl⟩ := plain_addr (hcell 0 (by omega))
        refine ⟨b, off, rfl, fun j hj => ?_⟩
        rw [htl] at hj
        have := hcell j (by omega)
        rw [add_off] at this
        rw [this, List.getElem_take, List.getD_eq_getElem?_getD, List.getElem?_eq_getElem (by omega), Option.getD_some]
    · rw [htl]
      have hx1 : x.1 = .slice (lits .i64 (zs.take len)) (lits .i64 (zs.drop len)) := congrArg Prod.fst hx
      rw [hx1, DataW.weights, Tryd.underlying36] at hw
      have := hw _ (List.mem_cons_self ..)
      rw [bytes3] at this
      have e : (lits (H := H) .i64 (zs.take len)).length = len := by unfold lits; rw [List.length_map]; exact htl
      rw [e] at this
      omega
theorem trod_struct7 {H : Type} {enc : TypeId × Value → H} {P : Program} {w : World} {base : Nat} {spare : Nat → Bool} {held : Bool} {t : TypeId} {f0 f1 f2 f3 f4 f5 f6 : Field} {fuel : Nat} {cs : List Value} {x : DataW H × List MemPlace} (ht : P.underlying t = some (.struct #[f0, f1, f2, f3, f4, f5, f6])) (h : DataW.trod enc P w base spare held fuel t cs = some x) :
    ∃ y0 y1 y2 y3 y4 y5 y6 n, x.1 = .agg [y0.1, y1.1, y2.1, y3.1, y4.1, y5.1, y6.1] ∧ cs.length = P.cellsOf t ∧ DataW.trod enc P w base spare held n f0.type ((cs.drop f0.offset).take (P.cellsOf f0.type)) = some y0 ∧
      DataW.trod enc P w base spare held n f1.type ((cs.drop f1.offset).take (P.cellsOf f1.type)) = some y1 ∧ DataW.trod enc P w base spare held n f2.type ((cs.drop f2.offset).take (P.cellsOf f2.type)) = some y2 ∧
      DataW.trod enc P w base spare held n f3.type ((cs.drop f3.offset).take (P.cellsOf f3.type)) = some y3 ∧ DataW.trod enc P w base spare held n f4.type ((cs.drop f4.offset).take (P.cellsOf f4.type)) = some y4 ∧
      DataW.trod enc P w base spare held n f5.type ((cs.drop f5.offset).take (P.cellsOf f5.type)) = some y5 ∧ DataW.trod enc P w base spare held n f6.type ((cs.drop f6.offset).take (P.cellsOf f6.type)) = some y6 := by
  obtain ⟨xs, n, _, rfl, hl, hlen, hf⟩ := DataW.trod_struct ht h
  match xs, hlen with
  | [y0, y1, y2, y3, y4, y5, y6], _ => exact ⟨y0, y1, y2, y3, y4, y5, y6, n, by simp, hl, by simpa using hf 0 f0 rfl, by simpa using hf 1 f1 rfl, by simpa using hf 2 f2 rfl, by simpa using hf 3 f3 rfl, by simpa using hf 4 f4 rfl, by simpa using hf 5 f5 rfl, by simpa using hf 6 f6 rfl⟩
theorem list7 {α : Type} {cs : List α} (h : cs.length = 7) : ∃ c0 c1 c2 c3 c4 c5 c6, cs = [c0, c1, c2, c3, c4, c5, c6] := by
  match cs, h with
  | [c0, c1, c2, c3, c4, c5, c6], _ => exact ⟨c0, c1, c2, c3, c4, c5, c6, rfl⟩
set_option maxRecDepth 10000 in
/-- One step that comes in. -/
theorem open_step {H : Type} {enc : TypeId × Value → H} {W : World} {base : Nat} {sp : Nat → Bool} {held : Bool} {fuel : Nat} {cs : List Value} {x : DataW H × List MemPlace}
    (h : DataW.trod enc Tryd.prog W base sp held fuel 38 cs = some x) (hw : ∀ n ∈ DataW.weights Tryd.prog 38 x.1, n ≤ 140737488351232) :
    ∃ s : Stp, s.Ok ∧ IntsAt W s.pa s.picks ∧ cs = [.int .u8 (s.act : Int), .int .u64 (s.gen : Int), .string s.text, .int .u8 (s.times : Int), .int .i64 s.n, .int .u16 (s.pos : Int), .slice s.pa s.picks.length s.pc] := by
  obtain ⟨y0, y1, y2, y3, y4, y5, y6, n, hx, hlen, g0, g1, g2, g3, g4, g5, g6⟩ := trod_struct7 Tryd.underlying38 h
  rw [cells38] at hlen
  obtain ⟨c0, c1, c2, c3, c4, c5, c6, rfl⟩ := list7 hlen
  simp [cells3, cells5, cells9, cells34, cells35, cells36] at g0 g1 g2 g3 g4 g5 g6
  obtain ⟨z0, f0, _, u0⟩ := DataW.trod_int Tryd.underlying5 g0
  simp at f0
  subst f0
  obtain ⟨x0, rfl, m0⟩ := nat_of_wf8 u0
  obtain ⟨z1, f1, _, u1⟩ := DataW.trod_int Tryd.underlying34 g1
  simp at f1
  subst f1
  obtain ⟨x1, rfl, m1⟩ := nat_of_wf64 u1
  obtain ⟨s2, f2, e2, u2⟩ := DataW.trod_string Tryd.underlying9 g2
  simp at f2
  subst f2
  have hs2 : s2.size ≤ 140737488351232 := hw s2.size (by
    rw [hx, DataW.weights, Tryd.underlying38]
    refine DataW.weights_mem_each (j := 2) rfl rfl _ ?_
    rw [e2, DataW.weights]
    simp)
  obtain ⟨z3, f3, _, u3⟩ := DataW.trod_int Tryd.underlying5 g3
  simp at f3
  subst f3
  obtain ⟨x3, rfl, m3⟩ := nat_of_wf8 u3
  obtain ⟨z4, f4, _, u4⟩ := DataW.trod_int Tryd.underlying3 g4
  simp at f4
  subst f4
  obtain ⟨z5, f5, _, u5⟩ := DataW.trod_int Tryd.underlying35 g5
  simp at f5
  subst f5
  obtain ⟨x5, rfl, m5⟩ := nat_of_wf16 u5
  have hw6 : ∀ n ∈ DataW.weights Tryd.prog 36 y6.1, n ≤ 140737488351232 := fun n hn => hw n (by
    rw [hx, DataW.weights, Tryd.underlying38]
    exact DataW.weights_mem_each (j := 6) rfl rfl n hn)
  obtain ⟨a, cap, L, f6, hi, hy, hl, hn⟩ := open_picks g6 hw6
  simp at f6
  subst f6
  exact ⟨⟨x0, x1, s2, x3, z4, x5, a, L, cap⟩, ⟨m0, m1, m5, hs2, m3, int_of_wf64 u4, hl, hy, hn⟩, hi, rfl⟩
set_option maxRecDepth 10000 in
/-- A list of steps that comes in. -/
theorem open_steps {H : Type} {enc : TypeId × Value → H} {W : World} {base : Nat} {sp : Nat → Bool} {held : Bool} {a : Option Addr} {len cap : Nat} {d : DataW H} {p : List MemPlace}
    (h : DataW.Trod enc Tryd.prog W base sp held 22 (.slice a len cap) d p) (hw : ∀ n ∈ DataW.weights Tryd.prog 22 d, n ≤ 140737488351232) :
    ∃ l : List Stp, l.length = len ∧ StepsAt W a l ∧ (∀ x ∈ l, x.Ok) ∧ len ≤ 140737488351232 := by
  obtain ⟨fuel, hf⟩ := h
  rcases open_slice Tryd.underlying22 hf with ⟨hcs, _⟩ | ⟨a', len', cap', m, n, D, Pl, hcs, hb, hl, hm, hmm, hd, hx⟩
  · simp [Value.cells] at hcs
    obtain ⟨rfl, rfl, rfl⟩ := hcs
    exact ⟨[], rfl, Or.inl rfl, by simp, by omega⟩
  · simp [Value.cells] at hcs
    obtain ⟨rfl, rfl, rfl⟩ := hcs
    have hlm : len ≤ m := by rw [hmm]; split <;> omega
    have hde : d = .slice ((List.range len).map D) ((List.range (m - len)).map fun j => D (len + j)) := congrArg Prod.fst hd
    rw [hde, DataW.weights, Tryd.underlying22] at hw
    have hlen : len ≤ 140737488351232 := by
      have := hw _ (List.mem_cons_self ..)
      rw [List.length_map, List.length_map, List.length_range, List.length_range, bytes38] at this
      omega
    have each : ∀ i, i < len → ∃ s : Stp, s.Ok ∧ IntsAt W s.pa s.picks ∧ W.cell? (a'.add (i * 7)) = some (.int .u8 (s.act : Int)) ∧ W.cell? (a'.add (i * 7 + 1)) = some (.int .u64 (s.gen : Int)) ∧ W.cell? (a'.add (i * 7 + 2)) = some (.string s.text) ∧ W.cell? (a'.add (i * 7 + 3)) = some (.int .u8 (s.times : Int)) ∧ W.cell? (a'.add (i * 7 + 4)) = some (.int .i64 s.n) ∧ W.cell? (a'.add (i * 7 + 5)) = some (.int .u16 (s.pos : Int)) ∧ W.cell? (a'.add (i * 7 + 6)) = some (.slice s.pa s.picks.length s.pc) := by
      intro i hi
      obtain ⟨cs', h1, h2⟩ := hx i (by omega)
      rw [cells38] at h1
      obtain ⟨_, hcl, hcell⟩ := World.cells?_some h1
      obtain ⟨s, hs1, hs2, rfl⟩ := open_step h2 (fun n hn => hw n (List.mem_cons_of_mem _ (List.mem_append_left _ (weightsAll_mem _ _ _ (D i) (List.mem_map.2 ⟨i, List.mem_range.2 hi, rfl⟩) n hn))))
      have e0 := hcell 0 (by omega)
      have e1 := hcell 1 (by omega)
      have e2 := hcell 2 (by omega)
      have e3 := hcell 3 (by omega)
      have e4 := hcell 4 (by omega)
      have e5 := hcell 5 (by omega)
      have e6 := hcell 6 (by omega)
      rw [add_add] at e0 e1 e2 e3 e4 e5 e6
      exact ⟨s, hs1, hs2, by simpa using e0, by simpa using e1, by simpa using e2, by simpa using e3, by simpa using e4, by simpa using e5, by simpa using e6⟩
    have hInh : Inhabited Stp := ⟨⟨0, 0, ByteArray.empty, 0, 0, 0, none, [], 0⟩⟩
    obtain ⟨q, hq⟩ := choose_lt each
    refine ⟨(List.range len).map q, by simp, ?_, fun x hx => ?_, hlen⟩
    · by_cases h0 : len = 0
      · left; subst h0; rfl
      · right
        obtain ⟨b, off, rfl⟩ := plain_addr (a := a') (by have := (hq 0 (by omega)).2.2.1; simpa using this)
        refine ⟨b, off, rfl, fun j hj => ?_⟩
        have hj' : j < len := by simpa using hj
        obtain ⟨_, k1, k2, k3, k4, k5, k6, k7, k8⟩ := hq j hj'
        rw [add_off] at k2 k3 k4 k5 k6 k7 k8
        rw [List.getElem_map, List.getElem_range]
        exact ⟨k2, by rw [Nat.add_assoc]; exact k3, by rw [Nat.add_assoc]; exact k4, by rw [Nat.add_assoc]; exact k5, by rw [Nat.add_assoc]; exact k6, by rw [Nat.add_assoc]; exact k7, by rw [Nat.add_assoc]; exact k8, k1⟩
    · obtain ⟨i, hi, rfl⟩ := List.mem_map.1 hx
      exact (hq i (List.mem_range.1 hi)).1
end Go.Proofs.YtiebhdgpnloieaaDoor
