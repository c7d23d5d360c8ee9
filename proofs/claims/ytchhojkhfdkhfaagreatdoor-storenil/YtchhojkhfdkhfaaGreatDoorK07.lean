/- The program's checkpoints: which slot, and why there is none. The program's checkpoints: what stands in a slot's blocks. strings.Join and strings.Trim, by the library's own contracts. Two arrays of bytes, held against each other. The program's checkpoints: which checkpoint stands in a slot's blocks. The document's own checkpoints: what a slot's blocks tell. The document's own checkpoints: whole. The program's checkpoints: steps. -/
import Derived.Test.YtchhojkhfdkhfaaGreatDoorK03
import Derived.Test.YtchhojkhfdkhfaaGreatDoorK06
import Derived.Test.YtchhojkhfdkhfaaGreatDoorK04
import Derived.Test.YtchhojkhfdkhfaaGreatDoorK05
import Derived.Test.YtchhojkhfdkhfaaGreatDoorK00
import Derived.Shelf.Strings.OnBuilder
import Derived.Shelf.Strings.Trim
import Derived.ChangeKeysEq
import Derived.Deep.RegionHeld3
namespace Go.Proofs.YtchhojkhfdkhfaaGreatDoor
open Go Go.RowKit Frm
set_option maxHeartbeats 400000 in
theorem slotOf_core (q : Nat) (o n h : Int) (g m : Nat) (w : World) (hw2 : wrap64 h = h) (hw3 : wrap64 ((m : Int) * h) = (m : Int) * h) (hw4 : wrap64 (o + (m : Int) * h) = o + (m : Int) * h) (hq : Int.tdiv n 2 = h) (hm : (g : Int) % 2 = (m : Int)) :
    Calls Tryz.prog 82 #[.agg #[.pointer (some ⟨q, 0, none⟩), .int .i64 o, .int .i64 n], .int .u64 (g : Int)] w fun e w' => e = .returned (.agg #[.pointer (some ⟨q, 0, none⟩), .int .i64 (o + (m : Int) * h), .int .i64 h, .int .u64 (m : Int)]) ∧ Below w.heap.size w w' := by
  go_enter Tryz.func82, Tryz.ntmps82
  go_wp2_with fail
  go_quiet (fail)
  go_wp2
  exact bodyPost_ret (v := .agg #[.pointer (some ⟨q, 0, none⟩), .int .i64 (o + (m : Int) * h), .int .i64 h, .int .u64 (m : Int)]) (by simp [results, Tryz.results82, go_sem]) rfl ⟨rfl, (((((below_drewN (two_below w _ _) _).setCell (Nat.le_succ _) _).setCell (Nat.le_succ _) _).setCell (Nat.le_succ _) _).setCell (Nat.le_succ _) _)⟩
/-- A slot, as a value. -/
def slotV (q a k g : Nat) : Value := .agg #[.pointer (some ⟨q, 0, none⟩), .int .i64 (a : Int), .int .i64 (k : Int), .int .u64 ((g % 2 : Nat) : Int)]
theorem slotOf_any (q : Nat) (o n : Int) (g : Nat) (w : World) (ho : 0 ≤ o ∧ o ≤ 4096) (hn : 0 ≤ n ∧ n ≤ 4096) :
    Calls Tryz.prog 82 #[.agg #[.pointer (some ⟨q, 0, none⟩), .int .i64 o, .int .i64 n], .int .u64 (g : Int)] w fun e w' => e = .returned (slotV q (slotAt o n g) (n.toNat / 2) g) ∧ Below w.heap.size w w' := by
  have hg2 : g % 2 < 2 := Nat.mod_lt _ (by decide)
  have e1 : (((n.toNat / 2 : Nat) : Nat) : Int) = n / 2 := by omega
  have e2 : ((slotAt o n g : Nat) : Int) = o + ((g % 2 : Nat) : Int) * (n / 2) := by
    unfold slotAt
    rcases (by omega : g % 2 = 0 ∨ g % 2 = 1) with h | h
    · rw [h]; omega
    · rw [h]; omega
  have hmul : ((g % 2 : Nat) : Int) * (n / 2) ≤ 4096 ∧ 0 ≤ ((g % 2 : Nat) : Int) * (n / 2) := by
    rcases (by omega : g % 2 = 0 ∨ g % 2 = 1) with h | h
    · rw [h]; omega
    · rw [h]; omega
  unfold slotV
  rw [e1, e2]
  exact slotOf_core q o n (n / 2) g (g % 2) w (by unfold wrap64; omega) (by unfold wrap64; omega) (by unfold wrap64; omega) (tdiv2 (by omega)) (by omega)
set_option maxHeartbeats 400000 in
/-- Why there are no such blocks. -/
theorem fault_core (q : Value) (S o n r : Int) (w : World) (c : Nat)
    (hS : ∀ u, Below w.heap.size w u → Calls Tryz.prog 58 #[q] u fun e v => e = .returned (.int .i64 S) ∧ Below u.heap.size u v)
    (hR : ∀ u, Calls Tryz.prog 87 #[.int .i64 n] u fun e v => e = .returned (.int .i64 r) ∧ v = u) (hw : wrap64 (S - n) = S - n ∨ r = 0)
    (hc : c = if S = 0 then 1 else if r = 0 ∨ o < 0 ∨ S - n < o then 2 else 0) :
    Calls Tryz.prog 81 #[.agg #[q, .int .i64 o, .int .i64 n]] w fun e w' => e = .returned (.int .i64 (c : Int)) ∧ Below w.heap.size w w' := by
  have hc0 := new_cell w #[q, .int .i64 o, .int .i64 n] 134 0 rfl
  have hc1 := new_cell w #[q, .int .i64 o, .int .i64 n] 134 1 rfl
  have hc2 := new_cell w #[q, .int .i64 o, .int .i64 n] 134 2 rfl
  have HB := hide (one_below w (.cells #[q, .int .i64 o, .int .i64 n] 134))
  have HL : Hid (w.heap.size < (w.alloc (.cells #[q, .int .i64 o, .int .i64 n] 134)).heap.size) := by simp [Hid]
  have HR := hide hR
  have HS := hide (hS _ HB.out)
  clear hS hR
  go_enter Tryz.func81, Tryz.ntmps81
  go_wp2_with fail
  generalize w.alloc (.cells #[q, .int .i64 o, .int .i64 n] 134) = W at *
  refine HS.out.mono ?_
  rintro e w1 ⟨rfl, hb1⟩
  have hd1 := (kept_cell hb1 w.heap.size 1 HL.out).trans hc1
  have hd2 := (kept_cell hb1 w.heap.size 2 HL.out).trans hc2
  have HB1 : Hid (Below w.heap.size w w1) := HB.out.trans (hb1.mono (Nat.le_of_lt HL.out))
  have HW := hide hw
  clear hb1 hc0 hc1 hc2 HB HL HS hw
  by_cases h0 : S = 0
  · rw [if_pos h0] at hc
    subst hc h0
    go_wp2
    go_ret
    exact ⟨rfl, HB1.out⟩
  · rw [if_neg h0] at hc
    by_cases hr : r = 0
    · rw [if_pos (Or.inl hr)] at hc
      subst hc hr
      have h0b : (S == 0) = false := beq_eq_false_iff_ne.2 h0
      go_wp2_with (go_at_call 87; refine (HR.out _).mono ?_; rintro e w2 ⟨rfl, rfl⟩)
      go_ret
      exact ⟨rfl, HB1.out⟩
    · have hrb : (r == 0) = false := beq_eq_false_iff_ne.2 hr
      have hwS := HW.out.resolve_right hr
      by_cases ho : o < 0
      · rw [if_pos (Or.inr (Or.inl ho))] at hc
        subst hc
        go_wp2_with (go_at_call 87; refine (HR.out _).mono ?_; rintro e w2 ⟨rfl, rfl⟩)
        go_ret
        exact ⟨rfl, HB1.out⟩
      · by_cases hs : S - n < o
        · rw [if_pos (Or.inr (Or.inr hs))] at hc
          subst hc
          go_wp2_with (go_at_call 87; refine (HR.out _).mono ?_; rintro e w2 ⟨rfl, rfl⟩)
          go_ret
          exact ⟨rfl, HB1.out⟩
        · rw [if_neg (by omega)] at hc
          subst hc
          go_wp2_with (go_at_call 87; refine (HR.out _).mono ?_; rintro e w2 ⟨rfl, rfl⟩)
          go_ret
          exact ⟨rfl, HB1.out⟩
end Go.Proofs.YtchhojkhfdkhfaaGreatDoor
namespace Go.Proofs.YtchhojkhfdkhfaaGreatDoor
open Go Go.RowKit Frm
/-- A list of texts that the call owns. -/
def OwnL7 (w : World) (base : Nat) (v : Value) (l : List ByteArray) : Prop := w.ownsRow base 9 1 v l.length (l.map Value.string)
theorem OwnL7.below {w w' : World} {base : Nat} {v : Value} {l : List ByteArray} (h : OwnL7 w base v l) (hb : Below w.heap.size w w') : OwnL7 w' base v l := own_same h (fun j hj => hb.block j (own_lt h hj))
theorem OwnL7.slice {w : World} {base : Nat} {v : Value} {l : List ByteArray} (h : OwnL7 w base v l) : ∃ a c, v = .slice a l.length c := by
  obtain ⟨a, c, h1, _⟩ := slice_of h
  exact ⟨a, c, h1⟩
theorem map_snoc7 (l : List ByteArray) (t : ByteArray) : l.map Value.string ++ [.string t] = (l ++ [t]).map Value.string := by rw [List.map_append]; rfl
/-- A block's cells of a list of texts, at an address. -/
theorem OwnL7.at {w : World} {base g c : Nat} {l : List ByteArray} (h : OwnL7 w base (.slice (some ⟨g, 0, none⟩) l.length c) l) (j : Nat) (hj : j < l.length) : w.cell? ⟨g, j, none⟩ = some (.string l[j]) := by
  have hx := World.ownsRow.cells h (g := g) rfl j (.string l[j]) (by rw [List.getElem?_map, List.getElem?_eq_getElem hj]; rfl)
  rw [add_at] at hx
  exact hx
theorem OwnL7.form {w : World} {base : Nat} {v : Value} {l : List ByteArray} (h : OwnL7 w base v l) (hn : 0 < l.length) : ∃ g c, v = .slice (some ⟨g, 0, none⟩) l.length c ∧ l.length ≤ c ∧ g < w.heap.size := by
  rcases h.2 with ⟨_, h0⟩ | ⟨g, cap, cur, rfl, h1, hg, hr, _⟩
  · omega
  · exact ⟨g, cap, rfl, hr, (Array.getElem?_eq_some_iff.1 hg).1⟩
theorem blocksAt_length (st : St) (a k : Nat) : (blocksAt st a k).length = k := by unfold blocksAt; simp
theorem blocksAt_succ (st : St) (a k : Nat) : blocksAt st a (k + 1) = blocksAt st a k ++ [stands st.sure (a + k) st.loose.reverse] := by unfold blocksAt; rw [List.range_succ, List.map_append]; rfl
theorem blocksAt_full {st : St} (h : st.Ok) (a k : Nat) (hk : a + k ≤ st.sure.length) : ∀ t ∈ blocksAt st a k, t.size = 256 := fun t ht => by
  unfold blocksAt at ht
  obtain ⟨i, hi, rfl⟩ := List.mem_map.1 ht
  rw [List.mem_range] at hi
  exact stands_size h.full (by omega) _ (fun w hw => (h.there w (List.mem_reverse.1 hw)).2)
theorem read_at {st : St} (b : Nat) (hb : b < st.sure.length) (h0 : st.left ≠ 0) : st.read (b : Int) = (stands st.sure b st.loose.reverse, 0) := by
  unfold St.read
  rw [if_neg h0, if_neg (by omega)]
  rfl
set_option maxRecDepth 10000 in
set_option maxHeartbeats 2000000 in
theorem slotRead_any (q a N : Nat) (gi : Int) (st : St) (F : Nat → Prop) (w : World) (hD : DAt w q st F) (hok : st.Ok) (hl : st.loose.length ≤ 10000) (hN : a + N ≤ st.sure.length) (h0 : st.left ≠ 0) :
    Calls Tryz.prog 83 #[.agg #[.pointer (some ⟨q, 0, none⟩), .int .i64 (a : Int), .int .i64 (N : Int), .int .u64 gi]] w fun e w' => ∃ v, e = .returned (.tuple #[v, .int .i64 0]) ∧ OwnL7 w' w.heap.size v (blocksAt st a N) ∧ Below w.heap.size w w' := by
  obtain ⟨i0, hi, hz0, hz1, hz2⟩ := info_parts (P := Tryz.prog) (e := 9) (z := .string ⟨#[]⟩) (size := 1) (bytes := 16) (by kernel_rfl)
  have HI := hide (And.intro hi (And.intro hz0 (And.intro hz1 hz2)))
  clear hi hz0 hz1 hz2
  have hfew := hok.few
  have hF := con.lt hD
  have HR : Hid (∀ k u, k < N → Below w.heap.size w u → Calls Tryz.prog 112 #[.pointer (some ⟨q, 0, none⟩), .int .i64 ((a : Int) + (k : Int))] u fun e v => e = .returned (.tuple #[.string (stands st.sure (a + k) st.loose.reverse), .int .i64 0]) ∧ Below u.heap.size u v) := fun k u hk hb => by
    rw [show (a : Int) + (k : Int) = ((a + k : Nat) : Int) from by omega]
    have := con.read q st F ((a + k : Nat) : Int) u (con.same hD (fun j hj => hb.block j (hF j hj))) hok hl (by omega)
    rw [read_at (a + k) (by omega) h0] at this
    exact this
  have hb0 := one_below w (.cells #[.pointer (some ⟨q, 0, none⟩), .int .i64 (a : Int), .int .i64 (N : Int), .int .u64 gi] 138)
  have HC0 := hide (heap_alloc_last w (.cells #[.pointer (some ⟨q, 0, none⟩), .int .i64 (a : Int), .int .i64 (N : Int), .int .u64 gi] 138))
  have HB0 := hide hb0
  have HLt : Hid (w.heap.size < (w.alloc (.cells #[.pointer (some ⟨q, 0, none⟩), .int .i64 (a : Int), .int .i64 (N : Int), .int .u64 gi] 138)).heap.size) := by unfold Hid; simp
  have HN := hide hN
  clear hD hok hl hN hF hb0
  go_enter Tryz.func83, Tryz.ntmps83
  go_wp2_with fail
  generalize w.alloc (.cells #[.pointer (some ⟨q, 0, none⟩), .int .i64 (a : Int), .int .i64 (N : Int), .int .u64 gi] 138) = W at *
  go_loopw [4, 5, 6, 7, 11] (fun lv _ _ _ i wr => ∃ k : Nat, k ≤ N ∧ i = .int .i64 (k : Int) ∧ OwnL7 wr w.heap.size lv (blocksAt st a k) ∧ wr.heap[w.heap.size]? = some (.cells #[.pointer (some ⟨q, 0, none⟩), .int .i64 (a : Int), .int .i64 (N : Int), .int .u64 gi] 138 (0, 0)) ∧ Below w.heap.size w wr) (fun _ _ _ _ i _ => N - (intOf i).toNat)
  case atStart => exact ⟨0, Nat.zero_le _, rfl, World.ownsRow_nil _ _ _ _, HC0.out, HB0.out⟩
  case round =>
    obtain ⟨k, hk, rfl, hown, hcl, hb⟩ := hrel
    have HO := hide hown
    have HB := hide hb
    have HCl := hide hcl
    by_cases hlt : k < N
    · have hz : (k : Int) < (N : Int) := by omega
      have hw : wrap64 ((a : Int) + (k : Int)) = (a : Int) + (k : Int) := by unfold wrap64; have := HN.out; omega
      have KR := hide (HR.out k wr hlt HB.out)
      have c0 : wr.cell? ⟨w.heap.size, 0, none⟩ = some (.pointer (some ⟨q, 0, none⟩)) := by simp [World.cell?, hcl]
      have c1 : wr.cell? ⟨w.heap.size, 1, none⟩ = some (.int .i64 (a : Int)) := by simp [World.cell?, hcl]
      have hkl := blocksAt_length st a k
      have HT := hide (blocksAt_succ st a k)
      generalize stands st.sure (a + k) st.loose.reverse = t at *
      generalize blocksAt st a k = pre at *
      clear hown hcl hb
      go_wp2_with fail
      refine KR.out.mono ?_
      rintro e w1 ⟨rfl, hb1⟩
      have HO1 := hide (HO.out.below hb1)
      have HB1 := hide (HB.out.trans (hb1.mono HB.out.size))
      have hlt0 : w.heap.size < wr.heap.size := (Array.getElem?_eq_some_iff.1 HCl.out).1
      have HCl1 := hide ((hb1.block _ hlt0).trans HCl.out)
      have hkN : k ≤ 4096 := by have := HN.out; omega
      clear hb1 hlt0 c0 c1 KR HO HB HCl
      obtain ⟨a0, c0, rfl⟩ := HO1.out.slice
      subst hkl
      go_wp2_with (at_builtin; refine wpList_append_lies _ rfl _ _ 46 rfl w.heap.size 9 i0 (.string ⟨#[]⟩) 1 16 Tryz.underlying46 HI.out.1 HI.out.2.1 HI.out.2.2.1 HI.out.2.2.2 rfl (by decide) _ _ _ rfl (World.ownsRow.alloc HO1.out _) ⟨w1.heap.size, 0, none⟩ 1 1 [.string t] rfl rfl ?c1 ?c2 (by decide) ?c3 ?c4 ?c5 (w1.heap.size + 1) (by simp) ?_)
      case c1 =>
        intro j u hj
        match j, hj with
        | 0, hj => simp at hj; subst hj; simp [Addr.add, go_sem]
      case c2 => first | rfl | (intro u hu; simp at hu; subst hu; rfl)
      case c3 => unfold maxLen; omega
      case c4 => omega
      case c5 => have := HB1.out.size; simp; omega
      · intro g cap w2 hown2 hgrow2 _ _
        have HO2 : Hid (OwnL7 w2 w.heap.size (.slice (some ⟨g, 0, none⟩) (pre.length + 1) cap) (pre ++ [t])) := by
          rw [map_snoc7] at hown2
          unfold Hid OwnL7; rw [List.length_append]; exact hown2
        have HB2 : Hid (Below w.heap.size w w2) := (HB1.out.alloc HB1.out.size _).grown hgrow2 (by have := HB1.out.size; simp; omega) (fun k e => (World.ownsRow.lt HO1.out k e).1)
        have HCl2 : Hid (w2.heap[w.heap.size]? = some (.cells #[.pointer (some ⟨q, 0, none⟩), .int .i64 (a : Int), .int .i64 (N : Int), .int .u64 gi] 138 (0, 0))) := by
          have hl1 : w.heap.size < w1.heap.size := (Array.getElem?_eq_some_iff.1 HCl1.out).1
          refine (hgrow2.block _ (by simp; omega) (fun e => ?_)).trans ((Below.heap_alloc w1 _ _ hl1).trans HCl1.out)
          obtain ⟨cur, hc⟩ := row_type HO1.out e.symm
          rw [HCl1.out] at hc
          cases hc
        clear hown2 hgrow2
        go_wp2
        go_roundw
        case rel => exact ⟨pre.length + 1, hlt, by go_num, by rw [HT.out]; exact HO2.out, HCl2.out, HB2.out⟩
        case measure => simp [intOf]; omega
    · have hke : k = N := by omega
      subst hke
      have hz : ¬ ((k : Int) < (k : Int)) := by omega
      clear hcl hown hb
      go_wp2
      go_ret2
      exact ⟨_, rfl, HO.out, HB.out⟩
set_option maxRecDepth 10000 in
set_option maxHeartbeats 2000000 in
theorem slotRead_down (q : Nat) (a N : Int) (gi : Int) (st : St) (F : Nat → Prop) (w : World) (hD : DAt w q st F) (hok : st.Ok) (hl : st.loose.length ≤ 10000) (ha : 0 ≤ a ∧ a ≤ 9000) (hN : 1 ≤ N ∧ N ≤ 9000) (h0 : st.left = 0) :
    Calls Tryz.prog 83 #[.agg #[.pointer (some ⟨q, 0, none⟩), .int .i64 a, .int .i64 N, .int .u64 gi]] w fun e w' => e = .returned (.tuple #[.slice none 0 0, .int .i64 50]) ∧ Below w.heap.size w w' := by
  have hF := con.lt hD
  have hb0 := one_below w (.cells #[.pointer (some ⟨q, 0, none⟩), .int .i64 a, .int .i64 N, .int .u64 gi] 138)
  have HR : Hid (Calls Tryz.prog 112 #[.pointer (some ⟨q, 0, none⟩), .int .i64 a] (w.alloc (.cells #[.pointer (some ⟨q, 0, none⟩), .int .i64 a, .int .i64 N, .int .u64 gi] 138)) fun e v => e = .returned (.tuple #[.string noText, .int .i64 50]) ∧ Below (w.alloc (.cells #[.pointer (some ⟨q, 0, none⟩), .int .i64 a, .int .i64 N, .int .u64 gi] 138)).heap.size (w.alloc (.cells #[.pointer (some ⟨q, 0, none⟩), .int .i64 a, .int .i64 N, .int .u64 gi] 138)) v) := by
    have := con.read q st F a _ (con.same hD (fun j hj => hb0.block j (hF j hj))) hok hl (by omega)
    have e : st.read a = (noText, 50) := by unfold St.read; rw [if_pos h0]
    rw [e] at this
    exact this
  have HB0 := hide hb0
  have c0 := new_cell w #[.pointer (some ⟨q, 0, none⟩), .int .i64 a, .int .i64 N, .int .u64 gi] 138 0 rfl
  have c1 := new_cell w #[.pointer (some ⟨q, 0, none⟩), .int .i64 a, .int .i64 N, .int .u64 gi] 138 1 rfl
  have hw : wrap64 a = a := by unfold wrap64; omega
  have hz : (0 : Int) < N := by omega
  clear hD hok hl hF hb0 h0 hN ha
  go_enter Tryz.func83, Tryz.ntmps83
  go_wp2_with fail
  generalize w.alloc (.cells #[.pointer (some ⟨q, 0, none⟩), .int .i64 a, .int .i64 N, .int .u64 gi] 138) = W at *
  go_loopw [4, 5, 6, 7, 11] (fun lv _ _ _ i wr => i = .int .i64 0 ∧ lv = .slice none 0 0 ∧ wr = W) (fun _ _ _ _ _ _ => 0)
  case atStart => exact ⟨rfl, rfl, rfl⟩
  case round =>
    obtain ⟨rfl, rfl, hwr⟩ := hrel
    obtain rfl := hwr.symm
    clear hwr
    go_wp2_with fail
    refine HR.out.mono ?_
    rintro e w1 ⟨rfl, hb1⟩
    have HB1 := hide (bnext HB0.out hb1)
    clear hb1 HR
    go_wp2
    go_ret2
    exact ⟨rfl, HB1.out⟩
end Go.Proofs.YtchhojkhfdkhfaaGreatDoor
namespace Go.Proofs.YtchhojkhfdkhfaaGreatDoor
open Go Go.RowKit Go.Shelf
def joinRen : Ren := ⟨fun x => if x = 156 then 114 else if x = 165 then 37 else if x = 166 then 135 else if x = 169 then 39 else if x = 240 then 74 else if x = 241 then 75 else if x = 276 then 103 else if x = 277 then 104 else x, fun t => if t = 72 then 88 else if t = 70 then 86 else if t = 37 then 77 else if t = 164 then 159 else if t = 127 then 128 else if t = 31 then 46 else if t = 75 then 92 else if t = 76 then 93 else if t = 80 then 44 else t, fun g => g⟩
theorem lays156 : Lays.n156 Tryz.prog joinRen := by
  constructor <;> first | kernel_rfl | (intro w; kernel_rfl)
theorem joinX : Builder.Extra Tryz.prog joinRen := by
  constructor
  · constructor <;> kernel_rfl
  all_goals first | kernel_rfl | (intro w; kernel_rfl) | decide
def trimRen : Ren := ⟨fun x => if x = 231 then 136 else if x = 232 then 137 else x, fun t => t, fun g => g⟩
theorem lays231 : Lays.n231 Tryz.prog trimRen := by
  constructor <;> first | kernel_rfl | (intro w; kernel_rfl)
theorem lays232 : Lays.n232 Tryz.prog trimRen := by
  constructor <;> first | kernel_rfl | (intro w; kernel_rfl)
theorem join_flat : ∀ (l : List (List UInt8)), Lib.join l [] = l.flatten
  | [] => rfl
  | [a] => by unfold Lib.join; simp [List.intercalate]
  | a :: b :: l => by
    have ih := join_flat (b :: l)
    unfold Lib.join at *
    simp only [List.intercalate] at *
    rw [List.intersperse_cons_cons, List.flatten_cons, List.flatten_cons, ih]
    simp
theorem joined_data (l : List ByteArray) : (joined l).data.toList = (l.map (·.data.toList)).flatten := by
  have h : ∀ (l : List ByteArray) (s : ByteArray), (l.foldl (fun s t => s ++ t) s).data.toList = s.data.toList ++ (l.map (·.data.toList)).flatten := by
    intro l
    induction l with
    | nil => intro s; simp
    | cons t l ih => intro s; rw [List.foldl_cons, ih, ByteArray.data_append, Array.toList_append, List.map_cons, List.flatten_cons, List.append_assoc]
  unfold joined
  rw [h]
  rfl
/-- strings.Join of texts without a word between. -/
theorem join_any (g o c : Nat) (l : List ByteArray) (w : World) (hc : ∀ (j : Nat) (hj : j < l.length), w.cell? ⟨g, o + j, none⟩ = some (.string l[j])) (hg : g < w.heap.size) (hn : l.length ≤ 100000) (hcap : l.length ≤ c) (hs : (joined l).size ≤ 100000000) :
    Calls Tryz.prog 114 #[.slice (some ⟨g, o, none⟩) l.length c, .string ⟨#[]⟩] w fun e w' => e = .returned (.string (joined l)) ∧ Below w.heap.size w w' := by
  have hd := joined_data l
  have hf := join_flat (l.map (·.data.toList))
  have hlen : (Lib.join (l.map (·.data.toList)) (⟨#[]⟩ : ByteArray).data.toList).length ≤ 140737488355328 := by
    show (Lib.join (l.map (·.data.toList)) []).length ≤ _
    rw [hf, ← hd, Array.length_toList]
    have : (joined l).data.size = (joined l).size := rfl
    omega
  have := Any.strings_Join lays156 joinX g o c l ⟨#[]⟩ w (fun j x hx => by
    obtain ⟨hj, rfl⟩ := List.getElem?_eq_some_iff.1 hx
    exact hc j hj) hg (by omega) hcap hlen
  refine this.mono ?_
  rintro e v ⟨rfl, hb⟩
  refine ⟨?_, hb⟩
  show Ending.returned (Value.string ⟨(Lib.join (l.map (·.data.toList)) []).toArray⟩) = _
  rw [hf, ← hd]
theorem dropWhile_zero : ∀ (l : List UInt8), l.dropWhile (fun x => x == 0) = [] ↔ l = List.replicate l.length 0
  | [] => by simp
  | a :: l => by
    rw [List.dropWhile_cons, List.length_cons, List.replicate_succ]
    by_cases h : a = 0
    · subst h
      simp only [beq_self_eq_true, if_true, List.cons.injEq, true_and]
      exact dropWhile_zero l
    · simp [h]
theorem trimR_zero (l : List UInt8) : Lib.trimRightB l 0 = [] ↔ l = List.replicate l.length 0 := by
  unfold Lib.trimRightB
  rw [List.reverse_eq_nil_iff, dropWhile_zero, List.length_reverse]
  constructor
  · intro h
    have := congrArg List.reverse h
    rwa [List.reverse_reverse, List.reverse_replicate] at this
  · intro h
    have := congrArg List.reverse h
    rwa [List.reverse_replicate] at this
theorem trim_nil (l : List UInt8) : Lib.trimB l 0 = [] ↔ l = List.replicate l.length 0 := by
  rw [← trimR_zero]
  unfold Lib.trimB Lib.trimLeftB
  constructor
  · intro h
    have h2 := (dropWhile_zero _).1 h
    rw [trimR_zero]
    have h3 := h2
    unfold Lib.trimRightB at h3
    -- what is left ends in no byte 0
    generalize hx : (l.reverse.dropWhile (fun x => x == 0)) = r at h3
    have hr : r = List.replicate r.length 0 := by
      have := congrArg List.reverse h3
      rwa [List.reverse_reverse, List.length_reverse, List.reverse_replicate] at this
    have hh : r = [] := by
      cases r with
      | nil => rfl
      | cons a r =>
        have hne : ¬ (fun x : UInt8 => x == 0) a = true := by
          have := List.head?_dropWhile_not (fun x : UInt8 => x == 0) l.reverse
          rw [hx] at this
          simpa using this
        rw [List.length_cons, List.replicate_succ] at hr
        exact absurd (by rw [(List.cons.inj hr).1]; rfl) hne
    rw [hh] at hx
    have := (dropWhile_zero _).1 hx
    rw [List.length_reverse] at this
    have h4 := congrArg List.reverse this
    rwa [List.reverse_reverse, List.reverse_replicate] at h4
  · intro h
    rw [h]
    rfl
/-- Are all bytes 0? -/
def AllZ (s : ByteArray) : Prop := s = zs s.size
theorem allZ_list (s : ByteArray) : AllZ s ↔ s.data.toList = List.replicate s.data.toList.length 0 := by
  have e : s.data.toList.length = s.size := by rw [Array.length_toList]; rfl
  rw [e]
  unfold AllZ zs
  constructor
  · intro h
    have := congrArg (fun x : ByteArray => x.data.toList) h
    exact this
  · intro h
    apply ByteArray.ext
    rw [← h]
set_option maxRecDepth 10000 in
set_option maxHeartbeats 1000000 in
/-- strings.Trim at a byte 0. -/
theorem trim_any (s : ByteArray) (w : World) (hs : s.size ≤ 100000000) :
    Calls Tryz.prog 116 #[.string s, .string ⟨#[0]⟩] w fun e w' => e = .returned (.string ⟨(Lib.trimB s.data.toList 0).toArray⟩) ∧ Below w.heap.size w w' := by
  have K1 : Hid (∀ u, Calls Tryz.prog 137 #[.string s, .int .u8 0] u fun e w' => e = .returned (.string ⟨(Lib.trimRightB s.data.toList 0).toArray⟩) ∧ w' = u) := fun u => Any.strings_trimRightByte lays232 s 0 u (by omega)
  have K2 : Hid (∀ u, Calls Tryz.prog 136 #[.string ⟨(Lib.trimRightB s.data.toList 0).toArray⟩, .int .u8 0] u fun e w' => e = .returned (.string ⟨(Lib.trimB s.data.toList 0).toArray⟩) ∧ w' = u) := fun u => Any.strings_trimLeftByte lays231 ⟨(Lib.trimRightB s.data.toList 0).toArray⟩ 0 u
  have hc0 : ((⟨#[0]⟩ : ByteArray)[0]'Nat.zero_lt_one) = 0 := rfl
  have hc1 : (((⟨#[0]⟩ : ByteArray)[0]'Nat.zero_lt_one).toNat : Int) = 0 := rfl
  go_enter Tryz.func116, Tryz.ntmps116
  go_wp2
  · have hl : s.data.toList = [] := by rw [← Lib.toList_data]; assumption
    go_ret
    refine ⟨?_, Below.refl _ _⟩
    have hs0 : s = ⟨#[]⟩ := by rw [← Lib.mk_data s, hl]
    rw [hl]
    simp [Lib.trimB, Lib.trimLeftB, Lib.trimRightB, hs0]
  · exfalso
    have h1 : ¬ s.toList = [] := by assumption
    have h2 : s.toList.isEmpty = true := by assumption
    exact h1 (by simpa using h2)
  · go_region_law (first
      | (go_simp; go_at_call 137; refine (K1.out _).mono ?_; rintro e w1 ⟨rfl, rfl⟩)
      | (go_simp; go_at_call 136; refine (K2.out _).mono ?_; rintro e w1 ⟨rfl, rfl⟩))
    all_goals (go_wp2; go_ret; exact ⟨rfl, (Below.refl _ _).drew⟩)
  all_goals (
    exfalso
    have h1 : (128 : Int) ≤ (((⟨#[0]⟩ : ByteArray)[0]'Nat.zero_lt_one).toNat : Int) := by assumption
    rw [hc1] at h1
    omega)
end Go.Proofs.YtchhojkhfdkhfaaGreatDoor
namespace Go.Proofs.YtchhojkhfdkhfaaGreatDoor
open Go Go.RowKit
theorem part_byte (X : List UInt8) (i : Nat) (h : i < X.length) (w : World) : (part 5 (Lib.byteCells X).toArray (i * 1)).run Tryz.prog w = .ok (.int .u8 ((X[i].toNat : Nat) : Int)) w := by
  have u5 := Tryz.underlying5
  have a5 := Tryz.isAgg5
  have z5 := Tryz.sizeOf5
  have e : (Lib.byteCells X).toArray[i]? = some (.int .u8 ((X[i].toNat : Nat) : Int)) := by
    unfold Lib.byteCells
    rw [List.getElem?_toArray, List.getElem?_map, List.getElem?_eq_getElem h]
    rfl
  rw [Nat.mul_one]
  unfold part
  simp [Sem.run_bind, a5, z5, e]
theorem items_bytes (d : Nat) (X Y : List UInt8) (w : World) : ∀ (is : List Nat), (∀ i ∈ is, i < X.length ∧ i < Y.length) → (Op.eqItems (d + 1) 5 1 (Lib.byteCells X).toArray (Lib.byteCells Y).toArray is).run Tryz.prog w = .ok (decide (∀ i ∈ is, X[i]? = Y[i]?)) w
  | [], _ => by simp [Op.eqItems]
  | i :: is, h => by
    have hi := h i (by simp)
    have ih := items_bytes d X Y w is (fun j hj => h j (by simp [hj]))
    have he := run_equalIn_int (P := Tryz.prog) w d 5 .u8 .u8 ((X[i].toNat : Nat) : Int) ((Y[i].toNat : Nat) : Int) Tryz.underlying5
    simp only [Op.eqItems, Sem.run_bind, part_byte X i hi.1 w, part_byte Y i hi.2 w, Result.andThen_ok]
    rw [he]
    simp only [Result.andThen_ok]
    by_cases e : X[i] = Y[i]
    · have e2 : ((X[i].toNat : Nat) : Int) = ((Y[i].toNat : Nat) : Int) := by rw [e]
      have e3 : X[i]? = Y[i]? := by rw [List.getElem?_eq_getElem hi.1, List.getElem?_eq_getElem hi.2, e]
      rw [e2]
      simp only [beq_self_eq_true, Bool.not_true, Bool.false_eq_true, if_false]
      rw [ih]
      refine congrArg (fun b => Result.ok b w) (decide_eq_decide.2 ?_)
      simp [e3]
    · have e2 : ¬ ((X[i].toNat : Nat) : Int) = ((Y[i].toNat : Nat) : Int) := fun h => e (UInt8.toNat_inj.1 (by omega))
      have e3 : ¬ X[i]? = Y[i]? := by rw [List.getElem?_eq_getElem hi.1, List.getElem?_eq_getElem hi.2]; simpa using e
      have e4 : (((X[i].toNat : Nat) : Int) == ((Y[i].toNat : Nat) : Int)) = false := beq_eq_false_iff_ne.2 e2
      rw [e4]
      simp [e3]
theorem eq89 (X Y : List UInt8) (w : World) (hX : X.length = 256) (hY : Y.length = 256) : (Op.equalIn 10000 171 (.agg (Lib.byteCells X).toArray) (.agg (Lib.byteCells Y).toArray)).run Tryz.prog w = .ok (decide (X = Y)) w := by
  obtain ⟨i0, hi, _, _, _⟩ := info_parts (P := Tryz.prog) (e := 5) (z := .int .u8 0) (size := 1) (bytes := 1) (by kernel_rfl)
  have hu : Tryz.prog.underlying 171 = some (.array 256 5) := by kernel_rfl
  have hc : Tryz.prog.cellsOf 5 = 1 := by kernel_rfl
  have h1 := run_equalIn_array w 9999 (Lib.byteCells X).toArray (Lib.byteCells Y).toArray hu hi
  rw [hc] at h1
  refine h1.trans ((items_bytes 9998 X Y w (List.range 256) (fun i hi => by rw [List.mem_range] at hi; omega)).trans ?_)
  refine congrArg (fun b => Result.ok b w) (decide_eq_decide.2 ?_)
  constructor
  · intro h
    apply List.ext_getElem?
    intro i
    by_cases hi : i < 256
    · exact h i (List.mem_range.2 hi)
    · rw [List.getElem?_eq_none (by omega), List.getElem?_eq_none (by omega)]
  · rintro rfl i _
    rfl
end Go.Proofs.YtchhojkhfdkhfaaGreatDoor
namespace Go.Proofs.YtchhojkhfdkhfaaGreatDoor
open Go Go.RowKit Frm
set_option maxRecDepth 10000 in
theorem copyHead (w : World) (h : ByteArray) (hh : h.size = 256) (ty : TypeId) :
    (Builtin.copy_ #[77, 9] ty #[.slice (some ⟨w.heap.size, 0, none⟩) 256 256, .string h]).run Tryz.prog (w.alloc (.cells Tryz.zeroCells171 171)).drew = .ok (goInt 256) (w.alloc (.cells (tc h).toArray 171)).drew := by
  have hz : Tryz.zeroCells171.size = 256 := by rw [z89_eq, List.size_toArray, Lib.byteCells_length, List.length_replicate]
  have hg : (w.alloc (.cells Tryz.zeroCells171 171)).drew.heap[w.heap.size]? = some (.cells Tryz.zeroCells171 171 (0, 0)) := heap_alloc_last w _
  have h1 := run_copy_some7 (P := Tryz.prog) (w.alloc (.cells Tryz.zeroCells171 171)).drew 77 9 ty 5 w.heap.size 0 256 256 h Tryz.zeroCells171 171 Tryz.underlying77 size5 hg 256 (by rw [hh]; rfl) (by rw [hz]; omega)
  have hrow : (Tryz.zeroCells171.toList.take 0 ++ Lib.byteCells (h.data.toList.take 256) ++ Tryz.zeroCells171.toList.drop (0 + 256)).toArray = (tc h).toArray := by
    have e0 : h.data.toList.length = 256 := by rw [Array.length_toList]; exact hh
    rw [List.take_zero, List.nil_append, List.take_of_length_le (by omega), List.drop_of_length_le (by rw [Array.length_toList, hz]; omega), List.append_nil]
    rfl
  rw [hrow] at h1
  have e : (w.alloc (.cells Tryz.zeroCells171 171)).drew.setRow w.heap.size (tc h).toArray = (w.alloc (.cells (tc h).toArray 171)).drew := by
    have h2 : (w.alloc (.cells Tryz.zeroCells171 171)).drew.setRow w.heap.size (tc h).toArray = ((w.alloc (.cells Tryz.zeroCells171 171)).setRow w.heap.size (tc h).toArray).drew := rfl
    rw [h2, World.setRow_alloc_new]
  rw [h1, e]
  rfl
theorem two_set {X : World} {B : Nat} {x0 x1 : Value} {ty : TypeId} (h : X.heap[B]? = some (.cells #[x0, x1] ty (0, 0))) (y0 y1 : Value) : ((X.setCell ⟨B, 0, none⟩ y0).setCell ⟨B, 1, none⟩ y1).heap[B]? = some (.cells #[y0, y1] ty (0, 0)) := by
  rw [heap_set3 (heap_set3 h y0) y1]
  rfl
theorem whole_eq (l : List ByteArray) (odd : Nat) (h : ByteArray) (hl0 : l.getD 0 noText = h) : wholeT l odd =
    if numL (h.data.toList.take 8) < 1 ∨ 4611686018427387904 < numL (h.data.toList.take 8) ∨ numL (h.data.toList.take 8) % 2 ≠ odd ∨ (l.length - 1) * 256 < numL ((h.data.toList.drop 8).take 4) then (0, noText)
    else if h = headT (numL (h.data.toList.take 8)) ((joined ((l.drop 1).take (nb (numL ((h.data.toList.drop 8).take 4))))).extract 0 (numL ((h.data.toList.drop 8).take 4))) ∧
        (joined ((l.drop 1).take (nb (numL ((h.data.toList.drop 8).take 4))))).extract (numL ((h.data.toList.drop 8).take 4)) (joined ((l.drop 1).take (nb (numL ((h.data.toList.drop 8).take 4))))).size = zs ((joined ((l.drop 1).take (nb (numL ((h.data.toList.drop 8).take 4))))).size - numL ((h.data.toList.drop 8).take 4))
      then (numL (h.data.toList.take 8), (joined ((l.drop 1).take (nb (numL ((h.data.toList.drop 8).take 4))))).extract 0 (numL ((h.data.toList.drop 8).take 4))) else (0, noText) := by
  unfold wholeT
  rw [hl0]
set_option maxRecDepth 20000 in
set_option maxHeartbeats 4000000 in
theorem whole_any (q : Option Addr) (a : Int) (base odd : Nat) (v : Value) (l : List ByteArray) (w : World) (hO : OwnL7 w base v l) (h2 : 2 ≤ l.length) (hN : l.length ≤ 4096) (hl : ∀ t ∈ l, t.size = 256) :
    Calls Tryz.prog 84 #[.agg #[.pointer q, .int .i64 a, .int .i64 (l.length : Int), .int .u64 (odd : Int)], v] w fun e w' => e = .returned (.agg #[.int .u64 ((wholeT l odd).1 : Int), .string (wholeT l odd).2]) ∧ Below w.heap.size w w' := by
  obtain ⟨g, c, rfl, hgc, hgl⟩ := hO.form (by omega)
  obtain ⟨h, hh⟩ : ∃ h, h = l[0] := ⟨_, rfl⟩
  have h256 : h.size = 256 := by rw [hh]; exact hl _ (List.getElem_mem _)
  have hz := Tryz.zeroValue171
  have hc0 := hO.at 0 (by omega)
  rw [← hh] at hc0
  have hcp := copyHead ((w.alloc (.cells #[.pointer q, .int .i64 a, .int .i64 (l.length : Int), .int .u64 (odd : Int)] 138)).alloc (.cells #[.int .u64 0, .string ⟨#[]⟩] 136)) h h256
  have hs2 : ((w.alloc (.cells #[.pointer q, .int .i64 a, .int .i64 (l.length : Int), .int .u64 (odd : Int)] 138)).alloc (.cells #[.int .u64 0, .string ⟨#[]⟩] 136)).heap.size = w.heap.size + 1 + 1 := by simp
  rw [hs2] at hcp
  generalize hZ : Tryz.zeroCells171 = Z at *
  have hcD : (((w.alloc (.cells #[.pointer q, .int .i64 a, .int .i64 (l.length : Int), .int .u64 (odd : Int)] 138)).alloc (.cells #[.int .u64 0, .string ⟨#[]⟩] 136)).alloc (.cells Z 171)).drew.cell? ⟨g, 0, none⟩ = some (.string h) := ((kept_cell (((two_below w _ _).alloc (by simp; omega) _).drew) g 0 hgl).trans hc0)
  have HH := hide hh
  clear hh
  have hpos : 0 < l.length := by omega
  have hpos2 : (0 : Int) < (l.length : Int) := by omega
  go_enter Tryz.func84, Tryz.ntmps84
  go_wp2_with fail
  go_region_law (fail)
  have HBV : Hid (Below w.heap.size w (((w.alloc (.cells #[.pointer q, .int .i64 a, .int .i64 (l.length : Int), .int .u64 (odd : Int)] 138)).alloc (.cells #[.int .u64 0, .string ⟨#[]⟩] 136)).alloc (.cells (tc h).toArray 171)).drew) := ((two_below w _ _).alloc (by simp; omega) _).drew
  have hV2 : (((w.alloc (.cells #[.pointer q, .int .i64 a, .int .i64 (l.length : Int), .int .u64 (odd : Int)] 138)).alloc (.cells #[.int .u64 0, .string ⟨#[]⟩] 136)).alloc (.cells (tc h).toArray 171)).drew.heap[w.heap.size + 1 + 1]? = some (.cells (tc h).toArray 171 (0, 0)) := by
    have := heap_alloc_last ((w.alloc (.cells #[.pointer q, .int .i64 a, .int .i64 (l.length : Int), .int .u64 (odd : Int)] 138)).alloc (.cells #[.int .u64 0, .string ⟨#[]⟩] 136)) (.cells (tc h).toArray 171)
    rw [hs2] at this
    exact this
  have hV0 : (((w.alloc (.cells #[.pointer q, .int .i64 a, .int .i64 (l.length : Int), .int .u64 (odd : Int)] 138)).alloc (.cells #[.int .u64 0, .string ⟨#[]⟩] 136)).alloc (.cells (tc h).toArray 171)).drew.heap[w.heap.size]? = some (.cells #[.pointer q, .int .i64 a, .int .i64 (l.length : Int), .int .u64 (odd : Int)] 138 (0, 0)) :=
    (Below.heap_alloc _ _ _ (by rw [hs2]; omega)).trans ((Below.heap_alloc _ _ _ (by simp)).trans (heap_alloc_last w _))
  have hV1 : (((w.alloc (.cells #[.pointer q, .int .i64 a, .int .i64 (l.length : Int), .int .u64 (odd : Int)] 138)).alloc (.cells #[.int .u64 0, .string ⟨#[]⟩] 136)).alloc (.cells (tc h).toArray 171)).drew.heap[w.heap.size + 1]? = some (.cells #[.int .u64 0, .string ⟨#[]⟩] 136 (0, 0)) := by
    have h1 := heap_alloc_last (w.alloc (.cells #[.pointer q, .int .i64 a, .int .i64 (l.length : Int), .int .u64 (odd : Int)] 138)) (.cells #[.int .u64 0, .string ⟨#[]⟩] 136)
    have hs1 : (w.alloc (.cells #[.pointer q, .int .i64 a, .int .i64 (l.length : Int), .int .u64 (odd : Int)] 138)).heap.size = w.heap.size + 1 := by simp
    rw [hs1] at h1
    exact (Below.heap_alloc _ _ _ (by rw [hs2]; omega)).trans h1
  clear hc0 hcp hcD hs2 hz hZ
  generalize (((w.alloc (.cells #[.pointer q, .int .i64 a, .int .i64 (l.length : Int), .int .u64 (odd : Int)] 138)).alloc (.cells #[.int .u64 0, .string ⟨#[]⟩] 136)).alloc (.cells (tc h).toArray 171)).drew = V at *
  have hhl : h.data.toList.length = 256 := by rw [Array.length_toList]; exact h256
  have HN1 : Hid (Calls Tryz.prog 113 #[.slice (some ⟨w.heap.size + 1 + 1, 0, none⟩) 8 256] V.drew fun e w' => e = .returned (.int .u64 ((numL (h.data.toList.take 8) : Nat) : Int)) ∧ w' = V.drew) := by
    have := number_any (w.heap.size + 1 + 1) 0 256 8 h.data.toList 171 V.drew hV2 (by omega) (by omega)
    rw [List.drop_zero] at this
    exact this
  have HN2 : Hid (Calls Tryz.prog 113 #[.slice (some ⟨w.heap.size + 1 + 1, 8, none⟩) 4 248] V.drew fun e w' => e = .returned (.int .u64 ((numL ((h.data.toList.drop 8).take 4) : Nat) : Int)) ∧ w' = V.drew) := number_any (w.heap.size + 1 + 1) 8 248 4 h.data.toList 171 V.drew hV2 (by omega) (by omega)
  have HV0 := hide hV0
  have HV1 := hide hV1
  have HV2 := hide hV2
  go_wp2_with fail
  clear hV0 hV1 hV2
  go_region_law (first
    | (go_simp; go_at_call 113; (with_reducible refine HN1.out.mono ?_); rintro e w1 ⟨rfl, rfl⟩)
    | (go_simp; go_at_call 113; (with_reducible refine HN2.out.mono ?_); rintro e w1 ⟨rfl, rfl⟩))
  all_goals
    have c2 : V.drew.cell? ⟨w.heap.size, 2, none⟩ = some (.int .i64 (l.length : Int)) := (cell_of_row V.drew _ 2 _ _ _ HV0.out).trans rfl
    have c3 : V.drew.cell? ⟨w.heap.size, 3, none⟩ = some (.int .u64 (odd : Int)) := (cell_of_row V.drew _ 3 _ _ _ HV0.out).trans rfl
    have d0 : V.drew.cell? ⟨w.heap.size + 1, 0, none⟩ = some (.int .u64 0) := (cell_of_row V.drew _ 0 _ _ _ HV1.out).trans rfl
    have d1 : V.drew.cell? ⟨w.heap.size + 1, 1, none⟩ = some (.string ⟨#[]⟩) := (cell_of_row V.drew _ 1 _ _ _ HV1.out).trans rfl
    have hf : ∀ i, V.drew.frozen? ⟨w.heap.size + 1, i, none⟩ = false := fun i => by
      have := HV1.out
      exact free_of (u := V.drew) this i
    have f0 := hf 0
    have f1 := hf 1
    have hl0 : l.getD 0 noText = h := by rw [HH.out]; simp [List.getD, hpos]
    have hWh := whole_eq l odd h hl0
    have hgg : numL (h.data.toList.take 8) < 18446744073709551616 := by
      have := numL_lt (h.data.toList.take 8)
      rw [List.length_take, hhl] at this
      exact this
    generalize numL (h.data.toList.take 8) = gg at *
    generalize numL ((h.data.toList.drop 8).take 4) = nn at *
    have HWh := hide hWh
    have HBX : Hid (Below w.heap.size w V.drew) := HBV.out.drew
    have HX0 : Hid (V.drew.heap[w.heap.size]? = _) := HV0.out
    have HX1 : Hid (V.drew.heap[w.heap.size + 1]? = _) := HV1.out
    have HX2 : Hid (V.drew.heap[w.heap.size + 1 + 1]? = _) := HV2.out
    have HM := hide (fun u => mayBe_any gg u)
    clear HN1 HN2 hWh hl0 hf HBV HV0 HV1 HV2
    generalize V.drew = X at *
    by_cases hbad : gg < 1 ∨ 4611686018427387904 < gg ∨ gg % 2 ≠ odd ∨ (l.length - 1) * 256 < nn
    · have HE : Hid (wholeT l odd = (0, noText)) := HWh.out.trans (if_pos hbad)
      have HEb : Hid (Below w.heap.size w ((X.setCell ⟨w.heap.size + 1, 0, none⟩ (.int .u64 0)).setCell ⟨w.heap.size + 1, 1, none⟩ (.string ⟨#[]⟩))) := (HBX.out.setCell (p := ⟨w.heap.size + 1, 0, none⟩) (Nat.le_succ _) _).setCell (p := ⟨w.heap.size + 1, 1, none⟩) (Nat.le_succ _) _
      have HER : Hid (((X.setCell ⟨w.heap.size + 1, 0, none⟩ (.int .u64 0)).setCell ⟨w.heap.size + 1, 1, none⟩ (.string ⟨#[]⟩)).heap[w.heap.size + 1]? = some (.cells #[.int .u64 0, .string ⟨#[]⟩] 136 (0, 0))) := two_set HX1.out _ _
      by_cases hg : 1 ≤ gg ∧ gg ≤ 4611686018427387904
      · have hd : decide (1 ≤ gg ∧ gg ≤ 4611686018427387904) = true := decide_eq_true hg
        rw [hd] at HM
        have hm2 : (gg : Int) % 2 = ((gg % 2 : Nat) : Int) := by omega
        by_cases ho : gg % 2 = odd
        · have hr : (l.length - 1) * 256 < nn := by omega
          have hr2 : ((l.length : Int) - 1) * 256 < (nn : Int) := by omega
          have ho2 : (gg : Int) % 2 = (odd : Int) := by omega
          clear hbad hg hd hm2 ho hr
          go_wp2_with (go_at_call 107; refine (HM.out _).mono ?_; rintro e w1 ⟨rfl, rfl⟩)
          exact bodyPost_ret (results_cell_row Tryz.results84 _ _ (w.heap.size + 1) 136 _ (0, 0) _ rfl HER.out Tryz.underlying136 rfl (by kernel_rfl)) rfl ⟨by rw [HE.out]; rfl, HEb.out⟩
        · have ho2 : ¬ ((gg : Int) % 2 = (odd : Int)) := by omega
          clear hbad hg hd hm2 ho
          go_wp2_with (go_at_call 107; refine (HM.out _).mono ?_; rintro e w1 ⟨rfl, rfl⟩)
          exact bodyPost_ret (results_cell_row Tryz.results84 _ _ (w.heap.size + 1) 136 _ (0, 0) _ rfl HER.out Tryz.underlying136 rfl (by kernel_rfl)) rfl ⟨by rw [HE.out]; rfl, HEb.out⟩
      · have hd : decide (1 ≤ gg ∧ gg ≤ 4611686018427387904) = false := decide_eq_false hg
        rw [hd] at HM
        clear hbad hg hd
        go_wp2_with (go_at_call 107; refine (HM.out _).mono ?_; rintro e w1 ⟨rfl, rfl⟩)
        exact bodyPost_ret (results_cell_row Tryz.results84 _ _ (w.heap.size + 1) 136 _ (0, 0) _ rfl HER.out Tryz.underlying136 rfl (by kernel_rfl)) rfl ⟨by rw [HE.out]; rfl, HEb.out⟩
    · have HE := hide (HWh.out.trans (if_neg hbad))
      have hg : 1 ≤ gg ∧ gg ≤ 4611686018427387904 := by omega
      have hd : decide (1 ≤ gg ∧ gg ≤ 4611686018427387904) = true := decide_eq_true hg
      rw [hd] at HM
      have ho2 : (gg : Int) % 2 = (odd : Int) := by omega
      have hr2 : ¬ (((l.length : Int) - 1) * 256 < (nn : Int)) := by omega
      have hnn : nn ≤ 4095 * 256 := by omega
      have hnb : nb nn + 1 ≤ l.length := by unfold nb; omega
      have hnb2 : nn ≤ nb nn * 256 := by unfold nb; omega
      have HBl := hide (fun u => blocksFor_any nn u (by omega))
      have hl1 : ((l.drop 1).take (nb nn)).length = nb nn := by rw [List.length_take, List.length_drop]; omega
      have hl256 : ∀ t ∈ (l.drop 1).take (nb nn), t.size = 256 := fun t ht => hl t (List.mem_of_mem_drop (List.mem_of_mem_take ht))
      have hjs := joined_size _ hl256
      rw [hl1] at hjs
      have HJ : Hid (∀ u, Below X.heap.size X u → Calls Tryz.prog 114 #[.slice (some ⟨g, 1, none⟩) (nb nn) (c - 1), .string ⟨#[]⟩] u fun e w' => e = .returned (.string (joined ((l.drop 1).take (nb nn)))) ∧ Below u.heap.size u w') := fun u hu => by
        have hbw := HBX.out.trans (hu.mono HBX.out.size)
        have := join_any g 1 (c - 1) ((l.drop 1).take (nb nn)) u (fun j hj => by
          rw [List.length_take, List.length_drop] at hj
          have e1 := (kept_cell hbw g (1 + j) hgl).trans (hO.at (1 + j) (by omega))
          rw [e1]
          simp [Nat.add_comm]) (Nat.lt_of_lt_of_le hgl hbw.size) (by omega) (by rw [hl1]; omega) (by rw [hjs]; omega)
        rw [hl1] at this
        exact this
      generalize joined ((l.drop 1).take (nb nn)) = b at *
      generalize nb nn = kb at *
      have hb1 : (nn : Int) ≤ (b.size : Int) := by omega
      have hbS : b.size ≤ 1100000 := by omega
      clear hl1 hl256 hbad hg hd hjs hnb2 hl
      go_wp2_with (first
        | (go_at_call 107; refine (HM.out _).mono ?_; rintro e w1 ⟨rfl, rfl⟩)
        | (go_at_call 115; refine (HBl.out _).mono ?_; rintro e w1 ⟨rfl, rfl⟩)
        | (go_at_call 114; refine (HJ.out _ (Below.refl _ _)).mono ?_; rintro e w2 ⟨rfl, hb2⟩))
      have HB2 := hide (HBX.out.trans (hb2.mono HBX.out.size))
      have hlt2 : w.heap.size + 1 + 1 < w1.heap.size := (Array.getElem?_eq_some_iff.1 HX2.out).1
      have HY0 := hide ((hb2.block _ (by omega)).trans HX0.out)
      have HY1 := hide ((hb2.block _ (by omega)).trans HX1.out)
      have HY2 := hide ((hb2.block _ hlt2).trans HX2.out)
      clear c2 c3 d0 d1 f0 f1 HBX HX0 HX1 HX2 HJ HBl HWh hb2 hlt2
      have hnz : (0 : Int) ≤ (nn : Int) := by omega
      refine wp_region_held_drew (S := fun _ => True) (by kernel_rfl) trivial (fun _ => ?_)
      refine takeAt7 0 50 (v := ?w0) rfl rfl (by kernel_rfl) (by kernel_rfl) (by kernel_rfl) (fun _ _ _ h => h) (Or.inl ⟨by rfl, ?hw0⟩) trivial ?sest0
      case hw0 => (intro w hSw; clear hSw; go_simp; first | done | with_reducible rfl)
      simp only [List.setIfInBounds_toArray, List.set_cons_succ, List.set_cons_zero]
      refine takeAt7 1 51 (v := ?w1) rfl rfl (by kernel_rfl) (by kernel_rfl) (by kernel_rfl) (fun _ _ _ h => h) (Or.inl ⟨by rfl, ?hw1⟩) trivial ?sest1
      case hw1 => (intro w hSw; clear hSw; go_simp; first | done | with_reducible rfl)
      simp only [List.setIfInBounds_toArray, List.set_cons_succ, List.set_cons_zero]
      refine takeAt7 2 52 (v := ?w2) rfl rfl (by kernel_rfl) (by kernel_rfl) (by kernel_rfl) (fun _ _ _ h => h) (Or.inl ⟨by rfl, ?hw2⟩) trivial ?sest2
      case hw2 => (intro w hSw; clear hSw; go_simp; first | done | with_reducible rfl)
      simp only [List.setIfInBounds_toArray, List.set_cons_succ, List.set_cons_zero]
      refine takeAt7 3 53 (v := ?w3) rfl rfl (by kernel_rfl) (by kernel_rfl) (by kernel_rfl) (fun _ _ _ h => h) (Or.inl ⟨by rfl, ?hw3⟩) trivial ?sest3
      case hw3 => (intro w hSw; clear hSw; go_simp; first | done | with_reducible rfl)
      simp only [List.setIfInBounds_toArray, List.set_cons_succ, List.set_cons_zero]
      refine takeAt7 4 54 (v := ?w4) rfl rfl (by kernel_rfl) (by kernel_rfl) (by kernel_rfl) (fun _ _ _ h => h) (Or.inl ⟨by rfl, ?hw4⟩) trivial ?sest4
      case hw4 => (intro w hSw; clear hSw; go_simp; first | done | with_reducible rfl)
      simp only [List.setIfInBounds_toArray, List.set_cons_succ, List.set_cons_zero]
      refine takeAt7 5 55 (v := ?w5) rfl rfl (by kernel_rfl) (by kernel_rfl) (by kernel_rfl) (fun _ _ _ h => h) (Or.inl ⟨by rfl, ?hw5⟩) trivial ?sest5
      case hw5 => (intro w hSw; clear hSw; go_simp; first | done | with_reducible rfl)
      simp only [List.setIfInBounds_toArray, List.set_cons_succ, List.set_cons_zero]
      refine takeAt7 6 10 (v := ?w6) rfl rfl (by kernel_rfl) (by kernel_rfl) (by kernel_rfl) (fun _ _ _ h => h) (Or.inl ⟨by rfl, ?hw6⟩) trivial ?sest6
      case hw6 => (intro w hSw; clear hSw; go_simp; first | done | with_reducible rfl)
      simp only [List.setIfInBounds_toArray, List.set_cons_succ, List.set_cons_zero]
      refine takeAt7 7 11 (v := ?w7) rfl rfl (by kernel_rfl) (by kernel_rfl) (by kernel_rfl) (fun _ _ _ h => h) (Or.inl ⟨by rfl, ?hw7⟩) trivial ?sest7
      case hw7 => (intro w hSw; clear hSw; go_simp; first | done | with_reducible rfl)
      simp only [List.setIfInBounds_toArray, List.set_cons_succ, List.set_cons_zero]
      refine wpAnyH_done (by kernel_rfl) ?_ _
      have hsz89 : (Tryz.prog.info? 171).map (·.size) = some (tc h).toArray.size := by rw [List.size_toArray, tc_length, h256]; exact size89
      have HHd := hide (fun u => headOf_any gg (b.extract 0 nn) u (by rw [ByteArray.size_extract]; omega))
      have heq : ∀ u, (Op.equalIn 10000 171 (.agg (tc h).toArray) (.agg (tc (headT gg (b.extract 0 nn))).toArray)).run Tryz.prog u = .ok (decide (h.data.toList = (headT gg (b.extract 0 nn)).data.toList)) u := fun u => eq89 _ _ u hhl (by rw [Array.length_toList]; exact headT_size _ _)
      have hdd : decide (h.data.toList = (headT gg (b.extract 0 nn)).data.toList) = decide (h = headT gg (b.extract 0 nn)) := decide_eq_decide.2 ⟨fun e => by rw [← Lib.mk_data h, e, Lib.mk_data], fun e => by rw [← e]⟩
      rw [hdd] at heq
      have hbe : (b.extract nn b.size).size = b.size - nn := by rw [ByteArray.size_extract]; omega
      have HTr := hide (fun u => trim_any (b.extract nn b.size) u (by rw [hbe]; omega))
      have HAz : Hid ((Lib.trimB (b.extract nn b.size).data.toList 0 = []) ↔ b.extract nn b.size = zs (b.size - nn)) := by
        refine (trim_nil _).trans ?_
        have := (allZ_list (b.extract nn b.size)).symm
        unfold AllZ at this
        rw [hbe] at this
        exact this
      generalize b.extract 0 nn = tx at *
      generalize hbh : b.extract nn b.size = bh at *
      generalize hTh : (tc h).toArray = D at *
      generalize hTk : (tc (headT gg tx)).toArray = E at *
      clear hTh hTk hdd hbe hbh hhl
      go_wp2_with fail
      refine wp_region_held_drew (S := fun z => z.heap[w.heap.size + 1 + 1]? = some (.cells D 171 (0, 0))) (by kernel_rfl) HY2.out (fun hHeld => ?_)
      refine takeAt7 0 56 (v := ?v0) rfl rfl (by kernel_rfl) (by kernel_rfl) (by kernel_rfl) (fun _ _ _ h => h) (Or.inl ⟨by rfl, ?hy0⟩) (by assumption) ?rest0
      case hy0 => (intro w hSw; (try dsimp only at hSw); refine exec_load_row 171 (.tmp 5) ?_ _ ?_ 171 D (0, 0) _ hSw Tryz.underlying171 ?_ hsz89 <;> rfl)
      simp only [List.setIfInBounds_toArray, List.set_cons_succ, List.set_cons_zero]
      refine takeAt7 1 57 (v := ?v1) rfl rfl (by kernel_rfl) (by kernel_rfl) (by kernel_rfl) (fun _ _ _ h => h) (Or.inl ⟨by rfl, ?hy1⟩) (by assumption) ?rest1
      case hy1 => (intro w hSw; (try dsimp only at hSw); go_simp; first | done | with_reducible rfl)
      simp only [List.setIfInBounds_toArray, List.set_cons_succ, List.set_cons_zero]
      refine takeAt7 2 58 (v := ?v2) rfl rfl (by kernel_rfl) (by kernel_rfl) (by kernel_rfl) (fun _ _ _ h => h) (Or.inl ⟨by rfl, ?hy2⟩) (by assumption) ?rest2
      case hy2 => (intro w hSw; (try dsimp only at hSw); go_simp; first | done | with_reducible rfl)
      simp only [List.setIfInBounds_toArray, List.set_cons_succ, List.set_cons_zero]
      refine wpAnyH_ready (rs := [3]) (by kernel_rfl) (by simp) ?_
      refine AllReadyH.cons (o := { dst := some 59, op := Op.call { callee := Callee.value (Operand.func 111), args := #[Operand.tmp 57, Operand.tmp 58], argTypes := #[50, 9] }, type := 171, pos := "ckpt.go:164", after := #[{ on := 1, ground := Ground.data }, { on := 2, ground := Ground.data }], guard := none }) rfl (fun K hK => ?_) AllReadyH.nil
      go_simp
      refine (HHd.out _).mono ?_
      rintro e z3 ⟨rfl, hb3⟩
      have hHeld3 := (hb3.block _ (Array.getElem?_eq_some_iff.1 hHeld).1).trans hHeld
      have HB3 := hide (HB2.out.drew.drew.trans (hb3.mono HB2.out.size))
      have HZ1 := hide ((hb3.block _ (Array.getElem?_eq_some_iff.1 HY1.out).1).trans HY1.out)
      clear hb3
      go_wp2_with fail
      refine hK.out _ _ hHeld3 (fun _ => ?_)
      clear hK K
      (try go_frame)
      by_cases hEq : h = headT gg tx
      · have hdt : decide (h = headT gg tx) = true := decide_eq_true hEq
        rw [hdt] at heq
        clear hdt
        refine takeAt7 4 60 (v := ?v4b) rfl rfl (by kernel_rfl) (by kernel_rfl) (by kernel_rfl) (fun _ _ _ h => h) (Or.inl ⟨by rfl, ?hy4b⟩) (by assumption) ?rest4b
        case hy4b => (intro w hSw; (try dsimp only at hSw); go_simp; first | done | with_reducible rfl)
        simp only [List.setIfInBounds_toArray, List.set_cons_succ, List.set_cons_zero]
        refine takeAt7 5 61 (v := ?v5b) rfl rfl (by kernel_rfl) (by kernel_rfl) (by kernel_rfl) (fun _ _ _ h => h) (Or.inl ⟨by rfl, ?hy5b⟩) (by assumption) ?rest5b
        case hy5b => (intro w hSw; (try dsimp only at hSw); go_simp; first | done | with_reducible rfl)
        simp only [List.setIfInBounds_toArray, List.set_cons_succ, List.set_cons_zero]
        refine takeAt7 6 62 (v := ?v6b) rfl rfl (by kernel_rfl) (by kernel_rfl) (by kernel_rfl) (fun _ _ _ h => h) (Or.inl ⟨by rfl, ?hy6b⟩) (by assumption) ?rest6b
        case hy6b => (intro w hSw; (try dsimp only at hSw); go_simp; first | done | with_reducible rfl)
        simp only [List.setIfInBounds_toArray, List.set_cons_succ, List.set_cons_zero]
        refine wpAnyH_ready (rs := [7]) (by kernel_rfl) (by simp) ?_
        refine AllReadyH.cons (o := { dst := some 63, op := Op.call { callee := Callee.value (Operand.func 116), args := #[Operand.tmp 62, Operand.const (Value.string { data := #[0] })], argTypes := #[9, 9] }, type := 9, pos := "ckpt.go:164", after := #[{ on := 6, ground := Ground.data }, { on := 5, ground := Ground.chain }, { on := 5, ground := Ground.guard }], guard := some (5, false) }) rfl (fun K hK => ?_) AllReadyH.nil
        go_simp
        refine (HTr.out _).mono ?_
        rintro e z4 ⟨rfl, hb4⟩
        have hHeld4 := (hb4.block _ (Array.getElem?_eq_some_iff.1 hHeld3).1).trans hHeld3
        have HB4 := hide (HB3.out.trans (hb4.mono HB3.out.size))
        have HZ4 := hide ((hb4.block _ (Array.getElem?_eq_some_iff.1 HZ1.out).1).trans HZ1.out)
        clear hb4
        go_wp2_with fail
        refine hK.out _ _ hHeld4 (fun _ => ?_)
        clear hK K
        (try go_frame)
        by_cases hz : Lib.trimB bh.data.toList 0 = []
        · rw [hz]
          refine takeAt7 8 64 (v := ?v8c) rfl rfl (by kernel_rfl) (by kernel_rfl) (by kernel_rfl) (fun _ _ _ h => h) (Or.inl ⟨by rfl, ?hy8c⟩) (by assumption) ?rest8c
          case hy8c => (intro w hSw; (try dsimp only at hSw); go_simp; first | done | with_reducible rfl)
          simp only [List.setIfInBounds_toArray, List.set_cons_succ, List.set_cons_zero]
          refine takeAt7 9 65 (v := ?v9c) rfl rfl (by kernel_rfl) (by kernel_rfl) (by kernel_rfl) (fun _ _ _ h => h) (Or.inl ⟨by rfl, ?hy9c⟩) (by assumption) ?rest9c
          case hy9c => (intro w hSw; (try dsimp only at hSw); go_simp; first | done | with_reducible rfl)
          simp only [List.setIfInBounds_toArray, List.set_cons_succ, List.set_cons_zero]
          refine wpAnyH_done (by kernel_rfl) ?_ _
          have hR : Hid (wholeT l odd = (gg, tx)) := HE.out.trans (if_pos ⟨hEq, HAz.out.1 hz⟩)
          have HO := trivial
          clear hEq hz hHeld hHeld3 hHeld4
          have d0 : z4.cell? ⟨w.heap.size + 1, 0, none⟩ = some (.int .u64 0) := (cell_of_row z4 _ 0 _ _ _ HZ4.out).trans rfl
          have d1 : z4.cell? ⟨w.heap.size + 1, 1, none⟩ = some (.string ⟨#[]⟩) := (cell_of_row z4 _ 1 _ _ _ HZ4.out).trans rfl
          have f0 : z4.frozen? ⟨w.heap.size + 1, 0, none⟩ = false := free_of (u := z4) HZ4.out 0
          have f1 : z4.frozen? ⟨w.heap.size + 1, 1, none⟩ = false := free_of (u := z4) HZ4.out 1
          have HER := hide (two_set HZ4.out (.int .u64 (gg : Int)) (.string tx))
          have HEb : Hid (Below w.heap.size w ((z4.setCell ⟨w.heap.size + 1, 0, none⟩ (.int .u64 (gg : Int))).setCell ⟨w.heap.size + 1, 1, none⟩ (.string tx))) := (HB4.out.setCell (p := ⟨w.heap.size + 1, 0, none⟩) (Nat.le_succ _) _).setCell (p := ⟨w.heap.size + 1, 1, none⟩) (Nat.le_succ _) _
          clear HE heq HHd HTr HAz HM HO
          go_wp2
          exact bodyPost_ret (results_cell_row Tryz.results84 _ _ (w.heap.size + 1) 136 _ (0, 0) _ rfl HER.out Tryz.underlying136 rfl (by kernel_rfl)) rfl ⟨by rw [hR.out], HEb.out⟩
        · generalize hrr : Lib.trimB bh.data.toList 0 = rr at *
          have hrz : rr.isEmpty = false := by cases rr with | nil => exact absurd rfl hz | cons a r => rfl
          clear hrr
          refine takeAt7 8 64 (v := ?v8d) rfl rfl (by kernel_rfl) (by kernel_rfl) (by kernel_rfl) (fun _ _ _ h => h) (Or.inl ⟨by rfl, ?hy8d⟩) (by assumption) ?rest8d
          case hy8d => (intro w hSw; (try dsimp only at hSw); go_simp; first | done | with_reducible rfl)
          simp only [List.setIfInBounds_toArray, List.set_cons_succ, List.set_cons_zero]
          refine takeAt7 9 65 (v := ?v9d) rfl rfl (by kernel_rfl) (by kernel_rfl) (by kernel_rfl) (fun _ _ _ h => h) (Or.inl ⟨by rfl, ?hy9d⟩) (by assumption) ?rest9d
          case hy9d => (intro w hSw; (try dsimp only at hSw); go_simp; first | done | with_reducible rfl)
          simp only [List.setIfInBounds_toArray, List.set_cons_succ, List.set_cons_zero]
          refine wpAnyH_done (by kernel_rfl) ?_ _
          have hR : Hid (wholeT l odd = (0, noText)) := HE.out.trans (if_neg (fun hh => hz (HAz.out.2 hh.2)))
          have HO := trivial
          clear hEq hz hHeld hHeld3 hHeld4
          have d0 : z4.cell? ⟨w.heap.size + 1, 0, none⟩ = some (.int .u64 0) := (cell_of_row z4 _ 0 _ _ _ HZ4.out).trans rfl
          have d1 : z4.cell? ⟨w.heap.size + 1, 1, none⟩ = some (.string ⟨#[]⟩) := (cell_of_row z4 _ 1 _ _ _ HZ4.out).trans rfl
          have f0 : z4.frozen? ⟨w.heap.size + 1, 0, none⟩ = false := free_of (u := z4) HZ4.out 0
          have f1 : z4.frozen? ⟨w.heap.size + 1, 1, none⟩ = false := free_of (u := z4) HZ4.out 1
          have HER := hide (two_set HZ4.out (.int .u64 0) (.string ⟨#[]⟩))
          have HEb : Hid (Below w.heap.size w ((z4.setCell ⟨w.heap.size + 1, 0, none⟩ (.int .u64 0)).setCell ⟨w.heap.size + 1, 1, none⟩ (.string ⟨#[]⟩))) := (HB4.out.setCell (p := ⟨w.heap.size + 1, 0, none⟩) (Nat.le_succ _) _).setCell (p := ⟨w.heap.size + 1, 1, none⟩) (Nat.le_succ _) _
          clear HE heq HHd HTr HAz HM HO
          go_wp2
          exact bodyPost_ret (results_cell_row Tryz.results84 _ _ (w.heap.size + 1) 136 _ (0, 0) _ rfl HER.out Tryz.underlying136 rfl (by kernel_rfl)) rfl ⟨by rw [hR.out]; rfl, HEb.out⟩
      · have hdt : decide (h = headT gg tx) = false := decide_eq_false hEq
        rw [hdt] at heq
        clear hdt
        refine takeAt7 4 60 (v := ?v4e) rfl rfl (by kernel_rfl) (by kernel_rfl) (by kernel_rfl) (fun _ _ _ h => h) (Or.inl ⟨by rfl, ?hy4e⟩) (by assumption) ?rest4e
        case hy4e => (intro w hSw; (try dsimp only at hSw); go_simp; first | done | with_reducible rfl)
        simp only [List.setIfInBounds_toArray, List.set_cons_succ, List.set_cons_zero]
        refine takeAt7 5 61 (v := ?v5e) rfl rfl (by kernel_rfl) (by kernel_rfl) (by kernel_rfl) (fun _ _ _ h => h) (Or.inl ⟨by rfl, ?hy5e⟩) (by assumption) ?rest5e
        case hy5e => (intro w hSw; (try dsimp only at hSw); go_simp; first | done | with_reducible rfl)
        simp only [List.setIfInBounds_toArray, List.set_cons_succ, List.set_cons_zero]
        refine takeAt7 6 62 (v := undef) rfl rfl (by kernel_rfl) (by kernel_rfl) (by kernel_rfl) (fun _ _ _ h => h) (Or.inr ⟨by rfl, rfl⟩) (by assumption) ?rest6e
        simp only [List.setIfInBounds_toArray, List.set_cons_succ, List.set_cons_zero]
        refine takeAt7 7 63 (v := undef) rfl rfl (by kernel_rfl) (by kernel_rfl) (by kernel_rfl) (fun _ _ _ h => h) (Or.inr ⟨by rfl, rfl⟩) (by assumption) ?rest7e
        simp only [List.setIfInBounds_toArray, List.set_cons_succ, List.set_cons_zero]
        refine takeAt7 8 64 (v := undef) rfl rfl (by kernel_rfl) (by kernel_rfl) (by kernel_rfl) (fun _ _ _ h => h) (Or.inr ⟨by rfl, rfl⟩) (by assumption) ?rest8e
        simp only [List.setIfInBounds_toArray, List.set_cons_succ, List.set_cons_zero]
        refine takeAt7 9 65 (v := ?v9e) rfl rfl (by kernel_rfl) (by kernel_rfl) (by kernel_rfl) (fun _ _ _ h => h) (Or.inl ⟨by rfl, ?hy9e⟩) (by assumption) ?rest9e
        case hy9e => (intro w hSw; (try dsimp only at hSw); go_simp; first | done | with_reducible rfl)
        simp only [List.setIfInBounds_toArray, List.set_cons_succ, List.set_cons_zero]
        refine wpAnyH_done (by kernel_rfl) ?_ _
        have hR : Hid (wholeT l odd = (0, noText)) := HE.out.trans (if_neg (fun hh => hEq hh.1))
        have HO := trivial
        clear hEq hHeld hHeld3
        have d0 : z3.cell? ⟨w.heap.size + 1, 0, none⟩ = some (.int .u64 0) := (cell_of_row z3 _ 0 _ _ _ HZ1.out).trans rfl
        have d1 : z3.cell? ⟨w.heap.size + 1, 1, none⟩ = some (.string ⟨#[]⟩) := (cell_of_row z3 _ 1 _ _ _ HZ1.out).trans rfl
        have f0 : z3.frozen? ⟨w.heap.size + 1, 0, none⟩ = false := free_of (u := z3) HZ1.out 0
        have f1 : z3.frozen? ⟨w.heap.size + 1, 1, none⟩ = false := free_of (u := z3) HZ1.out 1
        have HER := hide (two_set HZ1.out (.int .u64 0) (.string ⟨#[]⟩))
        have HEb : Hid (Below w.heap.size w ((z3.setCell ⟨w.heap.size + 1, 0, none⟩ (.int .u64 0)).setCell ⟨w.heap.size + 1, 1, none⟩ (.string ⟨#[]⟩))) := (HB3.out.setCell (p := ⟨w.heap.size + 1, 0, none⟩) (Nat.le_succ _) _).setCell (p := ⟨w.heap.size + 1, 1, none⟩) (Nat.le_succ _) _
        clear HE heq HHd HTr HAz HM HO
        go_wp2
        exact bodyPost_ret (results_cell_row Tryz.results84 _ _ (w.heap.size + 1) 136 _ (0, 0) _ rfl HER.out Tryz.underlying136 rfl (by kernel_rfl)) rfl ⟨by rw [hR.out]; rfl, HEb.out⟩
end Go.Proofs.YtchhojkhfdkhfaaGreatDoor
namespace Go.Proofs.YtchhojkhfdkhfaaGreatDoor
open Go Go.RowKit Frm
/-- Texts that lie at an address. -/
def TextsAt (w : World) (b off : Nat) (l : List ByteArray) : Prop := ∀ j (hj : j < l.length), w.cell? ⟨b, off + j, none⟩ = some (.string l[j])
end Go.Proofs.YtchhojkhfdkhfaaGreatDoor
namespace Go.Proofs.YtchhojkhfdkhfaaGreatDoor
open Go Go.RowKit Frm
theorem toList_ne {s t : ByteArray} (h : s ≠ t) : (s.toList == t.toList) = false := by
  rw [beq_eq_false_iff_ne]
  intro e
  rw [Lib.toList_data, Lib.toList_data] at e
  exact h (ByteArray.ext (Array.toList_inj.1 e))
end Go.Proofs.YtchhojkhfdkhfaaGreatDoor
namespace Go.Proofs.YtchhojkhfdkhfaaGreatDoor
open Go Go.RowKit Frm
/-- A step that writes a block: the closure's value; what it captures, in three blocks from B on. -/
def wrV (B : Nat) : Value := .func (.func 130) #[] #[.pointer (some ⟨B, 0, none⟩), .pointer (some ⟨B + 1, 0, none⟩), .pointer (some ⟨B + 1 + 1, 0, none⟩)]
/-- What a step that writes captures: the slot's disk and where it begins, the block's place there, the bytes. -/
structure WrAt (u : World) (B q : Nat) (b : Int) (d : ByteArray) : Prop where
  ex : ∃ (a k g i : Int), u.heap[B]? = some (.cells #[.pointer (some ⟨q, 0, none⟩), .int .i64 a, .int .i64 k, .int .u64 g] 138 (0, 0)) ∧ u.heap[B + 1]? = some (.cells #[.int .i64 i] 3 (0, 0)) ∧ b = a + i ∧ wrap64 (a + i) = a + i
  data : u.heap[B + 1 + 1]? = some (.cells (tc d).toArray 89 (0, 0))
  size : d.size = 256
theorem WrAt.lt {u : World} {B q : Nat} {b : Int} {d : ByteArray} (h : WrAt u B q b d) : B + 1 + 1 < u.heap.size := (Array.getElem?_eq_some_iff.1 h.data).1
theorem WrAt.same {u v : World} {B q : Nat} {b : Int} {d : ByteArray} (h : WrAt u B q b d) (h0 : v.heap[B]? = u.heap[B]?) (h1 : v.heap[B + 1]? = u.heap[B + 1]?) (h2 : v.heap[B + 1 + 1]? = u.heap[B + 1 + 1]?) : WrAt v B q b d := by
  obtain ⟨a, k, g, i, e0, e1, e2⟩ := h.ex
  exact ⟨⟨a, k, g, i, h0.trans e0, h1.trans e1, e2⟩, h2.trans h.data, h.size⟩
theorem WrAt.below {u v : World} {B q : Nat} {b : Int} {d : ByteArray} (h : WrAt u B q b d) (hb : Below u.heap.size u v) : WrAt v B q b d := by
  have hl := h.lt
  exact h.same (hb.block _ (by omega)) (hb.block _ (by omega)) (hb.block _ hl)
theorem WrAt.loc {F F' : Nat → Prop} {u v : World} {B q : Nat} {b : Int} {d : ByteArray} (h : WrAt u B q b d) (hl : Loc F F' u v) (h0 : ¬ F B) (h1 : ¬ F (B + 1)) (h2 : ¬ F (B + 1 + 1)) : WrAt v B q b d := by
  have hlt := h.lt
  exact h.same (hl.block _ (by omega) h0) (hl.block _ (by omega) h1) (hl.block _ hlt h2)
set_option maxRecDepth 10000 in
set_option maxHeartbeats 1000000 in
theorem writing_any (q : Nat) (a k g i : Int) (d : ByteArray) (w : World) (hd : d.size = 256) (hw : wrap64 (a + i) = a + i) :
    Calls Tryz.prog 109 #[.agg #[.pointer (some ⟨q, 0, none⟩), .int .i64 a, .int .i64 k, .int .u64 g], .int .i64 i, .agg (tc d).toArray] w fun e w' => e = .returned (wrV w.heap.size) ∧ WrAt w' w.heap.size q (a + i) d ∧ Below w.heap.size w w' ∧ w'.heap.size = w.heap.size + 3 := by
  have hx : WrAt (((w.alloc (.cells #[.pointer (some ⟨q, 0, none⟩), .int .i64 a, .int .i64 k, .int .u64 g] 138)).alloc (.cells #[.int .i64 i] 3)).alloc (.cells (tc d).toArray 89)) w.heap.size q (a + i) d := by
    have e2 := heap_alloc_last ((w.alloc (.cells #[.pointer (some ⟨q, 0, none⟩), .int .i64 a, .int .i64 k, .int .u64 g] 138)).alloc (.cells #[.int .i64 i] 3)) (.cells (tc d).toArray 89)
    have e1 := heap_alloc_last (w.alloc (.cells #[.pointer (some ⟨q, 0, none⟩), .int .i64 a, .int .i64 k, .int .u64 g] 138)) (.cells #[.int .i64 i] 3)
    have e0 := heap_alloc_last w (.cells #[.pointer (some ⟨q, 0, none⟩), .int .i64 a, .int .i64 k, .int .u64 g] 138)
    have s1 : (w.alloc (.cells #[.pointer (some ⟨q, 0, none⟩), .int .i64 a, .int .i64 k, .int .u64 g] 138)).heap.size = w.heap.size + 1 := by simp
    have s2 : ((w.alloc (.cells #[.pointer (some ⟨q, 0, none⟩), .int .i64 a, .int .i64 k, .int .u64 g] 138)).alloc (.cells #[.int .i64 i] 3)).heap.size = w.heap.size + 1 + 1 := by simp
    rw [s1] at e1
    rw [s2] at e2
    refine ⟨⟨a, k, g, i, ?_, ?_, rfl, hw⟩, e2, hd⟩
    · exact (Below.heap_alloc _ _ _ (by rw [s2]; omega)).trans ((Below.heap_alloc _ _ _ (by rw [s1]; omega)).trans e0)
    · exact (Below.heap_alloc _ _ _ (by rw [s2]; omega)).trans e1
  have HX := hide hx
  have HB : Hid (Below w.heap.size w (((w.alloc (.cells #[.pointer (some ⟨q, 0, none⟩), .int .i64 a, .int .i64 k, .int .u64 g] 138)).alloc (.cells #[.int .i64 i] 3)).alloc (.cells (tc d).toArray 89))) := ((two_below w _ _).alloc (by simp; omega) _)
  have HS : Hid ((((w.alloc (.cells #[.pointer (some ⟨q, 0, none⟩), .int .i64 a, .int .i64 k, .int .u64 g] 138)).alloc (.cells #[.int .i64 i] 3)).alloc (.cells (tc d).toArray 89)).heap.size = w.heap.size + 3) := by simp [Hid]
  clear hx hw
  generalize (tc d).toArray = D at *
  go_enter Tryz.func109, Tryz.ntmps109
  go_wp2
  go_ret
  exact ⟨rfl, HX.out, HB.out, HS.out⟩
set_option maxRecDepth 10000 in
set_option maxHeartbeats 1000000 in
theorem writing1_any (B q : Nat) (b : Int) (d : ByteArray) (st : St) (F : Nat → Prop) (w : World) (h : WrAt w B q b d) (hD : DAt w q st F) (hok : st.Ok) (hl : st.loose.length ≤ 10000) (hb : -9223372036854775808 ≤ b ∧ b ≤ 9223372036854775807) :
    Calls Tryz.prog 130 #[.pointer (some ⟨B, 0, none⟩), .pointer (some ⟨B + 1, 0, none⟩), .pointer (some ⟨B + 1 + 1, 0, none⟩)] w fun e v => e = .returned (.int .i64 (((st.write b d).1 : Nat) : Int)) ∧ ∃ F', DAt v q (st.write b d).2 F' ∧ Loc F F' w v := by
  obtain ⟨a, k, g, i, e0, e1, e2, e3⟩ := h.ex
  have e4 := h.data
  have c0 : w.cell? ⟨B, 0, none⟩ = some (.pointer (some ⟨q, 0, none⟩)) := by simp [World.cell?, e0]
  have c1 : w.cell? ⟨B, 1, none⟩ = some (.int .i64 a) := by simp [World.cell?, e0]
  have c2 : w.cell? ⟨B + 1, 0, none⟩ = some (.int .i64 i) := by simp [World.cell?, e1]
  have hD1 : DAt w.drew q st F := con.same hD (fun _ _ => rfl)
  have HC := hide (con.write q st F b d w.drew hD1 hok hl hb (by rw [h.size]; omega))
  have hcv : (convert 77 9 (.slice (some ⟨B + 1 + 1, 0, none⟩) 256 256)).run Tryz.prog w.drew = .ok (.string d) w.drew := by
    have := run_convert_bytes_back w.drew 77 9 5 ⟨B + 1 + 1, 0, none⟩ 256 d.data.toList Tryz.underlying77 Tryz.underlying5 Tryz.underlying9 (fun j hj => by
      rw [add_at]
      have e4' : w.drew.heap[B + 1 + 1]? = some (.cells (tc d).toArray 89 (0, 0)) := e4
      have hj' : j < d.data.size := by simpa using hj
      simp only [World.cell?, e4']
      simp [tc, Lib.byteCells]
      exact ⟨_, Array.getElem?_eq_getElem hj', rfl⟩)
    have hsz : d.data.toList.length = 256 := by rw [← h.size]; simp
    rw [hsz] at this
    exact this
  have d0 : w.drew.cell? ⟨B, 0, none⟩ = some (.pointer (some ⟨q, 0, none⟩)) := c0
  have d1 : w.drew.cell? ⟨B, 1, none⟩ = some (.int .i64 a) := c1
  have d2 : w.drew.cell? ⟨B + 1, 0, none⟩ = some (.int .i64 i) := c2
  subst e2
  have e5 : IntKind.i64.wrap (a + i) = a + i := by
    rw [IntKind.wrap_i64]
    unfold wrap64 at e3
    exact e3
  clear e0 e1 e4 h hb hD hD1
  go_enter Tryz.func130, Tryz.ntmps130
  go_wp2_with fail
  go_region_law (first
      | (go_simp; go_at_call 34; refine (HC.out).mono ?_; rintro e z1 ⟨rfl, F1, hd1, hl1⟩))
  all_goals
    have HE : Hid (DAt z1 q (st.write (a + i) d).2 F1) := hd1
    have HL : Hid (Loc F F1 w z1) := hl1.undrew
    clear hd1 hl1 c0 c1 c2 d0 d1 d2 hcv
    go_wp2
    go_ret
    exact ⟨rfl, F1, HE.out, HL.out⟩
end Go.Proofs.YtchhojkhfdkhfaaGreatDoor
