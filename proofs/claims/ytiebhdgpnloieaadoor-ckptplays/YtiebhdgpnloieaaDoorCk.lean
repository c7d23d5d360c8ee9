/- The program's checkpoints: what stands in a slot's blocks. -/
import Derived.Test.YtiebhdgpnloieaaDoorCb
import Derived.Test.YtiebhdgpnloieaaDoorReg
import Derived.Test.YtiebhdgpnloieaaDoorRCon
namespace Go.Proofs.YtiebhdgpnloieaaDoor
open Go Go.RowKit Frm
/-- A list of texts that the call owns. -/
def OwnL (w : World) (base : Nat) (v : Value) (l : List ByteArray) : Prop := w.ownsRow base 9 1 v l.length (l.map Value.string)
theorem OwnL.below {w w' : World} {base : Nat} {v : Value} {l : List ByteArray} (h : OwnL w base v l) (hb : Below w.heap.size w w') : OwnL w' base v l := own_same h (fun j hj => hb.block j (own_lt h hj))
theorem OwnL.slice {w : World} {base : Nat} {v : Value} {l : List ByteArray} (h : OwnL w base v l) : ∃ a c, v = .slice a l.length c := by
  obtain ⟨a, c, h1, _⟩ := slice_of h
  exact ⟨a, c, h1⟩
theorem map_snoc (l : List ByteArray) (t : ByteArray) : l.map Value.string ++ [.string t] = (l ++ [t]).map Value.string := by rw [List.map_append]; rfl
/-- A block's cells of a list of texts, at an address. -/
theorem OwnL.at {w : World} {base g c : Nat} {l : List ByteArray} (h : OwnL w base (.slice (some ⟨g, 0, none⟩) l.length c) l) (j : Nat) (hj : j < l.length) : w.cell? ⟨g, j, none⟩ = some (.string l[j]) := by
  have hx := World.ownsRow.cells h (g := g) rfl j (.string l[j]) (by rw [List.getElem?_map, List.getElem?_eq_getElem hj]; rfl)
  rw [add_at] at hx
  exact hx
theorem OwnL.form {w : World} {base : Nat} {v : Value} {l : List ByteArray} (h : OwnL w base v l) (hn : 0 < l.length) : ∃ g c, v = .slice (some ⟨g, 0, none⟩) l.length c ∧ l.length ≤ c ∧ g < w.heap.size := by
  rcases h.2 with ⟨_, h0⟩ | ⟨g, cap, cur, rfl, h1, hg, hr, _⟩
  · omega
  · exact ⟨g, cap, rfl, hr, (Array.getElem?_eq_some_iff.1 hg).1⟩
theorem blocksAt_length (st : St) (a k : Nat) : (blocksAt st a k).length = k := by unfold blocksAt; simp
theorem blocksAt_succ (st : St) (a k : Nat) : blocksAt st a (k + 1) = blocksAt st a k ++ [stands st.sure (a + k) st.loose.reverse] := by unfold blocksAt; rw [List.range_succ, List.map_append]; rfl
theorem blocksAt_full {st : St} (h : st.Ok) (a k : Nat) (hk : a + k ≤ st.sure.length) : ∀ t ∈ blocksAt st a k, t.size = 256 := fun t ht => by
  unfold blocksAt at ht
  obtain ⟨i, hi, rfl⟩ := List.mem_map.1 ht
  rw [List.mem_range] at hi
  exact stands_size h.full (by omega) _ (fun w hw => (h.there w (List.mem_reverse.1 hw)).2)
theorem read_at {st : St} (b : Nat) (hb : b < st.sure.length) (h0 : st.left ≠ 0) : st.read (b : Int) = (stands st.sure b st.loose.reverse, 0) := by
  unfold St.read
  rw [if_neg h0, if_neg (by omega)]
  rfl
set_option maxRecDepth 10000 in
set_option maxHeartbeats 2000000 in
theorem slotRead_any (q a N : Nat) (gi : Int) (st : St) (F : Nat → Prop) (w : World) (hD : DAt w q st F) (hok : st.Ok) (hl : st.loose.length ≤ 10000) (hN : a + N ≤ st.sure.length) (h0 : st.left ≠ 0) :
    Calls Tryd.prog 43 #[.agg #[.pointer (some ⟨q, 0, none⟩), .int .i64 (a : Int), .int .i64 (N : Int), .int .u64 gi]] w fun e w' => ∃ v, e = .returned (.tuple #[v, .int .i64 0]) ∧ OwnL w' w.heap.size v (blocksAt st a N) ∧ Below w.heap.size w w' := by
  obtain ⟨i0, hi, hz0, hz1, hz2⟩ := info_parts (P := Tryd.prog) (e := 9) (z := .string ⟨#[]⟩) (size := 1) (bytes := 16) (by kernel_rfl)
  have HI := hide (And.intro hi (And.intro hz0 (And.intro hz1 hz2)))
  clear hi hz0 hz1 hz2
  have hfew := hok.few
  have hF := con.lt hD
  have HR : Hid (∀ k u, k < N → Below w.heap.size w u → Calls Tryd.prog 63 #[.pointer (some ⟨q, 0, none⟩), .int .i64 ((a : Int) + (k : Int))] u fun e v => e = .returned (.tuple #[.string (stands st.sure (a + k) st.loose.reverse), .int .i64 0]) ∧ Below u.heap.size u v) := fun k u hk hb => by
    rw [show (a : Int) + (k : Int) = ((a + k : Nat) : Int) from by omega]
    have := con.read q st F ((a + k : Nat) : Int) u (con.same hD (fun j hj => hb.block j (hF j hj))) hok hl (by omega)
    rw [read_at (a + k) (by omega) h0] at this
    exact this
  have hb0 := one_below w (.cells #[.pointer (some ⟨q, 0, none⟩), .int .i64 (a : Int), .int .i64 (N : Int), .int .u64 gi] 84)
  have HC0 := hide (heap_alloc_last w (.cells #[.pointer (some ⟨q, 0, none⟩), .int .i64 (a : Int), .int .i64 (N : Int), .int .u64 gi] 84))
  have HB0 := hide hb0
  have HLt : Hid (w.heap.size < (w.alloc (.cells #[.pointer (some ⟨q, 0, none⟩), .int .i64 (a : Int), .int .i64 (N : Int), .int .u64 gi] 84)).heap.size) := by unfold Hid; simp
  have HN := hide hN
  clear hD hok hl hN hF hb0
  go_enter Tryd.func43, Tryd.ntmps43
  go_wp2_with fail
  generalize w.alloc (.cells #[.pointer (some ⟨q, 0, none⟩), .int .i64 (a : Int), .int .i64 (N : Int), .int .u64 gi] 84) = W at *
  go_loopw [4, 5, 6, 7, 11] (fun lv _ _ _ i wr => ∃ k : Nat, k ≤ N ∧ i = .int .i64 (k : Int) ∧ OwnL wr w.heap.size lv (blocksAt st a k) ∧ wr.heap[w.heap.size]? = some (.cells #[.pointer (some ⟨q, 0, none⟩), .int .i64 (a : Int), .int .i64 (N : Int), .int .u64 gi] 84 (0, 0)) ∧ Below w.heap.size w wr) (fun _ _ _ _ i _ => N - (intOf i).toNat)
  case atStart => exact ⟨0, Nat.zero_le _, rfl, World.ownsRow_nil _ _ _ _, HC0.out, HB0.out⟩
  case round =>
    obtain ⟨k, hk, rfl, hown, hcl, hb⟩ := hrel
    have HO := hide hown
    have HB := hide hb
    have HCl := hide hcl
    by_cases hlt : k < N
    · have hz : (k : Int) < (N : Int) := by omega
      have hw : wrap64 ((a : Int) + (k : Int)) = (a : Int) + (k : Int) := by unfold wrap64; have := HN.out; omega
      have KR := hide (HR.out k wr hlt HB.out)
      have c0 : wr.cell? ⟨w.heap.size, 0, none⟩ = some (.pointer (some ⟨q, 0, none⟩)) := by simp [World.cell?, hcl]
      have c1 : wr.cell? ⟨w.heap.size, 1, none⟩ = some (.int .i64 (a : Int)) := by simp [World.cell?, hcl]
      have hkl := blocksAt_length st a k
      have HT := hide (blocksAt_succ st a k)
      generalize stands st.sure (a + k) st.loose.reverse = t at *
      generalize blocksAt st a k = pre at *
      clear hown hcl hb
      go_wp2_with fail
      refine KR.out.mono ?_
      rintro e w1 ⟨rfl, hb1⟩
      have HO1 := hide (HO.out.below hb1)
      have HB1 := hide (HB.out.trans (hb1.mono HB.out.size))
      have hlt0 : w.heap.size < wr.heap.size := (Array.getElem?_eq_some_iff.1 HCl.out).1
      have HCl1 := hide ((hb1.block _ hlt0).trans HCl.out)
      have hkN : k ≤ 4096 := by have := HN.out; omega
      clear hb1 hlt0 c0 c1 KR HO HB HCl
      obtain ⟨a0, c0, rfl⟩ := HO1.out.slice
      subst hkl
      go_wp2_with (at_builtin; refine wpList_append_lies _ rfl _ _ 41 rfl w.heap.size 9 i0 (.string ⟨#[]⟩) 1 16 Tryd.underlying41 HI.out.1 HI.out.2.1 HI.out.2.2.1 HI.out.2.2.2 rfl (by decide) _ _ _ rfl (World.ownsRow.alloc HO1.out _) ⟨w1.heap.size, 0, none⟩ 1 1 [.string t] rfl rfl ?c1 ?c2 (by decide) ?c3 ?c4 ?c5 (w1.heap.size + 1) (by simp) ?_)
      case c1 =>
        intro j u hj
        match j, hj with
        | 0, hj => simp at hj; subst hj; simp [Addr.add, go_sem]
      case c2 => first | rfl | (intro u hu; simp at hu; subst hu; rfl)
      case c3 => unfold maxLen; omega
      case c4 => omega
      case c5 => have := HB1.out.size; simp; omega
      · intro g cap w2 hown2 hgrow2 _ _
        have HO2 : Hid (OwnL w2 w.heap.size (.slice (some ⟨g, 0, none⟩) (pre.length + 1) cap) (pre ++ [t])) := by
          rw [map_snoc] at hown2
          unfold Hid OwnL; rw [List.length_append]; exact hown2
        have HB2 : Hid (Below w.heap.size w w2) := (HB1.out.alloc HB1.out.size _).grown hgrow2 (by have := HB1.out.size; simp; omega) (fun k e => (World.ownsRow.lt HO1.out k e).1)
        have HCl2 : Hid (w2.heap[w.heap.size]? = some (.cells #[.pointer (some ⟨q, 0, none⟩), .int .i64 (a : Int), .int .i64 (N : Int), .int .u64 gi] 84 (0, 0))) := by
          have hl1 : w.heap.size < w1.heap.size := (Array.getElem?_eq_some_iff.1 HCl1.out).1
          refine (hgrow2.block _ (by simp; omega) (fun e => ?_)).trans ((Below.heap_alloc w1 _ _ hl1).trans HCl1.out)
          obtain ⟨cur, hc⟩ := row_type HO1.out e.symm
          rw [HCl1.out] at hc
          cases hc
        clear hown2 hgrow2
        go_wp2
        go_roundw
        case rel => exact ⟨pre.length + 1, hlt, by go_num, by rw [HT.out]; exact HO2.out, HCl2.out, HB2.out⟩
        case measure => simp [intOf]; omega
    · have hke : k = N := by omega
      subst hke
      have hz : ¬ ((k : Int) < (k : Int)) := by omega
      clear hcl hown hb
      go_wp2
      go_ret2
      exact ⟨_, rfl, HO.out, HB.out⟩
set_option maxRecDepth 10000 in
set_option maxHeartbeats 2000000 in
theorem slotRead_down (q : Nat) (a N : Int) (gi : Int) (st : St) (F : Nat → Prop) (w : World) (hD : DAt w q st F) (hok : st.Ok) (hl : st.loose.length ≤ 10000) (ha : 0 ≤ a ∧ a ≤ 9000) (hN : 1 ≤ N ∧ N ≤ 9000) (h0 : st.left = 0) :
    Calls Tryd.prog 43 #[.agg #[.pointer (some ⟨q, 0, none⟩), .int .i64 a, .int .i64 N, .int .u64 gi]] w fun e w' => e = .returned (.tuple #[.slice none 0 0, .int .i64 50]) ∧ Below w.heap.size w w' := by
  have hF := con.lt hD
  have hb0 := one_below w (.cells #[.pointer (some ⟨q, 0, none⟩), .int .i64 a, .int .i64 N, .int .u64 gi] 84)
  have HR : Hid (Calls Tryd.prog 63 #[.pointer (some ⟨q, 0, none⟩), .int .i64 a] (w.alloc (.cells #[.pointer (some ⟨q, 0, none⟩), .int .i64 a, .int .i64 N, .int .u64 gi] 84)) fun e v => e = .returned (.tuple #[.string noText, .int .i64 50]) ∧ Below (w.alloc (.cells #[.pointer (some ⟨q, 0, none⟩), .int .i64 a, .int .i64 N, .int .u64 gi] 84)).heap.size (w.alloc (.cells #[.pointer (some ⟨q, 0, none⟩), .int .i64 a, .int .i64 N, .int .u64 gi] 84)) v) := by
    have := con.read q st F a _ (con.same hD (fun j hj => hb0.block j (hF j hj))) hok hl (by omega)
    have e : st.read a = (noText, 50) := by unfold St.read; rw [if_pos h0]
    rw [e] at this
    exact this
  have HB0 := hide hb0
  have c0 := new_cell w #[.pointer (some ⟨q, 0, none⟩), .int .i64 a, .int .i64 N, .int .u64 gi] 84 0 rfl
  have c1 := new_cell w #[.pointer (some ⟨q, 0, none⟩), .int .i64 a, .int .i64 N, .int .u64 gi] 84 1 rfl
  have hw : wrap64 a = a := by unfold wrap64; omega
  have hz : (0 : Int) < N := by omega
  clear hD hok hl hF hb0 h0 hN ha
  go_enter Tryd.func43, Tryd.ntmps43
  go_wp2_with fail
  generalize w.alloc (.cells #[.pointer (some ⟨q, 0, none⟩), .int .i64 a, .int .i64 N, .int .u64 gi] 84) = W at *
  go_loopw [4, 5, 6, 7, 11] (fun lv _ _ _ i wr => i = .int .i64 0 ∧ lv = .slice none 0 0 ∧ wr = W) (fun _ _ _ _ _ _ => 0)
  case atStart => exact ⟨rfl, rfl, rfl⟩
  case round =>
    obtain ⟨rfl, rfl, hwr⟩ := hrel
    obtain rfl := hwr.symm
    clear hwr
    go_wp2_with fail
    refine HR.out.mono ?_
    rintro e w1 ⟨rfl, hb1⟩
    have HB1 := hide (bnext HB0.out hb1)
    clear hb1 HR
    go_wp2
    go_ret2
    exact ⟨rfl, HB1.out⟩
end Go.Proofs.YtiebhdgpnloieaaDoor
