/- The document's own log: stream. The document's own log: a block of a stream. The document's own log: Open. The document's own log: Append. -/
import Derived.Test.YtelkccfjeinlcaaGForm
import Derived.Test.YtelkccfjeinlcaaG1Small
import Derived.Test.YtelkccfjeinlcaaG1ReadOn
import Derived.Test.YtelkccfjeinlcaaGOpen
import Derived.Test.YtelkccfjeinlcaaGTail
import Derived.Test.YtelkccfjeinlcaaGAlive
namespace Go.Proofs.Ytelkccfjeinlcaa
open Go Go.RowKit Frm
/-- Are all counts full? -/
def fulls (l : List ByteArray) : Bool := l.all fun b => decide (¬ countOf b < 255)
theorem fulls_snoc (l : List ByteArray) (b : ByteArray) : fulls (l ++ [b]) = (fulls l && decide (¬ countOf b < 255)) := by unfold fulls; simp
theorem streamOf_snoc : ∀ (l : List ByteArray) (b : ByteArray), streamOf (l ++ [b]) = if fulls l = true then streamOf l ++ b.extract 0 (countOf b) else streamOf l
  | [], b => by
    show (if countOf b < 255 then _ else _ ++ noText) = noText ++ _
    have e : b.extract 0 (countOf b) ++ noText = b.extract 0 (countOf b) := Frm.append_nil _
    rw [e, show noText ++ b.extract 0 (countOf b) = b.extract 0 (countOf b) from Frm.nil_append _]
    split <;> rfl
  | c :: l, b => by
    have ih := streamOf_snoc l b
    show (if countOf c < 255 then _ else _ ++ streamOf (l ++ [b])) = _
    by_cases h : countOf c < 255
    · have e : fulls (c :: l) = false := by
        show (decide (¬ countOf c < 255) && fulls l) = false
        rw [decide_eq_false (fun hh => hh h)]; rfl
      rw [if_pos h, e]
      show _ = streamOf (c :: l)
      unfold streamOf
      rw [if_pos h]
    · have e : fulls (c :: l) = fulls l := by
        show (decide (¬ countOf c < 255) && fulls l) = _
        rw [decide_eq_true h]; rfl
      rw [if_neg h, e, ih]
      have e2 : streamOf (c :: l) = c.extract 0 (countOf c) ++ streamOf l := by
        show (if countOf c < 255 then _ else _) = _
        rw [if_neg h]
      rw [e2]
      split
      · rw [ByteArray.append_assoc]
      · rfl
theorem streamOf_size (l : List ByteArray) (h : ∀ b ∈ l, b.size = 256) : (streamOf l).size ≤ l.length * 255 := by
  rw [← heads_upTo]
  have h1 := heads_size (upTo l) (fun b hb => h b (by rw [upTo_prefix] at hb; exact List.mem_of_mem_take hb))
  exact Nat.le_trans h1 (Nat.mul_le_mul_right 255 (upTo_le l))
theorem not_short (c : Nat) : (!decide (255 ≤ c)) = decide ((c : Int) < 255) := by
  by_cases h : c < 255
  · rw [decide_eq_false (by omega), decide_eq_true (by omega)]; rfl
  · rw [decide_eq_true (by omega), decide_eq_false (by omega)]; rfl
set_option maxRecDepth 10000 in
set_option maxHeartbeats 2000000 in
theorem rStream (p o N : Nat) (st : St) (F : Nat → Prop) (w : World) (hD : RD w p st F) (hok : st.Ok) (hl : st.loose.length ≤ 100000) (hN : o + N ≤ st.sure.length) (h0 : st.left ≠ 0) :
    Calls Try.prog 55 #[.pointer (some ⟨p, 0, none⟩), .int .i64 (o : Int), .int .i64 (N : Int)] w fun e w' => ∃ v, e = .returned (.tuple #[.string (streamOf (reads st o N)), v, .int .i64 0]) ∧ OwnL w' w.heap.size v (reads st o N) ∧ Below w.heap.size w w' := by
  have hfew := hok.few
  obtain ⟨i0, hi, hz0, hz1, hz2⟩ := info_parts (P := Try.prog) (e := 9) (z := .string ⟨#[]⟩) (size := 1) (bytes := 16) (by kernel_rfl)
  have HI := hide (And.intro hi (And.intro hz0 (And.intro hz1 hz2)))
  clear hi hz0 hz1 hz2
  have hN4 : N ≤ 4096 := by omega
  have ho4 : o ≤ 4096 := by omega
  have HR : Hid (∀ k u, k < N → Below w.heap.size w u → Calls Try.prog 78 #[.pointer (some ⟨p, 0, none⟩), .int .i64 ((o + k : Nat) : Int)] u fun e v => e = .returned (.tuple #[.string (st.at (o + k)), .int .i64 0]) ∧ v = u) := fun k u hk hb => by
    have := rd_read p st F ((o + k : Nat) : Int) u (hD.below hb) hok hl
    rw [read_in (o + k) (by omega) h0] at this
    exact this
  have HS : Hid (∀ k, k < N → (st.at (o + k)).size = 256) := fun k hk => at_size hok _ (by omega)
  have hlen := reads_length st o N
  have HAT : Hid (∀ k, k < N → (reads st o N).take (k + 1) = (reads st o N).take k ++ [st.at (o + k)]) := fun k hk => by rw [List.take_succ_eq_append_getElem (by omega), reads_at]
  have HTL : Hid (∀ k, k ≤ N → ((reads st o N).take k).length = k) := fun k hk => by rw [List.length_take]; omega
  have HSZ : Hid (∀ k, k ≤ N → (streamOf ((reads st o N).take k)).size ≤ 4096 * 255) := fun k hk => by
    have h1 := streamOf_size ((reads st o N).take k) (fun b hb => by
      obtain ⟨i, hi, rfl⟩ := List.getElem_of_mem (List.mem_of_mem_take hb)
      rw [reads_at]
      exact at_size hok _ (by rw [hlen] at hi; omega))
    rw [HTL.out k hk] at h1
    omega
  have HLN := hide hlen
  have HAll : Hid ((reads st o N).take N = reads st o N) := List.take_of_length_le (by rw [hlen]; exact Nat.le_refl _)
  clear hD hok hl hN hlen
  go_enter Try.func55, Try.ntmps55
  go_wp2_with fail
  go_loopw [9, 10, 11, 12, 13, 14, 15] (fun sv lv en i _ _ _ wr => ∃ k : Nat, k ≤ N ∧ i = .int .i64 (k : Int) ∧ sv = .string (streamOf ((reads st o N).take k)) ∧ en = .bool (!fulls ((reads st o N).take k)) ∧ OwnL wr w.heap.size lv ((reads st o N).take k) ∧ Below w.heap.size w wr) (fun _ _ _ i _ _ _ _ => N - (intOf i).toNat)
  case atStart => exact ⟨0, Nat.zero_le _, rfl, rfl, rfl, World.ownsRow_nil _ _ _ _, Below.refl _ _⟩
  case round =>
    obtain ⟨k, hk, rfl, rfl, rfl, hown, hb⟩ := hrel
    have HO := hide hown
    have HB := hide hb
    clear hown hb
    by_cases hlt : k < N
    · have hz : (k : Int) < (N : Int) := by omega
      have hw : wrap64 ((o : Int) + (k : Int)) = ((o + k : Nat) : Int) := by unfold wrap64; omega
      have hw2 : IntKind.i64.wrap ((k : Int) + 1) = (k : Int) + 1 := by rw [IntKind.wrap_i64]; omega
      have h256 := HS.out k hlt
      have HT := hide (HAT.out k hlt)
      have hkl := HTL.out k hk
      have hsz := HSZ.out k hk
      have KR := hide (HR.out k wr hlt HB.out)
      have HSn := hide (streamOf_snoc ((reads st o N).take k) (st.at (o + k)))
      have HFn := hide (fulls_snoc ((reads st o N).take k) (st.at (o + k)))
      have hgc := count_get (st.at (o + k)) h256
      have hcl := countOf_le (st.at (o + k))
      obtain ⟨a0, c0, rfl, -⟩ := HO.out.strs
      generalize hpre : (reads st o N).take k = pre at *
      have HTE : Hid (∀ m, m = k → (reads st o N).take (m + 1) = pre ++ [st.at (o + k)]) := fun m hm => by rw [hm]; exact HT.out
      clear HT hpre
      generalize st.at (o + k) = t at *
      subst hkl
      generalize hS : streamOf pre = S at *
      have HSS := hide hS
      clear hS
      cases hf : fulls pre with
      | true =>
        rw [hf] at HSn HFn
        have HSn2 : Hid (streamOf (pre ++ [t]) = S ++ t.extract 0 (countOf t)) := by have := HSn.out; rw [if_pos rfl] at this; exact this
        have hmx : S.size + countOf t ≤ maxLen := by unfold maxLen; omega
        go_wp2_with fail
        refine KR.out.mono ?_
        rintro e w1 ⟨rfl, hw1⟩
        obtain rfl := hw1.symm
        clear hw1
        go_wp2_with (at_builtin; refine wpList_append_lies _ rfl _ _ 43 rfl w.heap.size 9 i0 (.string ⟨#[]⟩) 1 16 Try.underlying43 HI.out.1 HI.out.2.1 HI.out.2.2.1 HI.out.2.2.2 rfl (by decide) _ _ _ rfl (World.ownsRow.alloc HO.out _) ⟨wr.heap.size, 0, none⟩ 1 1 [.string t] rfl rfl ?c1 ?c2 (by decide) ?c3 ?c4 ?c5 (wr.heap.size + 1) (by simp) ?_)
        case c1 =>
          intro j u hj
          match j, hj with
          | 0, hj => simp at hj; subst hj; simp [Addr.add, go_sem]
        case c2 => first | rfl | (intro u hu; simp at hu; subst hu; rfl)
        case c3 => unfold maxLen; omega
        case c4 => omega
        case c5 => have := HB.out.size; simp; omega
        · intro g cap w2 hown2 hgrow2 _ _
          have HO2 : Hid (OwnL w2 w.heap.size (.slice (some ⟨g, 0, none⟩) (pre.length + 1) cap) (pre ++ [t])) := by
            rw [map_snoc] at hown2
            unfold Hid OwnL; rw [List.length_append]; exact hown2
          have HB2 : Hid (Below w.heap.size w w2) := (HB.out.alloc HB.out.size _).grown hgrow2 (by have := HB.out.size; simp; omega) (fun k e => (World.ownsRow.lt HO.out k e).1)
          clear hown2 hgrow2
          generalize hcn : countOf t = cc at *
          have HCN := hide hcn
          clear hcn
          have hc0 : (0 : Int) ≤ (cc : Int) := by omega
          have hc1 : (cc : Int) ≤ (t.size : Int) := by omega
          have HFn2 : Hid ((!fulls (pre ++ [t])) = !(decide (255 ≤ cc))) := by rw [HFn.out, Bool.true_and]; exact congrArg (fun b => !b) (decide_eq_decide.2 (by omega))
          go_wp2
          go_roundw
          case rel => exact ⟨pre.length + 1, hlt, by go_num, by rw [HTE.out _ rfl, HSn2.out], by rw [HTE.out _ rfl, HFn2.out]; exact congrArg Value.bool (not_short cc).symm, by rw [HTE.out _ rfl]; exact HO2.out, HB2.out⟩
          case measure => simp [intOf]; omega
      | false =>
        rw [hf] at HSn HFn
        have HSn2 : Hid (streamOf (pre ++ [t]) = S) := by have := HSn.out; rw [if_neg (by simp)] at this; exact this
        go_wp2_with fail
        refine KR.out.mono ?_
        rintro e w1 ⟨rfl, hw1⟩
        obtain rfl := hw1.symm
        clear hw1
        go_wp2_with (at_builtin; refine wpList_append_lies _ rfl _ _ 43 rfl w.heap.size 9 i0 (.string ⟨#[]⟩) 1 16 Try.underlying43 HI.out.1 HI.out.2.1 HI.out.2.2.1 HI.out.2.2.2 rfl (by decide) _ _ _ rfl (World.ownsRow.alloc HO.out _) ⟨wr.heap.size, 0, none⟩ 1 1 [.string t] rfl rfl ?c1 ?c2 (by decide) ?c3 ?c4 ?c5 (wr.heap.size + 1) (by simp) ?_)
        case c1 =>
          intro j u hj
          match j, hj with
          | 0, hj => simp at hj; subst hj; simp [Addr.add, go_sem]
        case c2 => first | rfl | (intro u hu; simp at hu; subst hu; rfl)
        case c3 => unfold maxLen; omega
        case c4 => omega
        case c5 => have := HB.out.size; simp; omega
        · intro g cap w2 hown2 hgrow2 _ _
          have HO2 : Hid (OwnL w2 w.heap.size (.slice (some ⟨g, 0, none⟩) (pre.length + 1) cap) (pre ++ [t])) := by
            rw [map_snoc] at hown2
            unfold Hid OwnL; rw [List.length_append]; exact hown2
          have HB2 : Hid (Below w.heap.size w w2) := (HB.out.alloc HB.out.size _).grown hgrow2 (by have := HB.out.size; simp; omega) (fun k e => (World.ownsRow.lt HO.out k e).1)
          clear hown2 hgrow2
          have HFn2 : Hid ((!fulls (pre ++ [t])) = true) := by rw [HFn.out]; rfl
          go_wp2
          go_roundw
          case rel => exact ⟨pre.length + 1, hlt, by go_num, by rw [HTE.out _ rfl, HSn2.out], by rw [HTE.out _ rfl, HFn2.out], by rw [HTE.out _ rfl]; exact HO2.out, HB2.out⟩
          case measure => simp [intOf]; omega
    · have hkN : k = N := by omega
      subst hkN
      rw [HAll.out] at HO ⊢
      obtain ⟨a0, c0, rfl, -⟩ := HO.out.strs
      go_wp2
      go_ret3
      exact ⟨_, rfl, HO.out, HB.out⟩
set_option maxRecDepth 10000 in
set_option maxHeartbeats 1000000 in
theorem rStream_down (p o N : Nat) (st : St) (F : Nat → Prop) (w : World) (hD : RD w p st F) (hok : st.Ok) (hl : st.loose.length ≤ 100000) (ho : o ≤ 4096) (h1 : 1 ≤ N) (h0 : st.left = 0) :
    Calls Try.prog 55 #[.pointer (some ⟨p, 0, none⟩), .int .i64 (o : Int), .int .i64 (N : Int)] w fun e w' => e = .returned (.tuple #[.string ⟨#[]⟩, .slice none 0 0, .int .i64 50]) ∧ w' = w := by
  have KR : Hid (Calls Try.prog 78 #[.pointer (some ⟨p, 0, none⟩), .int .i64 (o : Int)] w fun e v => e = .returned (.tuple #[.string ⟨#[]⟩, .int .i64 50]) ∧ v = w) := by
    have := rd_read p st F (o : Int) w hD hok hl
    rw [read_down _ h0] at this
    exact this
  have hz : (0 : Int) < (N : Int) := by omega
  have hw : wrap64 (o : Int) = (o : Int) := by unfold wrap64; omega
  clear hD hok hl
  go_enter Try.func55, Try.ntmps55
  go_wp2_with fail
  go_loopw [9, 10, 11, 12, 13, 14, 15] (fun sv lv en i _ _ _ wr => i = .int .i64 0 ∧ wr = w) (fun _ _ _ _ _ _ _ _ => 0)
  case atStart => exact ⟨rfl, rfl⟩
  case round =>
    obtain ⟨rfl, hwr⟩ := hrel
    obtain rfl := hwr.symm
    clear hwr
    go_wp2_with fail
    refine KR.out.mono ?_
    rintro e w1 ⟨rfl, hw1⟩
    obtain rfl := hw1.symm
    go_wp2
    go_ret3
    exact ⟨rfl, rfl⟩
end Go.Proofs.Ytelkccfjeinlcaa
namespace Go.Proofs.Ytelkccfjeinlcaa
open Go Go.RowKit Frm
set_option maxRecDepth 10000 in
set_option maxHeartbeats 2000000 in
theorem rBlock_any (s : ByteArray) (k : Nat) (w : World) (hk : k ≤ 4096) (hs : s.size ≤ 281474976710656) :
    Calls Try.prog 57 #[.string s, .int .i64 (k : Int)] w fun e w' => e = .returned (.string (blkOf s k)) ∧ Below w.heap.size w w' := by
  have hcv := fun u t => run_bytes_of_string (P := Try.prog) u 9 65 5 t Try.underlying9 Try.underlying65 Try.underlying5
  obtain ⟨i0, hi, hz0, hz1, hz2⟩ := info_parts (P := Try.prog) (e := 5) (z := .int .u8 0) (size := 1) (bytes := 1) (by kernel_rfl)
  have HI := hide (And.intro hi (And.intro hz0 (And.intro hz1 hz2)))
  clear hi hz0 hz1 hz2
  obtain ⟨lo, hlo⟩ : ∃ lo, lo = min (k * 255) s.size := ⟨_, rfl⟩
  obtain ⟨hi, hhi⟩ : ∃ hi, hi = min (lo + 255) s.size := ⟨_, rfl⟩
  have hz3 : wrap64 ((k : Int) * 255) = (k : Int) * 255 := by unfold wrap64; omega
  have hm1 : min ((k : Int) * 255) (s.size : Int) = (lo : Int) := by omega
  have hz4 : wrap64 ((lo : Int) + 255) = (lo : Int) + 255 := by unfold wrap64; omega
  have hm2 : min ((lo : Int) + 255) (s.size : Int) = (hi : Int) := by omega
  have hz5 : (lo : Int) ≤ (hi : Int) := by omega
  have hz6 : (hi : Int) ≤ (s.size : Int) := by omega
  have HE := hide (blk_list s k lo hi hlo hhi)
  have hsz : (s.extract lo hi).size = hi - lo := by rw [ByteArray.size_extract]; omega
  have HG := hide (fun cap h => buf_start w (s.extract lo hi) cap h)
  have h255 : hi - lo ≤ 255 := by omega
  clear hlo hhi
  go_enter Try.func57, Try.ntmps57
  go_wp2_with fail
  have hG := HG.out (grownCap w (hi - lo) 0 5) (by rw [hsz]; exact grownCap_ge _ _ _ _)
  rw [hsz] at hG
  have HG1 := hide hG
  clear hG HG hcv
  generalize (w.alloc (.cells (bytesRow (s.extract lo hi) (grownCap w (hi - lo) 0 5)) 5 ((bytesRow (s.extract lo hi) (grownCap w (hi - lo) 0 5)).size, (bytesRow (s.extract lo hi) (grownCap w (hi - lo) 0 5)).size + 1))).drew = W at *
  generalize grownCap w (hi - lo) 0 5 = cap at *
  clear hsz hz5 hz6 hm1 hm2 hz3 hz4
  generalize (s.extract lo hi).data.toList = bs at *
  generalize s.extract lo hi = sx at *
  generalize hi - lo = n0 at *
  go_loopw [7] (fun bv wr => ∃ m : Nat, m ≤ 255 - n0 ∧ Buf w.heap.size w wr bv (n0 + m) (bl (bs ++ List.replicate m 0))) (fun bv _ => 255 - lenOf bv)
  case atStart => exact ⟨0, Nat.zero_le _, by simpa using HG1.out⟩
  case round =>
    obtain ⟨m, hm, hb⟩ := hrel
    have HB := hide hb
    obtain ⟨g, cap', rfl⟩ := hb.form
    have hB : w.heap.size ≤ wr.heap.size := hb.size
    clear hb
    have hnm : n0 + m ≤ 1000000 := by omega
    by_cases hlt : n0 + m < 255
    · have hz : ((n0 + m : Nat) : Int) < 255 := by omega
      go_wp2_with (at_builtin; refine wpList_append_buf (B := w.heap.size) (w0 := w) (u := wr) (v := .slice (some ⟨g, 0, none⟩) (n0 + m) cap') rfl (.tmp 29) (.tmp 30) 65 rfl Try.underlying65 i0 HI.out.1 HI.out.2.1 HI.out.2.2.1 HI.out.2.2.2 rfl 0 rfl HB.out hB hnm ?_)
      intro v' w1 hb1
      have e : bl (bs ++ List.replicate m 0) ++ [Value.int .u8 0] = bl (bs ++ List.replicate (m + 1) 0) := by
        have := bl_snoc (bs ++ List.replicate m 0) 0 (by decide)
        rw [List.replicate_succ', ← List.append_assoc]
        exact this
      rw [e] at hb1
      have HB1 := hide hb1
      obtain ⟨g1, cap1, rfl⟩ := hb1.form
      clear hb1 e
      go_wp2
      go_roundw
      case rel => exact ⟨m + 1, by omega, HB1.out⟩
      case measure => simp [lenOf]; omega
    · have hz : ¬ (((n0 + m : Nat) : Int) < 255) := by omega
      have hm2 : m = 255 - n0 := by omega
      have hby : ((n0 : Nat) : Int) % 256 = ((n0 : Nat) : Int) := by omega
      have hby2 : IntKind.u8.wrap ((n0 : Nat) : Int) = ((n0 : Nat) : Int) := by rw [IntKind.wrap_u8]; exact hby
      clear hby
      go_wp2_with (at_builtin; (refine wpList_append_buf (B := w.heap.size) (w0 := w) (u := wr) (v := .slice (some ⟨g, 0, none⟩) (n0 + m) cap') rfl (.tmp 32) (.tmp 35) 65 rfl Try.underlying65 i0 HI.out.1 HI.out.2.1 HI.out.2.2.1 HI.out.2.2.2 rfl ((n0 : Nat) : Int) rfl HB.out hB hnm ?_))
      intro v' w1 hb1
      rw [bl_snoc _ _ (by omega)] at hb1
      have hcv2 := buf_text hb1 65 9 Try.underlying65 Try.underlying9
      have hbel := hb1.below
      have HBel := hide hbel
      clear hb1 hbel
      go_wp2
      go_ret
      exact ⟨by rw [← HE.out, List.append_assoc]; rfl, HBel.out⟩
end Go.Proofs.Ytelkccfjeinlcaa
namespace Go.Proofs.Ytelkccfjeinlcaa
open Go Go.RowKit Frm
/-- The document's log in memory. -/
def RLAt (u : World) (p q o n : Nat) (s : ByteArray) (b : Bool) : Prop := u.heap[p]? = some (.cells #[.pointer (some ⟨q, 0, none⟩), .int .i64 (o : Int), .int .i64 (n : Int), .string s, .bool b] 49 (0, 0))
theorem RLAt.lt {u : World} {p q o n : Nat} {s : ByteArray} {b : Bool} (h : RLAt u p q o n s b) : p < u.heap.size := (Array.getElem?_eq_some_iff.1 h).1
theorem RLAt.same {u v : World} {p q o n : Nat} {s : ByteArray} {b : Bool} (h : RLAt u p q o n s b) (hv : v.heap[p]? = u.heap[p]?) : RLAt v p q o n s b := hv.trans h
def RNo (q : Nat) (st : St) (F : Nat → Prop) (w : World) (x : Int) (e : Ending) (w' : World) : Prop := e = .returned (.tuple #[.pointer none, .slice none 0 0, .int .i64 x]) ∧ ∃ F', RD w' q st F' ∧ Loc F F' w w'
def RHas (q o N : Nat) (s : ByteArray) (recs : List ByteArray) (st : St) (F : Nat → Prop) (w : World) (e : Ending) (w' : World) : Prop :=
  ∃ p a c F', e = .returned (.tuple #[.pointer (some ⟨p, 0, none⟩), .slice a recs.length c, .int .i64 0]) ∧ RLAt w' p q o N s false ∧ w.heap.size ≤ p ∧ StrsAt w' a recs ∧ RD w' q st F' ∧ Loc F F' w w' ∧ ¬ F' p ∧ ∀ b off, a = some ⟨b, off, none⟩ → w.heap.size ≤ b
def ROpened (q o N : Nat) (r : (Nat × ByteArray × List ByteArray) × St) (F : Nat → Prop) (w : World) (e : Ending) (w' : World) : Prop :=
  (r.1.1 = 0 ∧ RHas q o N r.1.2.1 r.1.2.2 r.2 F w e w') ∨ (r.1.1 ≠ 0 ∧ RNo q r.2 F w ((r.1.1 : Nat) : Int) e w')
theorem rScan (s : ByteArray) (l : List ByteArray) (g x : Nat) (hs : s.size ≤ 65536) (he : scn s = (l, g, x)) (u : World) : Calls Try.prog 56 #[.string s] u fun e w' => ∃ a c, e = .returned (.tuple #[.slice a l.length c, .int .i64 (g : Int), .int .i64 (x : Int)]) ∧ OwnL w' u.heap.size (.slice a l.length c) l ∧ Below u.heap.size u w' := by
  have h := refScan_any s u hs
  unfold Frm.Told at h
  rw [he] at h
  exact h
set_option maxRecDepth 10000 in
set_option maxHeartbeats 1000000 in
theorem rOpen_not (q : Nat) (o n : Int) (st : St) (F : Nat → Prop) (w : World) (hD : RD w q st F) (hok : st.Ok) (hmay : ¬ st.may o n) :
    Calls Try.prog 26 #[.pointer (some ⟨q, 0, none⟩), .int .i64 o, .int .i64 n] w (RNo q st F w 2) := by
  have KM := hide (rd_may q st F o n w hD hok.few)
  rw [decide_eq_false hmay] at KM
  have HD := hide hD
  clear hD hok hmay
  go_enter Try.func26, Try.ntmps26
  go_wp2_with fail
  refine KM.out.mono ?_
  rintro e w1 ⟨rfl, hw1⟩
  obtain rfl := hw1.symm
  go_wp2
  go_ret3
  exact ⟨rfl, F, HD.out, Loc.refl _ _⟩
set_option maxRecDepth 10000 in
set_option maxHeartbeats 1000000 in
theorem rOpen_down (q o N : Nat) (st : St) (F : Nat → Prop) (w : World) (hD : RD w q st F) (hok : st.Ok) (hl : st.loose.length ≤ 10000) (hN : o + N ≤ st.sure.length) (h1 : 1 ≤ N) (h0 : st.left = 0) :
    Calls Try.prog 26 #[.pointer (some ⟨q, 0, none⟩), .int .i64 (o : Int), .int .i64 (N : Int)] w (RNo q st F w 50) := by
  have hfew := hok.few
  have KM := hide (rd_may q st F (o : Int) (N : Int) w hD hfew)
  rw [decide_eq_true (show st.may (o : Int) (N : Int) by unfold St.may; omega)] at KM
  have KS := hide (rStream_down q o N st F w hD hok (by omega) (by omega) h1 h0)
  have HD := hide hD
  clear hD hok
  go_enter Try.func26, Try.ntmps26
  go_wp2_with fail
  refine KM.out.mono ?_
  rintro e w1 ⟨rfl, hw1⟩
  obtain rfl := hw1.symm
  go_wp2_with fail
  refine KS.out.mono ?_
  rintro e w1 ⟨rfl, hw1⟩
  obtain rfl := hw1.symm
  go_wp2
  go_ret3
  exact ⟨rfl, F, HD.out, Loc.refl _ _⟩
set_option maxRecDepth 10000 in
set_option maxHeartbeats 1000000 in
theorem rOpen_bad (q o N : Nat) (st : St) (F : Nat → Prop) (w : World) (hD : RD w q st F) (hok : st.Ok) (hl : st.loose.length ≤ 10000) (hN : o + N ≤ st.sure.length) (h1 : 1 ≤ N) (hN2 : N ≤ 200) (h0 : st.left ≠ 0) (hx : (scn (streamOf (reads st o N))).2.2 = 41 ∨ (scn (streamOf (reads st o N))).2.2 = 4) :
    Calls Try.prog 26 #[.pointer (some ⟨q, 0, none⟩), .int .i64 (o : Int), .int .i64 (N : Int)] w (RNo q st F w 60) := by
  have hfew := hok.few
  have KM := hide (rd_may q st F (o : Int) (N : Int) w hD hfew)
  rw [decide_eq_true (show st.may (o : Int) (N : Int) by unfold St.may; omega)] at KM
  have KS := hide (rStream q o N st F w hD hok (by omega) hN h0)
  have hsz : (streamOf (reads st o N)).size ≤ 65536 := by
    have h2 := streamOf_size (reads st o N) (fun b hb => by
      obtain ⟨i, hi, rfl⟩ := List.getElem_of_mem hb
      rw [reads_at]
      exact at_size hok _ (by rw [reads_length] at hi; omega))
    rw [reads_length] at h2
    omega
  obtain ⟨L, g, x, hsc⟩ : ∃ L g x, scn (streamOf (reads st o N)) = (L, g, x) := ⟨_, _, _, rfl⟩
  have KC := hide (rScan (streamOf (reads st o N)) L g x hsz hsc)
  rw [hsc] at hx
  have hx' : x = 41 ∨ x = 4 := hx
  have HD := hide hD
  clear hD hok hsz hx hsc
  generalize streamOf (reads st o N) = S at *
  rcases hx' with rfl | rfl
  all_goals
    go_enter Try.func26, Try.ntmps26
    go_wp2_with fail
    refine KM.out.mono ?_
    rintro e w1 ⟨rfl, hw1⟩
    obtain rfl := hw1.symm
    go_wp2_with fail
    refine KS.out.mono ?_
    rintro e w1 ⟨v1, rfl, hown1, hb1⟩
    have HB1 := hide hb1
    obtain ⟨a1, c1, rfl, -⟩ := hown1.strs
    clear hown1 hb1
    go_wp2_with fail
    refine (KC.out _).mono ?_
    rintro e w2 ⟨a2, c2, rfl, -, hb2⟩
    have HB2 := hide (bnext HB1.out hb2)
    clear hb2
    go_wp2
    go_ret3
    exact ⟨rfl, F, HD.out.below HB2.out, Loc.of_below _ HB2.out⟩
/-- Two rows of one's own, made since W0. -/
structure Two (W0 : World) (vc vw : Value) (cs ws : List ByteArray) (u : World) : Prop where
  below : Below W0.heap.size W0 u
  c : OwnL u W0.heap.size vc cs
  w : OwnL u W0.heap.size vw ws
  apart : ∀ k, OB vc k → ¬ OB vw k
theorem Two.swap {W0 : World} {vc vw : Value} {cs ws : List ByteArray} {u : World} (h : Two W0 vc vw cs ws u) : Two W0 vw vc ws cs u := ⟨h.below, h.w, h.c, fun k hk hc => h.apart k hc hk⟩
theorem Two.keep {W0 : World} {vc vw : Value} {cs ws : List ByteArray} {u v : World} (h : Two W0 vc vw cs ws u) (hb : Below u.heap.size u v) : Two W0 vc vw cs ws v := ⟨bnext h.below hb, h.c.below hb, h.w.below hb, h.apart⟩
theorem Two.drewN {W0 : World} {vc vw : Value} {cs ws : List ByteArray} {u : World} (h : Two W0 vc vw cs ws u) (n : Nat) : Two W0 vc vw cs ws (u.drewN n) := h.keep (below_drewN (Below.refl _ _) n)
theorem Two.grow {W0 : World} {vc vw : Value} {cs ws : List ByteArray} {u u' : World} {t : ByteArray} {g cap : Nat} (h : Two W0 vc vw cs ws u)
    (hown : u'.ownsRow W0.heap.size 9 1 (.slice (some ⟨g, 0, none⟩) (cs.length + 1) cap) (cs.length + 1) (cs.map Value.string ++ [.string t])) (hg : (u.alloc (.cells #[.string t] 9)).grownBy u' vc.ownBlock) (hat : vc.ownBlock = some g ∨ g = u.heap.size + 1) :
    Two W0 (.slice (some ⟨g, 0, none⟩) (cs.length + 1) cap) vw (cs ++ [t]) ws u' := by
  have hb : Below u.heap.size u (u.alloc (.cells #[.string t] 9)) := (Below.refl _ _).alloc (Nat.le_refl _) _
  have hs := h.below.size
  refine ⟨(h.below.trans (hb.mono hs)).grown hg (by simp; omega) (fun k e => own_ge h.c e), ?_, ?_, fun k hk hw => ?_⟩
  · rw [map_snoc] at hown
    unfold OwnL
    rw [List.length_append]
    exact hown
  · exact own_kept (h.w.below hb) (fun k hk => hg.block k (by have := own_lt0 (own_up h.w (fun _ _ => Nat.zero_le _)) hk; simp; omega) (fun e => h.apart k e.symm hk))
  · have e : g = k := by unfold OB at hk; simp [Value.ownBlock] at hk; exact hk
    subst e
    rcases hat with h1 | h1
    · exact h.apart g h1 hw
    · have := own_lt0 (own_up h.w (fun _ _ => Nat.zero_le _)) hw
      omega
theorem Two.growD {W0 : World} {vc vw : Value} {cs ws : List ByteArray} {u u' : World} {t : ByteArray} {g cap : Nat} (h : Two W0 vc vw cs ws u)
    (hown : u'.ownsRow W0.heap.size 9 1 (.slice (some ⟨g, 0, none⟩) (cs.length + 1) cap) (cs.length + 1) (cs.map Value.string ++ [.string t])) (hg : (u.alloc (.cells #[.string t] 9)).drew.grownBy u' vc.ownBlock) (hat : vc.ownBlock = some g ∨ g = u.heap.size + 1) :
    Two W0 (.slice (some ⟨g, 0, none⟩) (cs.length + 1) cap) vw (cs ++ [t]) ws u' := h.grow hown ⟨hg.os, hg.tape, hg.output, hg.size, hg.block⟩ hat
theorem newsOne (wr : World) (t : ByteArray) : ∀ (j : Nat) (u : Value), ([.string t] : List Value)[j]? = some u → (wr.alloc (.cells #[.string t] 9)).drew.cell? ((⟨wr.heap.size, 0, none⟩ : Addr).add j) = some u := by
  intro j u hj
  match j, hj with
  | 0, hj =>
    rw [List.getElem?_cons_zero] at hj
    cases hj
    have hb : (wr.alloc (.cells #[.string t] 9)).drew.heap[wr.heap.size]? = some (.cells #[.string t] 9) := heap_alloc_last wr (.cells #[.string t] 9)
    rw [add_at, cell_of_row _ _ _ _ _ _ hb]
    rfl
theorem oneOne (t : ByteArray) : ∀ u ∈ ([.string t] : List Value), u.oneCell' = true := fun u hu => by rw [List.mem_singleton.1 hu]; rfl
theorem range_snoc {α : Type} (f : Nat → α) (k : Nat) : (List.range (k + 1)).map f = (List.range k).map f ++ [f k] := by rw [List.range_succ, List.map_append]; rfl
theorem hat_of {v : Value} {g : Nat} {u : World} {ob : Obj} (h : v.ownBlock = some g ∨ g = (u.alloc ob).drew.heap.size) : v.ownBlock = some g ∨ g = u.heap.size + 1 := by
  rcases h with h | h
  · exact Or.inl h
  · refine Or.inr ?_
    rw [h]
    show (u.alloc ob).heap.size = _
    simp
theorem Clear.loc {F F' : Nat → Prop} {a : Option Addr} {u v : World} (hc : Clear F a) (hl : Loc F F' u v) (hlt : ∀ b off, a = some ⟨b, off, none⟩ → b < u.heap.size) : Clear F' a := fun b off e hf => by
  rcases hl.own b hf with h | h
  · exact hc b off e h
  · have := hlt b off e; omega
theorem own_form {u : World} {b : Nat} {v : Value} {l : List ByteArray} (h : OwnL u b v l) : ∃ a c, v = .slice a l.length c ∧ StrsAt u a l ∧ ∀ k off, a = some ⟨k, off, none⟩ → OB v k := by
  obtain ⟨a, c, rfl, hs⟩ := h.strs
  exact ⟨a, c, rfl, hs, fun k off e => by rw [e]; rfl⟩
set_option maxRecDepth 10000 in
set_option maxHeartbeats 4000000 in
theorem rOpen_good (q o N : Nat) (st : St) (F : Nat → Prop) (w : World) (L : List ByteArray) (g x : Nat) (hD : RD w q st F) (hok : st.Ok) (hl : st.loose.length + N + N ≤ 10000) (hN : o + N ≤ st.sure.length) (h1 : 1 ≤ N) (hN2 : N ≤ 200) (h0 : st.left ≠ 0) (hsc : scn (streamOf (reads st o N)) = (L, g, x)) (hx1 : x ≠ 41) (hx2 : x ≠ 4) (R : (Nat × ByteArray × List ByteArray) × St) (hR0 : (mended o N (fun i => st.at (o + i)) (kept (reads st o N)) st).1 ≠ 0 → R = (((mended o N (fun i => st.at (o + i)) (kept (reads st o N)) st).1, noText, []), (mended o N (fun i => st.at (o + i)) (kept (reads st o N)) st).2)) (hR1 : (mended o N (fun i => st.at (o + i)) (kept (reads st o N)) st).1 = 0 → R = ((0, kept (reads st o N), L), (mended o N (fun i => st.at (o + i)) (kept (reads st o N)) st).2)) :
    Calls Try.prog 26 #[.pointer (some ⟨q, 0, none⟩), .int .i64 (o : Int), .int .i64 (N : Int)] w (ROpened q o N R F w) := by
  have hfew := hok.few
  obtain ⟨i0, hi, hz0, hz1, hz2⟩ := info_parts (P := Try.prog) (e := 9) (z := .string ⟨#[]⟩) (size := 1) (bytes := 16) (by kernel_rfl)
  have HI := hide (And.intro hi (And.intro hz0 (And.intro hz1 hz2)))
  clear hi hz0 hz1 hz2
  have KM := hide (rd_may q st F (o : Int) (N : Int) w hD hfew)
  rw [decide_eq_true (show st.may (o : Int) (N : Int) by unfold St.may; omega)] at KM
  have KS := hide (rStream q o N st F w hD hok (by omega) hN h0)
  have hs256 : ∀ b ∈ reads st o N, b.size = 256 := fun b hb => by
    obtain ⟨i, hi, rfl⟩ := List.getElem_of_mem hb
    rw [reads_at]
    exact at_size hok _ (by rw [reads_length] at hi; omega)
  have hsz : (streamOf (reads st o N)).size ≤ 65536 := by
    have h2 := streamOf_size (reads st o N) hs256
    rw [reads_length] at h2
    omega
  have hgl : g ≤ (streamOf (reads st o N)).size := by
    have := (scn_bound _ (streamOf (reads st o N)) (Nat.le_refl _)).1
    rw [hsc] at this
    exact this
  have KC := hide (rScan (streamOf (reads st o N)) L g x hsz hsc)
  have HK : Hid (kept (reads st o N) = (streamOf (reads st o N)).extract 0 g) := by
    show kept (reads st o N) = _
    unfold kept
    rw [hsc]
  have HD := hide hD
  have HAt : Hid (∀ k (hk : k < N), (reads st o N)[k]'(by rw [reads_length]; exact hk) = st.at (o + k)) := fun k hk => reads_at st o N k _
  have H256 : Hid (∀ k, k < N → (st.at (o + k)).size = 256) := fun k hk => at_size hok _ (by omega)
  have HOk := hide hok
  have HLen := hide (reads_length st o N)
  have hx1z : ((x : Int) == 41) = false := by simp; omega
  have hx2z : ((x : Int) == 4) = false := by simp; omega
  have HR0 := hide hR0
  have HR1 := hide hR1
  have hgz : (g : Int) ≤ ((streamOf (reads st o N)).size : Int) := by omega
  clear hD hok hsc hs256 hx1 hx2 hR0 hR1
  go_enter Try.func26, Try.ntmps26
  go_wp2_with fail
  refine KM.out.mono ?_
  rintro e w1 ⟨rfl, hw1⟩
  obtain rfl := hw1.symm
  clear hw1
  go_wp2_with fail
  refine KS.out.mono ?_
  rintro e w1 ⟨v1, rfl, hown1, hb1⟩
  obtain ⟨a1, c1, rfl, hs1, ho1⟩ := own_form hown1
  have HO1 := hide hown1
  have HB1 := hide hb1
  clear hown1 hb1 hs1 ho1
  rw [HLen.out] at HO1 ⊢
  generalize hS : streamOf (reads st o N) = S at *
  go_wp2_with fail
  refine (KC.out _).mono ?_
  rintro e w2 ⟨a2, c2, rfl, hown2, hb2⟩
  have HO2 := hide hown2
  have HB1s := hide HB1.out.size
  have HB2 := hide (bnext HB1.out hb2)
  have HO1b := hide (HO1.out.below hb2)
  clear hown2 hb2 HO1 HB1 KC KS KM
  go_wp2_with fail
  rw [← HK.out]
  have HKs : Hid ((kept (reads st o N)).size ≤ 65536) := by
    show _ ≤ _
    rw [HK.out, ByteArray.size_extract]
    omega
  clear hS hgz hgl hsz
  generalize kept (reads st o N) = Kp at *
  go_loopw [15, 16, 17, 18] (fun vc vw i _ u => ∃ k : Nat, k ≤ N ∧ i = .int .i64 (k : Int) ∧ Two w2 vc vw ((List.range k).map fun i => recount (st.at (o + i)) Kp i) ((List.range k).map (blkOf Kp)) u) (fun _ _ i _ _ => N - (intOf i).toNat)
  case atStart => exact ⟨0, Nat.zero_le _, rfl, ⟨Below.refl _ _, World.ownsRow_nil _ _ _ _, World.ownsRow_nil _ _ _ _, fun k hk => absurd hk (OB_nil k)⟩⟩
  case round =>
    obtain ⟨k, hk, rfl, hT⟩ := hrel
    by_cases hlt : k < N
    · have hz : (k : Int) < (N : Int) := by omega
      have hw2 : IntKind.i64.wrap ((k : Int) + 1) = (k : Int) + 1 := by rw [IntKind.wrap_i64]; omega
      have hcl : ((List.range k).map fun i => recount (st.at (o + i)) Kp i).length = k := by simp
      have hwl : ((List.range k).map (blkOf Kp)).length = k := by simp
      have KB := hide (rBlock_any Kp k wr (by omega) (by have := HKs.out; omega))
      obtain ⟨a1', c1', e1, hs1⟩ := (HO1b.out.below (show Below w2.heap.size w2 wr from hT.below)).strs
      rw [HLen.out] at e1
      obtain ⟨q1, -, q2⟩ := Value.slice.inj e1
      clear e1
      subst q1 q2
      obtain ⟨b1, o1, rfl, hx⟩ : ∃ b1 o1, a1 = some ⟨b1, o1, none⟩ ∧ ∀ v, Below wr.heap.size wr v → v.cell? ⟨b1, o1 + k, none⟩ = some (.string (st.at (o + k))) := by
        rcases hs1 with h | ⟨b1, o1, e, h⟩
        · have := HLen.out; rw [h] at this; simp at this; omega
        · exact ⟨b1, o1, e, fun v hv => by
            have h3 := h k (by rw [HLen.out]; exact hlt)
            rw [reads_at] at h3
            exact cellB hv h3⟩
      have HX := hide hx
      have HT := hide hT
      have h256 := H256.out k hlt
      have hb256 := blkOf_size Kp k
      have HCn := hide (range_snoc (fun i => recount (st.at (o + i)) Kp i) k)
      have HWn := hide (range_snoc (blkOf Kp) k)
      have HRc : Hid (recount (st.at (o + k)) Kp k = (st.at (o + k)).extract 0 255 ++ (blkOf Kp k).extract 255 256) := rfl
      clear hx hs1 hT
      generalize (List.range k).map (fun i => recount (st.at (o + i)) Kp i) = cs at *
      generalize (List.range k).map (blkOf Kp) = ws at *
      generalize recount (st.at (o + k)) Kp k = rc at *
      generalize st.at (o + k) = t at *
      generalize blkOf Kp k = bb at *
      obtain ⟨ac, cc, rfl, -⟩ := HT.out.c.strs
      obtain ⟨aw, cw, rfl, -⟩ := HT.out.w.strs
      rw [hcl, hwl] at HT ⊢
      go_wp2_with fail
      refine KB.out.mono ?_
      rintro e u1 ⟨rfl, hb1⟩
      have HT1 := hide (HT.out.keep hb1)
      have hx1 := HX.out u1 hb1
      clear hb1
      have hlen1 : (t.extract 0 255).size = 255 := by rw [ByteArray.size_extract]; omega
      have hlen2 : (bb.extract 255 256).size = 1 := by rw [ByteArray.size_extract]; omega
      have HRow : Hid (u1.ownsRow w2.heap.size 9 1 (.slice ac k cc) k (cs.map Value.string)) := by
        have := HT1.out.c
        unfold OwnL at this
        rw [hcl] at this
        exact this
      have HSz : Hid (w2.heap.size ≤ u1.heap.size) := HT1.out.below.size
      go_wp2_with fail
      go_region_law ((refine step_append_lies _ (by rfl) _ _ _ (by rfl) w2.heap.size 9 i0 (.string ⟨#[]⟩) 1 16 Try.underlying43 HI.out.1 HI.out.2.1 HI.out.2.2.1 HI.out.2.2.2 rfl (by decide) (.slice ac k cc) k _ (by rfl) (World.ownsRow.drew (World.ownsRow.alloc HRow.out _)) ⟨u1.heap.size, 0, none⟩ 1 1 [.string (t.extract 0 255 ++ bb.extract 255 256)] (by rfl) rfl (newsOne _ _) (oneOne _) (by decide) (by unfold maxLen; omega) (by omega) (by have := HSz.out; simp; omega) _ rfl ?_; intro g cap u2 hown2 hgrow2 hat2 hlt2))
      all_goals
        have HT2 : Hid (Two w2 (.slice (some ⟨g, 0, none⟩) (k + 1) cap) (.slice aw k cw) (cs ++ [rc]) ws u2) := by
          have h5 := HT1.out.growD (t := t.extract 0 255 ++ bb.extract 255 256) (g := g) (cap := cap) (by rw [hcl]; exact hown2) hgrow2 (hat_of hat2)
          rw [hcl] at h5
          rw [HRc.out]
          exact h5
        have HRw : Hid (u2.ownsRow w2.heap.size 9 1 (.slice aw k cw) k (ws.map Value.string)) := by
          have := HT2.out.w
          unfold OwnL at this
          rw [hwl] at this
          exact this
        have HSz2 : Hid (w2.heap.size ≤ u2.heap.size) := HT2.out.below.size
        clear hown2 hgrow2 hat2 hlt2 HRow HT1 hx1
        go_wp2_with (at_builtin; refine wpList_append_lies _ rfl _ _ 43 rfl w2.heap.size 9 i0 (.string ⟨#[]⟩) 1 16 Try.underlying43 HI.out.1 HI.out.2.1 HI.out.2.2.1 HI.out.2.2.2 rfl (by decide) _ _ _ rfl (World.ownsRow.alloc HRw.out _) ⟨u2.heap.size, 0, none⟩ 1 1 [.string bb] rfl rfl ?c1 ?c2 (by decide) ?c3 ?c4 ?c5 (u2.heap.size + 1) (by simp) ?_)
        case c1 =>
          intro j u hj
          match j, hj with
          | 0, hj => simp at hj; subst hj; simp [Addr.add, go_sem]
        case c2 => first | rfl | (intro u hu; simp at hu; subst hu; rfl)
        case c3 => unfold maxLen; omega
        case c4 => omega
        case c5 => have := HSz2.out; simp; omega
        · intro g3 cap3 u3 hown3 hgrow3 hat3 _
          have HT3 : Hid (Two w2 (.slice (some ⟨g, 0, none⟩) (k + 1) cap) (.slice (some ⟨g3, 0, none⟩) (k + 1) cap3) (cs ++ [rc]) (ws ++ [bb]) u3) := by
            have h5 := (HT2.out.swap.grow (t := bb) (g := g3) (cap := cap3) (by rw [hwl]; exact hown3) hgrow3 hat3).swap
            rw [hwl] at h5
            exact h5
          clear hown3 hgrow3 hat3 HT2 HRw
          go_wp2
          go_roundw
          case rel => exact ⟨k + 1, hlt, by go_num, by rw [HCn.out, HWn.out]; exact HT3.out⟩
          case measure => simp [intOf]; omega
    · have hkN : k = N := by omega
      subst hkN
      have hcl : ((List.range k).map fun i => recount (st.at (o + i)) Kp i).length = k := by simp
      have hwl : ((List.range k).map (blkOf Kp)).length = k := by simp
      obtain ⟨ac, cc, rfl, hsc, hoc⟩ := own_form hT.c
      obtain ⟨aw, cw, rfl, hsw, how⟩ := own_form hT.w
      obtain ⟨a1', c1', e1, hs1, ho1⟩ := own_form (HO1b.out.below hT.below)
      rw [HLen.out] at e1
      obtain ⟨q1, -, q2⟩ := Value.slice.inj e1
      clear e1
      subst q1 q2
      have hBw := HB2.out
      have hF : ∀ j, F j → j < w.heap.size := HD.out.lt
      have hDw : RD wr q st F := HD.out.below (bnext hBw hT.below)
      have hC1 : Clear F a1 := fun b off e hf => by
        have h5 := own_ge HO1b.out (show OB (.slice a1 k c1) b by rw [e]; rfl)
        have h6 := hF b hf
        omega
      have hCc : Clear F ac := fun b off e hf => by
        have h5 := own_ge hT.c (hoc b off e)
        have h6 := hF b hf
        have h7 := hBw.size
        omega
      have hCw : Clear F aw := fun b off e hf => by
        have h5 := own_ge hT.w (how b off e)
        have h6 := hF b hf
        have h7 := hBw.size
        omega
      have hC2 : Clear F a2 := fun b off e hf => by
        have h5 := own_ge HO2.out (show OB (.slice a2 L.length c2) b by rw [e]; rfl)
        have h6 := hF b hf
        have h7 := HB1s.out
        omega
      have hltc : ∀ b off, ac = some ⟨b, off, none⟩ → b < wr.heap.size := fun b off e => (World.ownsRow.lt hT.c b (hoc b off e)).2
      have hltw : ∀ b off, aw = some ⟨b, off, none⟩ → b < wr.heap.size := fun b off e => (World.ownsRow.lt hT.w b (how b off e)).2
      have hO2' := HO2.out.below hT.below
      have hlt2 : ∀ b off, a2 = some ⟨b, off, none⟩ → b < wr.heap.size := fun b off e => (World.ownsRow.lt hO2' b (show OB (.slice a2 L.length c2) b by rw [e]; rfl)).2
      have hs2 : StrsAt wr a2 L := by
        obtain ⟨a', c', e', hs'⟩ := hO2'.strs
        obtain ⟨q1, -, q2⟩ := Value.slice.inj e'
        subst q1
        exact hs'
      have KM1 := rMade q o k a1 ac c1 cc (reads st o k) ((List.range k).map fun i => recount (st.at (o + i)) Kp i) st F wr hDw HOk.out (by omega) (by omega) (by omega) HLen.out hcl hs1 hsc hC1 hCc (fun i => st.at (o + i)) (fun i => recount (st.at (o + i)) Kp i) (fun i hi => reads_at st o k i hi) (fun i hi => by simp)
      rw [HLen.out, hcl] at KM1
      have hFm := (Form.mk HOk.out rfl (Nat.le_refl _)).made o k (fun i => st.at (o + i)) (fun i => recount (st.at (o + i)) Kp i)
      have hM : mended o k (fun i => st.at (o + i)) Kp st = if (made o (prs k (fun i => st.at (o + i)) (fun i => recount (st.at (o + i)) Kp i)) st).1 ≠ 0 then made o (prs k (fun i => st.at (o + i)) (fun i => recount (st.at (o + i)) Kp i)) st else made o (prs k (fun i => recount (st.at (o + i)) Kp i) (blkOf Kp)) (made o (prs k (fun i => st.at (o + i)) (fun i => recount (st.at (o + i)) Kp i)) st).2 := mended_eq ..
      generalize made o (prs k (fun i => st.at (o + i)) (fun i => recount (st.at (o + i)) Kp i)) st = M1 at *
      have KM2 : ∀ u F1, RD u q M1.2 F1 → Loc F F1 wr u → Calls Try.prog 58 #[.pointer (some ⟨q, 0, none⟩), .int .i64 (o : Int), .slice ac k cc, .slice aw k cw] u fun e v => e = .returned (.int .i64 (((made o (prs k (fun i => recount (st.at (o + i)) Kp i) (blkOf Kp)) M1.2).1 : Nat) : Int)) ∧ ∃ F2, RD v q (made o (prs k (fun i => recount (st.at (o + i)) Kp i) (blkOf Kp)) M1.2).2 F2 ∧ Loc F1 F2 u v := fun u F1 hd hl5 => by
        have := rMade q o k ac aw cc cw ((List.range k).map fun i => recount (st.at (o + i)) Kp i) ((List.range k).map (blkOf Kp)) M1.2 F1 u hd hFm.ok (by have := hFm.few; omega) (by omega) (by omega) hcl hwl (strs_loc hsc hl5 hCc) (strs_loc hsw hl5 hCw) (hCc.loc hl5 hltc) (hCw.loc hl5 hltw) (fun i => recount (st.at (o + i)) Kp i) (blkOf Kp) (fun i hi => by simp) (fun i hi => by simp)
        rw [hcl, hwl] at this
        exact this
      generalize made o (prs k (fun i => recount (st.at (o + i)) Kp i) (blkOf Kp)) M1.2 = M2 at *
      have K1 := hide KM1
      have K2 := hide KM2
      have HM := hide hM
      have HBW := hide (bnext hBw hT.below)
      have HC2 := hide hC2
      have HS2 := hide hs2
      have HLt2 := hide hlt2
      have HNw2 : Hid (∀ b off, a2 = some ⟨b, off, none⟩ → w.heap.size ≤ b) := fun b off e => by
        have h5 := own_ge HO2.out (show OB (.slice a2 L.length c2) b by rw [e]; rfl)
        have h7 := HB1s.out
        omega
      rw [hcl, hwl]
      clear hcl hwl hsc hoc hsw how hs1 ho1 hDw hC1 hCc hCw hC2 hltc hltw hO2' hlt2 hs2 KM1 KM2 hFm hM hT hBw hF
      by_cases h1 : M1.1 = 0
      · have hM2 := HM.out
        rw [if_neg (fun h => h h1)] at hM2
        rw [hM2] at HR0 HR1
        rw [h1] at K1
        clear hM2 h1 HM
        go_wp2_with fail
        refine K1.out.mono ?_
        rintro e u1 ⟨rfl, F1, hd1, hl1⟩
        have K2a := hide (K2.out u1 F1 hd1 hl1)
        have HL1 := hide hl1
        clear hd1 hl1 K1 K2
        by_cases h2 : M2.1 = 0
        · have HRe := hide (HR1.out h2)
          rw [h2] at K2a
          clear h2 HR0 HR1
          go_wp2_with fail
          refine K2a.out.mono ?_
          rintro e u2 ⟨rfl, F2, hd2, hl2⟩
          have HL2 := hide (HL1.out.trans hl2)
          have HD2 := hide hd2
          clear hd2 hl2
          go_wp2
          go_ret3
          refine Or.inl ?_
          rw [HRe.out]
          have hl3 := HL2.out.size
          have hbw := HBW.out.size
          have hal : Below u2.heap.size u2 (u2.alloc (.cells #[.pointer (some ⟨q, 0, none⟩), .int .i64 (o : Int), .int .i64 (k : Int), .string Kp, .bool false] 49)) := (Below.refl _ _).alloc (Nat.le_refl _) _
          exact ⟨rfl, u2.heap.size, a2, c2, F2, rfl, heap_alloc_last u2 _, by omega, (strs_loc HS2.out HL2.out HC2.out).below hal, HD2.out.below hal, (Loc.of_below F HBW.out).trans (HL2.out.trans (Loc.of_below F2 hal)), fun hf => Nat.lt_irrefl _ (HD2.out.lt _ hf), HNw2.out⟩
        · have HRe := hide (HR0.out h2)
          have h2z : ¬ (((M2.1 : Nat) : Int) = 0) := by omega
          clear HR0 HR1
          go_wp2_with fail
          refine K2a.out.mono ?_
          rintro e u2 ⟨rfl, F2, hd2, hl2⟩
          have HL2 := hide (HL1.out.trans hl2)
          have HD2 := hide hd2
          clear hd2 hl2
          go_wp2
          go_ret3
          refine Or.inr ?_
          rw [HRe.out]
          exact ⟨h2, rfl, F2, HD2.out, (Loc.of_below F HBW.out).trans HL2.out⟩
      · have hM2 := HM.out
        rw [if_pos h1] at hM2
        rw [hM2] at HR0
        have HRe := hide (HR0.out h1)
        have h1z : ¬ (((M1.1 : Nat) : Int) = 0) := by omega
        clear hM2 HM HR0 HR1
        go_wp2_with fail
        refine K1.out.mono ?_
        rintro e u1 ⟨rfl, F1, hd1, hl1⟩
        have HL1 := hide hl1
        have HD1 := hide hd1
        clear hd1 hl1 K1 K2
        go_wp2
        go_ret3
        refine Or.inr ?_
        rw [HRe.out]
        exact ⟨h1, rfl, F1, HD1.out, (Loc.of_below F HBW.out).trans HL1.out⟩
theorem pROpen (q o N : Nat) (st : St) (F : Nat → Prop) (w : World) (hD : RD w q st F) (hok : st.Ok) (hl : st.loose.length + N + N ≤ 10000) (hN : o + N ≤ st.sure.length) (h1 : 1 ≤ N) (hN2 : N ≤ 200) :
    Calls Try.prog 26 #[.pointer (some ⟨q, 0, none⟩), .int .i64 (o : Int), .int .i64 (N : Int)] w (ROpened q o N (walOpen st o N) F w) := by
  rw [walOpen_eq]
  by_cases h0 : st.left = 0
  · rw [if_pos h0]
    exact (rOpen_down q o N st F w hD hok (by omega) hN h1 h0).mono (fun e w' h => Or.inr ⟨by simp, h⟩)
  · rw [if_neg h0]
    by_cases hx : (scn (streamOf (reads st o N))).2.2 = 41 ∨ (scn (streamOf (reads st o N))).2.2 = 4
    · rw [if_pos hx]
      exact (rOpen_bad q o N st F w hD hok (by omega) hN h1 hN2 h0 hx).mono (fun e w' h => Or.inr ⟨by simp, h⟩)
    · rw [if_neg hx]
      exact rOpen_good q o N st F w (scn (streamOf (reads st o N))).1 (scn (streamOf (reads st o N))).2.1 (scn (streamOf (reads st o N))).2.2 hD hok hl hN h1 hN2 h0 rfl (fun h => hx (Or.inl h)) (fun h => hx (Or.inr h)) _ (fun h => by rw [if_pos h]) (fun h => by rw [if_neg (fun h2 => h2 h)])
end Go.Proofs.Ytelkccfjeinlcaa
namespace Go.Proofs.Ytelkccfjeinlcaa
open Go Go.RowKit Frm
theorem RLAt.c0 {u : World} {p q o n : Nat} {s : ByteArray} {b : Bool} (h : RLAt u p q o n s b) : u.cell? ⟨p, 0, none⟩ = some (.pointer (some ⟨q, 0, none⟩)) := by simp [World.cell?, show u.heap[p]? = _ from h]
theorem RLAt.c1 {u : World} {p q o n : Nat} {s : ByteArray} {b : Bool} (h : RLAt u p q o n s b) : u.cell? ⟨p, 1, none⟩ = some (.int .i64 (o : Int)) := by simp [World.cell?, show u.heap[p]? = _ from h]
theorem RLAt.c2 {u : World} {p q o n : Nat} {s : ByteArray} {b : Bool} (h : RLAt u p q o n s b) : u.cell? ⟨p, 2, none⟩ = some (.int .i64 (n : Int)) := by simp [World.cell?, show u.heap[p]? = _ from h]
theorem RLAt.c3 {u : World} {p q o n : Nat} {s : ByteArray} {b : Bool} (h : RLAt u p q o n s b) : u.cell? ⟨p, 3, none⟩ = some (.string s) := by simp [World.cell?, show u.heap[p]? = _ from h]
theorem RLAt.c4 {u : World} {p q o n : Nat} {s : ByteArray} {b : Bool} (h : RLAt u p q o n s b) : u.cell? ⟨p, 4, none⟩ = some (.bool b) := by simp [World.cell?, show u.heap[p]? = _ from h]
theorem RLAt.free {u : World} {p q o n : Nat} {s : ByteArray} {b : Bool} (h : RLAt u p q o n s b) (i : Nat) : u.frozen? ⟨p, i, none⟩ = false := by simp [World.frozen?, show u.heap[p]? = _ from h]
/-- What Append answers, and leaves. -/
def RApd (p q o n : Nat) (s : ByteArray) (b : Bool) (st : St) (F : Nat → Prop) (w : World) (x : Int) (e : Ending) (w' : World) : Prop :=
  e = .returned (.int .i64 x) ∧ RLAt w' p q o n s b ∧ ∃ F', RD w' q st F' ∧ Loc (fun k => F k ∨ k = p) (fun k => F' k ∨ k = p) w w' ∧ ¬ F' p
theorem RApd.same {p q o n : Nat} {s : ByteArray} {b : Bool} {st : St} {F : Nat → Prop} {w w' : World} {x : Int} (hL : RLAt w p q o n s b) (hD : RD w q st F) (hp : ¬ F p) (hb : Below w.heap.size w w') : RApd p q o n s b st F w x (.returned (.int .i64 x)) w' :=
  ⟨rfl, hL.same (hb.block p hL.lt), F, hD.below hb, Loc.of_below _ hb, hp⟩
set_option maxRecDepth 10000 in
set_option maxHeartbeats 400000 in
theorem rAppend_broken (p q o n : Nat) (s t : ByteArray) (st : St) (F : Nat → Prop) (w : World) (hL : RLAt w p q o n s true) (hD : RD w q st F) (hp : ¬ F p) :
    Calls Try.prog 27 #[.pointer (some ⟨p, 0, none⟩), .string t] w (RApd p q o n s true st F w 3) := by
  have h4 := hL.c4
  have HE : Hid (RApd p q o n s true st F w 3 (.returned (.int .i64 3)) w) := RApd.same hL hD hp (Below.refl _ _)
  clear hL hD hp
  go_enter Try.func27, Try.ntmps27
  go_wp2
  go_ret
  exact HE.out
set_option maxRecDepth 10000 in
set_option maxHeartbeats 1000000 in
theorem rAppend_full (p q o n : Nat) (s t : ByteArray) (st : St) (F : Nat → Prop) (w : World) (hL : RLAt w p q o n s false) (hD : RD w q st F) (hp : ¬ F p) (ht : t.size ≤ 65536) (hn : n ≤ 200) (hs : s.size ≤ n * 255) (hfit : n * 255 < s.size + (t.size + 8)) :
    Calls Try.prog 27 #[.pointer (some ⟨p, 0, none⟩), .string t] w (RApd p q o n s false st F w 6) := by
  have h4 := hL.c4
  have KF := hide (refFrame_any t w ht)
  have HE : Hid (∀ u, Below w.heap.size w u → RApd p q o n s false st F w 6 (.returned (.int .i64 6)) u) := fun u hb => RApd.same hL hD hp hb
  have HC : Hid (∀ u, Below w.heap.size w u → u.cell? ⟨p, 2, none⟩ = some (.int .i64 (n : Int)) ∧ u.cell? ⟨p, 3, none⟩ = some (.string s)) := fun u hb => ⟨cellB hb hL.c2, cellB hb hL.c3⟩
  have hfs := frm_size t
  have hmul : IntKind.i64.wrap ((n : Int) * 255) = (n : Int) * 255 := by rw [IntKind.wrap_i64]; omega
  have hadd : IntKind.i64.wrap ((s.size : Int) + ((frm t).size : Int)) = (s.size : Int) + ((frm t).size : Int) := by rw [hfs, IntKind.wrap_i64]; omega
  have hgt : (n : Int) * 255 < (s.size : Int) + ((frm t).size : Int) := by rw [hfs]; omega
  clear hL hD hp hfs hfit hs ht
  generalize frm t = f at *
  go_enter Try.func27, Try.ntmps27
  go_wp2_with fail
  refine KF.out.mono ?_
  rintro e u ⟨rfl, hb⟩
  obtain ⟨h2, h3⟩ := HC.out u hb
  have HB := hide hb
  clear hb
  go_wp2_with fail
  go_quiet (fail)
  have HB2 := hide (below_drewN HB.out nq)
  generalize u.drewN nq = u2 at *
  go_wp2
  go_ret
  exact HE.out _ HB2.out
/-- In the midst of it. -/
structure RMid (w : World) (p q o n : Nat) (s : ByteArray) (a b : Nat → ByteArray) (st : St) (F : Nat → Prop) (k : Nat) (cur : St) (F' : Nat → Prop) (u : World) : Prop where
  puts : puts o (prs k a b) 0 st = (0, cur)
  disk : RD u q cur F'
  loc : Loc F F' w u
  log : RLAt u p q o n s false
  notp : ¬ F' p
theorem RMid.keep {w : World} {p q o n : Nat} {s : ByteArray} {a b : Nat → ByteArray} {st : St} {F : Nat → Prop} {k : Nat} {cur : St} {F' : Nat → Prop} {u v : World} (h : RMid w p q o n s a b st F k cur F' u) (hb : Below u.heap.size u v) : RMid w p q o n s a b st F k cur F' v :=
  ⟨h.puts, h.disk.below hb, h.loc.trans (Loc.of_below _ hb), h.log.same (hb.block p h.log.lt), h.notp⟩
theorem RMid.c3 {w : World} {p q o n : Nat} {s : ByteArray} {a b : Nat → ByteArray} {st : St} {F : Nat → Prop} {k : Nat} {cur : St} {F' : Nat → Prop} {u : World} (h : RMid w p q o n s a b st F k cur F' u) : u.cell? ⟨p, 3, none⟩ = some (.string s) := h.log.c3
theorem RMid.cells {w : World} {p q o n : Nat} {s : ByteArray} {a b : Nat → ByteArray} {st : St} {F : Nat → Prop} {k : Nat} {cur : St} {F' : Nat → Prop} {u : World} (h : RMid w p q o n s a b st F k cur F' u) : u.cell? ⟨p, 0, none⟩ = some (.pointer (some ⟨q, 0, none⟩)) ∧ u.cell? ⟨p, 1, none⟩ = some (.int .i64 (o : Int)) ∧ u.cell? ⟨p, 2, none⟩ = some (.int .i64 (n : Int)) ∧ u.cell? ⟨p, 3, none⟩ = some (.string s) := ⟨h.log.c0, h.log.c1, h.log.c2, h.log.c3⟩
theorem RMid.c01 {w : World} {p q o n : Nat} {s : ByteArray} {a b : Nat → ByteArray} {st : St} {F : Nat → Prop} {k : Nat} {cur : St} {F' : Nat → Prop} {u : World} (h : RMid w p q o n s a b st F k cur F' u) : u.cell? ⟨p, 0, none⟩ = some (.pointer (some ⟨q, 0, none⟩)) ∧ u.cell? ⟨p, 1, none⟩ = some (.int .i64 (o : Int)) := ⟨h.log.c0, h.log.c1⟩
/-- Behind a write. -/
structure RAft (w : World) (p q o n : Nat) (s : ByteArray) (st' : St) (F F' : Nat → Prop) (u : World) : Prop where
  disk : RD u q st' F'
  loc : Loc F F' w u
  log : RLAt u p q o n s false
  notp : ¬ F' p
theorem RAft.c01 {w : World} {p q o n : Nat} {s : ByteArray} {st' : St} {F F' : Nat → Prop} {u : World} (h : RAft w p q o n s st' F F' u) : u.cell? ⟨p, 0, none⟩ = some (.pointer (some ⟨q, 0, none⟩)) ∧ u.cell? ⟨p, 1, none⟩ = some (.int .i64 (o : Int)) := ⟨h.log.c0, h.log.c1⟩
theorem mid_write {w : World} {p q o n : Nat} {s : ByteArray} {a b : Nat → ByteArray} {st : St} {F : Nat → Prop} {k : Nat} {cur : St} {F' : Nat → Prop} {u : World} (t : ByteArray) (h : RMid w p q o n s a b st F k cur F' u) (hok : cur.Ok) (hl : cur.loose.length ≤ 10000) :
    Calls Try.prog 33 #[.pointer (some ⟨q, 0, none⟩), .int .i64 ((o + k : Nat) : Int), .string t] u fun e v => e = .returned (.int .i64 (((cur.write ((o + k : Nat) : Int) t).1 : Nat) : Int)) ∧ ∃ F2, RAft w p q o n s (cur.write ((o + k : Nat) : Int) t).2 F F2 v := by
  refine (rd_write q cur F' ((o + k : Nat) : Int) t u h.disk hok (by omega)).mono ?_
  rintro e v ⟨rfl, F2, hd, hl2⟩
  refine ⟨rfl, F2, hd, h.loc.trans hl2, h.log.same (hl2.block p h.log.lt h.notp), fun hf => ?_⟩
  rcases hl2.own p hf with h1 | h1
  · exact h.notp h1
  · have := h.log.lt; omega
theorem RAft.broken {w : World} {p q o n : Nat} {s : ByteArray} {st' : St} {F F' : Nat → Prop} {u : World} (h : RAft w p q o n s st' F F' u) (x : Int) : RApd p q o n s true st' F w x (.returned (.int .i64 x)) (u.setCell ⟨p, 4, none⟩ (.bool true)) := by
  refine ⟨rfl, ?_, F', h.disk.same (fun k hk => Below.heap_setCell u _ _ k (fun e => h.notp (by rw [show k = p from e] at hk; exact hk))), (h.loc.or (P := fun k => k = p)).trans (Loc.setCell u ⟨p, 4, none⟩ _ (Or.inr rfl)), h.notp⟩
  exact heap_set3 (i := 4) h.log (.bool true)
theorem RMid.done {w : World} {p q o n : Nat} {s : ByteArray} {a b : Nat → ByteArray} {st : St} {F : Nat → Prop} {k : Nat} {cur : St} {F' : Nat → Prop} {u : World} (h : RMid w p q o n s a b st F k cur F' u) (sf : ByteArray) : RApd p q o n sf false cur F w 0 (.returned (.int .i64 0)) (u.setCell ⟨p, 3, none⟩ (.string sf)) := by
  refine ⟨rfl, ?_, F', h.disk.same (fun k hk => Below.heap_setCell u _ _ k (fun e => h.notp (by rw [show k = p from e] at hk; exact hk))), (h.loc.or (P := fun k => k = p)).trans (Loc.setCell u ⟨p, 3, none⟩ _ (Or.inr rfl)), h.notp⟩
  exact heap_set3 (i := 3) h.log (.string sf)
set_option maxRecDepth 10000 in
set_option maxHeartbeats 4000000 in
theorem rAppend_fits (p q o n : Nat) (s t : ByteArray) (st : St) (F : Nat → Prop) (w : World) (R : Nat × St) (hR : R = puts o (prs n (blkOf s) (blkOf (s ++ frm t))) 0 st) (s' : ByteArray) (b' : Bool) (hs0 : R.1 = 0 → s' = s ++ frm t ∧ b' = false) (hs1 : R.1 ≠ 0 → s' = s ∧ b' = true) (hL : RLAt w p q o n s false) (hD : RD w q st F) (hp : ¬ F p) (hok : st.Ok) (hlo : st.loose.length + n ≤ 10000) (ho : o + n ≤ 4096) (ht : t.size ≤ 65536) (hn : n ≤ 200) (hs : s.size ≤ n * 255) (hfit : s.size + (t.size + 8) ≤ n * 255) :
    Calls Try.prog 27 #[.pointer (some ⟨p, 0, none⟩), .string t] w (RApd p q o n s' b' R.2 F w ((R.1 : Nat) : Int)) := by
  have h4 := hL.c4
  have KF := hide (refFrame_any t w ht)
  have hfs := frm_size t
  have hmul : IntKind.i64.wrap ((n : Int) * 255) = (n : Int) * 255 := by rw [IntKind.wrap_i64]; omega
  have hadd : IntKind.i64.wrap ((s.size : Int) + ((frm t).size : Int)) = (s.size : Int) + ((frm t).size : Int) := by rw [hfs, IntKind.wrap_i64]; omega
  have hgt : ¬ ((n : Int) * 255 < (s.size : Int) + ((frm t).size : Int)) := by rw [hfs]; omega
  have HSf : Hid ((s ++ frm t).size ≤ 281474976710656) := by show _ ≤ _; rw [ByteArray.size_append, hfs]; omega
  have hmax : s.size + (frm t).size ≤ maxLen := by rw [hfs]; unfold maxLen; omega
  have HSs : Hid (s.size ≤ 281474976710656) := by show _ ≤ _; omega
  have HM0 : Hid (∀ u, Below w.heap.size w u → RMid w p q o n s (blkOf s) (blkOf (s ++ frm t)) st F 0 st F u) := fun u hb => ⟨rfl, hD.below hb, Loc.of_below _ hb, hL.same (hb.block p hL.lt), hp⟩
  have HRes : Hid (∀ k, k ≤ n → (puts o (prs k (blkOf s) (blkOf (s ++ frm t))) 0 st).1 ≠ 0 → R = puts o (prs k (blkOf s) (blkOf (s ++ frm t))) 0 st) := fun k hk h => by rw [hR]; exact puts_stop hk h
  have HEnd : Hid (∀ cur, puts o (prs n (blkOf s) (blkOf (s ++ frm t))) 0 st = (0, cur) → R = (0, cur)) := fun cur h => by rw [hR]; exact h
  have HOkk : Hid (∀ k cur, k ≤ n → puts o (prs k (blkOf s) (blkOf (s ++ frm t))) 0 st = (0, cur) → cur.Ok ∧ cur.loose.length ≤ 10000) := fun k cur hk h => by
    have h1 := lay_len o k (blkOf s) (blkOf (s ++ frm t)) st hok
    rw [h] at h1
    exact ⟨h1.1, by have h2 : cur.loose.length ≤ st.loose.length + k := h1.2; omega⟩
  have HC : Hid (∀ u, Below w.heap.size w u → u.cell? ⟨p, 2, none⟩ = some (.int .i64 (n : Int)) ∧ u.cell? ⟨p, 3, none⟩ = some (.string s)) := fun u hb => ⟨cellB hb hL.c2, cellB hb hL.c3⟩
  have KB1 := hide (fun k u (hk : k ≤ 4096) => rBlock_any (s ++ frm t) k u hk HSf.out)
  have KB2 := hide (fun k u (hk : k ≤ 4096) => rBlock_any s k u hk HSs.out)
  have HP := hide hp
  have HS0 := hide hs0
  have HS1 := hide hs1
  clear hL hD hp hfs hfit hs ht hR hok hlo hs0 hs1
  generalize hsf : s ++ frm t = sf at *
  have HSF := hide hsf
  clear hsf
  generalize frm t = f at *
  go_enter Try.func27, Try.ntmps27
  go_wp2_with fail
  refine KF.out.mono ?_
  rintro e u ⟨rfl, hb⟩
  obtain ⟨h2, h3⟩ := HC.out u hb
  have HB := hide hb
  clear hb
  go_wp2_with fail
  go_quiet (fail)
  have HB2 := hide (below_drewN HB.out nq)
  generalize u.drewN nq = u2 at *
  obtain ⟨h2', h3'⟩ := HC.out u2 HB2.out
  have HMd := hide (HM0.out u2 HB2.out)
  clear hadd hmul h2 h3 KF HC HM0
  go_wp2_with fail
  rw [HSF.out]
  clear hgt hmax h2' h3' h4
  go_loopw [8, 9] (fun i _ u => ∃ (k : Nat) (cur : St) (F' : Nat → Prop), k ≤ n ∧ i = .int .i64 (k : Int) ∧ RMid w p q o n s (blkOf s) (blkOf sf) st F k cur F' u) (fun i _ _ => n - (intOf i).toNat)
  case atStart => exact ⟨0, st, F, Nat.zero_le _, rfl, HMd.out⟩
  case round =>
    obtain ⟨k, cur, F', hk, rfl, hm⟩ := hrel
    obtain ⟨d0, d1, d2, d3⟩ := hm.cells
    have HM := hide hm
    clear hm
    by_cases hlt : k < n
    · have hz : (k : Int) < (n : Int) := by omega
      have KBa := hide (fun u => KB1.out k u (by omega))
      have KBb := hide (fun u => KB2.out k u (by omega))
      have HPN := hide (puts_next HM.out.puts)
      have HCo := hide (HOkk.out k cur hk HM.out.puts)
      generalize blkOf sf k = tb at *
      generalize blkOf s k = ta at *
      by_cases hab : ta = tb
      · have HP2 : Hid (puts o (prs (k + 1) (blkOf s) (blkOf sf)) 0 st = (0, cur)) := by
          have := HPN.out
          rw [if_pos hab] at this
          exact this
        subst hab
        go_wp2_with fail
        have K := HM.out.keep ((Below.refl _ _).drew)
        go_region_held3 (fun z => z.cell? ⟨p, 3, none⟩ = some (.string s))
          ((with_reducible exact RMid.c3 K))
          (first
            | (go_at_call_of 57 (Value.string sf); refine (KBa.out _).mono ?_; rintro e z1 ⟨rfl, hb1⟩; have K := RMid.keep K hb1)
            | (go_at_call_of 57 (Value.string s); refine (KBb.out _).mono ?_; rintro e z1 ⟨rfl, hb1⟩; have K := RMid.keep K hb1))
        all_goals
          have HK := hide K
          clear K
          go_wp2
          go_roundw
          case rel => exact ⟨k + 1, cur, F', hlt, by go_num, ⟨HP2.out, HK.out.disk, HK.out.loc, HK.out.log, HK.out.notp⟩⟩
          case measure => simp [intOf]; omega
      · have hne : (tb.toList == ta.toList) = false := toList_ne (fun e => hab e.symm)
        have hw : IntKind.i64.wrap ((o : Int) + (k : Int)) = ((o + k : Nat) : Int) := by rw [IntKind.wrap_i64]; omega
        have HP2 : Hid (puts o (prs (k + 1) (blkOf s) (blkOf sf)) 0 st = cur.write ((o + k : Nat) : Int) tb) := by
          have := HPN.out
          rw [if_neg hab] at this
          exact this
        have HW := hide hw
        clear hw
        have KW := hide (fun z (hm : RMid w p q o n s (blkOf s) (blkOf sf) st F k cur F' z) => mid_write tb hm HCo.out.1 HCo.out.2)
        generalize cur.write ((o + k : Nat) : Int) tb = X at *
        by_cases he : X.1 = 0
        · have HP3 : Hid (puts o (prs (k + 1) (blkOf s) (blkOf sf)) 0 st = (0, X.2)) := HP2.out.trans (Prod.ext he rfl)
          rw [he] at KW
          clear he
          go_wp2_with fail
          have K := HM.out.keep ((Below.refl _ _).drew)
          go_region_held3 (fun z => z.cell? ⟨p, 3, none⟩ = some (.string s))
            ((with_reducible exact RMid.c3 K))
            (first
              | (go_at_call_of 57 (Value.string sf); refine (KBa.out _).mono ?_; rintro e z1 ⟨rfl, hb1⟩; have K := RMid.keep K hb1)
              | (go_at_call_of 57 (Value.string s); refine (KBb.out _).mono ?_; rintro e z1 ⟨rfl, hb1⟩; have K := RMid.keep K hb1))
          all_goals
            have HK := hide K
            clear K
            have hw := HW.out
            go_wp2_with fail
            have K := HK.out.keep ((Below.refl _ _).drew)
            clear HK
            go_region_held3 (fun z => z.cell? ⟨p, 0, none⟩ = some (.pointer (some ⟨q, 0, none⟩)) ∧ z.cell? ⟨p, 1, none⟩ = some (.int .i64 (o : Int)))
              ((first | (with_reducible exact RMid.c01 K) | (with_reducible exact RAft.c01 K)))
              (first
                | (go_at_call 57; refine (KBa.out _).mono ?_; rintro e z1 ⟨rfl, hb1⟩; have K := RMid.keep K hb1)
                | (go_at_call 33; refine (KW.out _ K).mono ?_; rintro e z2 ⟨rfl, F2, K⟩))
            all_goals
              have HK := hide K
              clear K
              go_wp2
              go_roundw
              case rel => exact ⟨k + 1, X.2, F2, hlt, by go_num, ⟨HP3.out, HK.out.disk, HK.out.loc, HK.out.log, HK.out.notp⟩⟩
              case measure => simp [intOf]; omega
        · have hez : ¬ (((X.1 : Nat) : Int) = 0) := by omega
          have HRe : Hid (R = X) := (HRes.out (k + 1) hlt (by rw [HP2.out]; exact he)).trans HP2.out
          have HSe := hide (HS1.out (by rw [HRe.out]; exact he))
          go_wp2_with fail
          have K := HM.out.keep ((Below.refl _ _).drew)
          go_region_held3 (fun z => z.cell? ⟨p, 3, none⟩ = some (.string s))
            ((with_reducible exact RMid.c3 K))
            (first
              | (go_at_call_of 57 (Value.string sf); refine (KBa.out _).mono ?_; rintro e z1 ⟨rfl, hb1⟩; have K := RMid.keep K hb1)
              | (go_at_call_of 57 (Value.string s); refine (KBb.out _).mono ?_; rintro e z1 ⟨rfl, hb1⟩; have K := RMid.keep K hb1))
          all_goals
            have HK := hide K
            clear K
            have hw := HW.out
            go_wp2_with fail
            have K := HK.out.keep ((Below.refl _ _).drew)
            clear HK
            go_region_held3 (fun z => z.cell? ⟨p, 0, none⟩ = some (.pointer (some ⟨q, 0, none⟩)) ∧ z.cell? ⟨p, 1, none⟩ = some (.int .i64 (o : Int)))
              ((first | (with_reducible exact RMid.c01 K) | (with_reducible exact RAft.c01 K)))
              (first
                | (go_at_call 57; refine (KBa.out _).mono ?_; rintro e z1 ⟨rfl, hb1⟩; have K := RMid.keep K hb1)
                | (go_at_call 33; refine (KW.out _ K).mono ?_; rintro e z2 ⟨rfl, F2, K⟩))
            all_goals
              have HK := hide K
              have d4 := K.log.c4
              have df4 := K.log.free 4
              clear K
              go_wp2
              go_ret
              rw [HRe.out, HSe.out.1, HSe.out.2]
              exact HK.out.broken _
    · have hkN : k = n := by omega
      subst hkN
      have HRe := hide (HEnd.out cur HM.out.puts)
      have HSe := hide (HS0.out (by rw [HRe.out]))
      have df3 := HM.out.log.free 3
      clear HEnd HRes HS0 HS1
      go_wp2
      go_ret
      rw [HRe.out, HSe.out.1, HSe.out.2]
      exact HM.out.done sf
theorem pRAppend (p q o n : Nat) (s t : ByteArray) (st : St) (F : Nat → Prop) (w : World) (hL : RLAt w p q o n s false) (hD : RD w q st F) (hp : ¬ F p) (hok : st.Ok) (hlo : st.loose.length + n ≤ 10000) (ho : o + n ≤ 4096) (hn : n ≤ 200) (hs : s.size ≤ n * 255) (ht : t.size ≤ 65536) :
    Calls Try.prog 27 #[.pointer (some ⟨p, 0, none⟩), .string t] w (RApd p q o n (walAppend st o n s t).2.1 (brk st o n s t) (walAppend st o n s t).2.2 F w (((walAppend st o n s t).1 : Nat) : Int)) := by
  unfold walAppend brk
  rw [if_neg (by omega)]
  by_cases h2 : n * 255 < s.size + (t.size + 8)
  · rw [if_pos h2, decide_eq_false (fun h => by omega)]
    exact rAppend_full p q o n s t st F w hL hD hp ht hn hs h2
  · rw [if_neg h2]
    by_cases h3 : (puts o (prs n (blkOf s) (blkOf (s ++ frm t))) 0 st).1 = 0
    · rw [if_neg (by rw [h3]; simp), decide_eq_false (fun h => h.2.2 h3)]
      have := rAppend_fits p q o n s t st F w _ rfl (s ++ frm t) false (fun _ => ⟨rfl, rfl⟩) (fun h => absurd h3 h) hL hD hp hok hlo ho ht hn hs (by omega)
      rw [h3] at this
      exact this
    · rw [if_pos h3, decide_eq_true ⟨by omega, by omega, h3⟩]
      exact rAppend_fits p q o n s t st F w _ rfl s true (fun h => absurd h h3) (fun _ => ⟨rfl, rfl⟩) hL hD hp hok hlo ho ht hn hs (by omega)
end Go.Proofs.Ytelkccfjeinlcaa
