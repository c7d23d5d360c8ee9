/- Package wal's readOn. -/
import Derived.Test.YtelkccfjeinlcaaG1Small
import Derived.Test.YtelkccfjeinlcaaGLog
import Derived.Deep.AppendLies
namespace Go.Proofs.Ytelkccfjeinlcaa
open Go Go.RowKit Frm
/-- The block of a slice of one's own. -/
def OB (v : Value) (k : Nat) : Prop := v.ownBlock = some k
theorem Loc.app {v0 bv : Value} {w wr w2 : World} {ob : Obj} {g n c : Nat} (h : Loc (OB v0) (OB bv) w wr) (hg : (wr.alloc ob).grownBy w2 bv.ownBlock) (hat : bv.ownBlock = some g ∨ g = wr.heap.size + 1) : Loc (OB v0) (OB (.slice (some ⟨g, 0, none⟩) n c)) w w2 := by
  refine h.trans ((Loc.alloc (OB bv) wr ob).trans (Loc.of_grown hg (fun k e => e) (fun k hk => ?_)))
  have e : g = k := by unfold OB at hk; simp [Value.ownBlock] at hk; exact hk
  subst e
  rcases hat with h1 | h1
  · exact Or.inl h1
  · exact Or.inr (by simp; omega)
theorem take_snoc {l : List ByteArray} {k : Nat} (h : k < l.length) : l.take (k + 1) = l.take k ++ [l[k]] := by rw [List.take_succ_eq_append_getElem h]
theorem own_lt0 {u : World} {v : Value} {l : List ByteArray} (h : OwnL u 0 v l) {k : Nat} (hk : OB v k) : k < u.heap.size := (World.ownsRow.lt h k hk).2
set_option maxRecDepth 10000 in
set_option maxHeartbeats 2000000 in
theorem readOn_ends (q o N : Nat) (v0 : Value) (l0 : List ByteArray) (st : St) (F : Nat → Prop) (w : World) (hD : DAt w q st F) (hok : st.Ok) (hl : st.loose.length ≤ 10000) (hN : o + N ≤ st.sure.length) (h0 : st.left ≠ 0)
    (hv0 : OwnL w 0 v0 l0) (hl0 : l0 = (reads st o N).take l0.length) (hln : l0.length ≤ N) (hdj : ∀ k, F k → ¬ OB v0 k) (hfull : ∀ j, j < l0.length → ¬ countOf (st.at (o + j)) < 255) :
    Calls Try.prog 40 #[.agg #[.pointer (some ⟨q, 0, none⟩), .int .i64 (o : Int), .int .i64 (N : Int)], v0, .func (.func 41) #[] #[]] w fun e w' => ∃ bv, e = .returned (.tuple #[bv, .int .i64 0]) ∧ OwnL w' 0 bv (upTo (reads st o N)) ∧ Loc (OB v0) (OB bv) w w' := by
  have hfew := hok.few
  obtain ⟨i0, hi, hz0, hz1, hz2⟩ := info_parts (P := Try.prog) (e := 9) (z := .string ⟨#[]⟩) (size := 1) (bytes := 16) (by kernel_rfl)
  have HI := hide (And.intro hi (And.intro hz0 (And.intro hz1 hz2)))
  clear hi hz0 hz1 hz2
  obtain ⟨W, hW⟩ : ∃ W, w.alloc (.cells #[.pointer (some ⟨q, 0, none⟩), .int .i64 (o : Int), .int .i64 (N : Int)] 87) = W := ⟨_, rfl⟩
  have hbW : Below w.heap.size w W := by rw [← hW]; exact (Below.refl _ _).alloc (Nat.le_refl _) _
  have hszW : W.heap.size = w.heap.size + 1 := by rw [← hW]; simp
  have harea : W.heap[w.heap.size]? = some (.cells #[.pointer (some ⟨q, 0, none⟩), .int .i64 (o : Int), .int .i64 (N : Int)] 87 (0, 0)) := by rw [← hW]; exact World.alloc_heap_new w _
  have HL0 := hide (Loc.of_below (OB v0) hbW)
  have HAr : Hid (∀ bv u, Loc (OB v0) (OB bv) W u → u.cell? ⟨w.heap.size, 0, none⟩ = some (.pointer (some ⟨q, 0, none⟩)) ∧ u.cell? ⟨w.heap.size, 1, none⟩ = some (.int .i64 (o : Int)) ∧ u.cell? ⟨w.heap.size, 2, none⟩ = some (.int .i64 (N : Int)) ∧ DAt u q st F) := fun bv u hloc => by
    have hb := (hloc.block w.heap.size (by omega) (fun hh => by have := own_lt0 hv0 hh; omega)).trans harea
    refine ⟨by simp [World.cell?, hb], by simp [World.cell?, hb], by simp [World.cell?, hb], con.same (con.below hD hbW) (fun k hk => hloc.block k (by have := con.lt hD k hk; omega) (hdj k hk))⟩
  have HV := hide (hv0.below hbW)
  obtain ⟨a0, c0, hform, -⟩ := hv0.strs
  subst hform
  have hN4 : N ≤ 4096 := by omega
  have ho4 : o ≤ 4096 := by omega
  have HR : Hid (∀ k u, k < N → DAt u q st F → Calls Try.prog 67 #[.pointer (some ⟨q, 0, none⟩), .int .i64 ((o + k : Nat) : Int)] u fun e v => e = .returned (.tuple #[.string (st.at (o + k)), .int .i64 0]) ∧ Below u.heap.size u v) := fun k u hk hd => by
    have := con.read q st F ((o + k : Nat) : Int) u hd hok hl (by omega)
    rw [read_in (o + k) (by omega) h0] at this
    exact this
  have HS : Hid (∀ k, k < N → (st.at (o + k)).size = 256) := fun k hk => at_size hok _ (by omega)
  have hlen := reads_length st o N
  have HAT : Hid (∀ k, k < N → (reads st o N).take (k + 1) = (reads st o N).take k ++ [st.at (o + k)]) := fun k hk => by rw [take_snoc (by omega), reads_at]
  have HTL : Hid (∀ k, k ≤ N → ((reads st o N).take k).length = k) := fun k hk => by rw [List.length_take]; omega
  have HLN := hide hlen
  have HLL := hide hl0
  clear hD hok hl hN hv0 hdj hbW harea hlen hl0
  have HFull := hide hfull; clear hfull
  go_enter Try.func40, Try.ntmps40
  go_wp2_with fail
  go_loopw [1, 8, 9, 10] (fun bv i _ _ wr => ∃ k : Nat, l0.length ≤ k ∧ k ≤ N ∧ i = .int .i64 (k : Int) ∧ OwnL wr 0 bv ((reads st o N).take k) ∧ Loc (OB (.slice a0 l0.length c0)) (OB bv) W wr ∧ (∀ j, j < k → ¬ countOf (st.at (o + j)) < 255)) (fun _ i _ _ _ => N - (intOf i).toNat)
  case atStart => exact ⟨l0.length, Nat.le_refl _, hln, rfl, by rw [← HLL.out]; exact HV.out, Loc.refl _ _, HFull.out⟩
  case round =>
    obtain ⟨k, hk0, hk, rfl, hown, hloc, hall⟩ := hrel
    obtain ⟨hc0, hc1, hc2, hd⟩ := HAr.out _ _ hloc
    have HO := hide hown
    have HLoc := hide hloc
    have HD := hide hd
    have HALL := hide hall
    clear hown hloc hd hall
    by_cases hlt : k < N
    · have hz : (k : Int) < (N : Int) := by omega
      have hw : wrap64 ((o : Int) + (k : Int)) = ((o + k : Nat) : Int) := by unfold wrap64; omega
      have hw2 : IntKind.i64.wrap ((k : Int) + 1) = (k : Int) + 1 := by rw [IntKind.wrap_i64]; omega
      have h256 := HS.out k hlt
      have KE := hide (fun u => ends_any (st.at (o + k)) u h256)
      have HT := hide (HAT.out k hlt)
      have hkl := HTL.out k hk
      have KR := hide (HR.out k wr hlt HD.out)
      generalize (reads st o N).take k = pre at *
      generalize hnx : (reads st o N).take (k + 1) = nxt at *
      have HTE : Hid (∀ m, m = k → (reads st o N).take (m + 1) = nxt) := fun m hm => by rw [hm]; exact hnx
      clear hnx
      generalize hat : st.at (o + k) = t at *
      have HAT2 := hide hat
      clear hat
      subst hkl
      go_wp2_with fail
      refine KR.out.mono ?_
      rintro e w1 ⟨rfl, hb⟩
      have HO1 := hide (HO.out.below hb)
      have HL1 := hide (HLoc.out.trans (Loc.of_below _ hb))
      clear hb
      go_wp2_with (at_builtin; refine wpList_append_lies _ rfl _ _ 43 rfl 0 9 i0 (.string ⟨#[]⟩) 1 16 Try.underlying43 HI.out.1 HI.out.2.1 HI.out.2.2.1 HI.out.2.2.2 rfl (by decide) _ _ _ rfl (World.ownsRow.alloc HO1.out _) ⟨w1.heap.size, 0, none⟩ 1 1 [.string t] rfl rfl ?c1 ?c2 (by decide) ?c3 ?c4 (Nat.zero_le _) (w1.heap.size + 1) (by simp) ?_)
      case c1 =>
        intro j u hj
        match j, hj with
        | 0, hj => simp at hj; subst hj; simp [Addr.add, go_sem]
      case c2 => first | rfl | (intro u hu; simp at hu; subst hu; rfl)
      case c3 => unfold maxLen; omega
      case c4 => omega
      · intro g cap w2 hown2 hgrow2 hat2 _
        rw [map_snoc] at hown2
        have HO2 : Hid (OwnL w2 0 (.slice (some ⟨g, 0, none⟩) (pre.length + 1) cap) (pre ++ [t])) := by
          unfold Hid OwnL; rw [List.length_append]; exact hown2
        have HL2 := hide (HL1.out.app (n := pre.length + 1) (c := cap) hgrow2 hat2)
        clear hown2 hgrow2 hat2
        by_cases hc : countOf t < 255
        · have hdc : decide (countOf t < 255) = true := decide_eq_true hc
          rw [hdc] at KE
          go_wp2_with fail
          refine (KE.out _).mono ?_
          rintro e w3 ⟨rfl, rfl⟩
          go_wp2
          go_ret2
          refine ⟨_, rfl, ?_, HL0.out.trans HL2.out⟩
          have hU := upTo_at (reads st o N) pre.length (by rw [HLN.out]; exact hlt) (fun j hj => by rw [reads_at]; exact HALL.out j hj) (by rw [reads_at, HAT2.out]; exact hc)
          rw [hU, HTE.out _ rfl, HT.out]
          exact HO2.out
        · have hdc : decide (countOf t < 255) = false := decide_eq_false hc
          rw [hdc] at KE
          go_wp2_with fail
          refine (KE.out _).mono ?_
          rintro e w3 ⟨rfl, rfl⟩
          go_wp2
          go_roundw
          case rel => exact ⟨pre.length + 1, by omega, hlt, by go_num, by rw [HTE.out _ rfl, HT.out]; exact HO2.out, HL2.out, fun j hj => by
            by_cases e : j = pre.length
            · subst e; rw [HAT2.out]; exact hc
            · exact HALL.out j (by omega)⟩
          case measure => simp [intOf]; omega
    · have hkN : k = N := by omega
      subst hkN
      obtain ⟨a1, c1, rfl, -⟩ := HO.out.strs
      have hU : (reads st o k).take k = upTo (reads st o k) := by
        rw [upTo_all _ (fun j hj => by rw [reads_at]; exact HALL.out j (by rw [HLN.out] at hj; exact hj)), List.take_of_length_le (by rw [HLN.out]; exact Nat.le_refl _)]
      have hle := HTL.out k (Nat.le_refl _)
      have hO2 := HO.out
      have hL2 := HLoc.out
      rw [hle] at hO2 hL2 ⊢
      rw [hU] at hO2
      have HO3 := hide hO2
      have HL3 := hide hL2
      clear hle hO2 hL2 hU HO HLoc
      go_wp2
      go_ret2
      exact ⟨_, rfl, HO3.out, HL0.out.trans HL3.out⟩
set_option maxRecDepth 10000 in
set_option maxHeartbeats 2000000 in
theorem readOn_all (q o N : Nat) (v0 : Value) (l0 : List ByteArray) (st : St) (F : Nat → Prop) (w : World) (hD : DAt w q st F) (hok : st.Ok) (hl : st.loose.length ≤ 10000) (hN : o + N ≤ st.sure.length) (h0 : st.left ≠ 0)
    (hv0 : OwnL w 0 v0 l0) (hl0 : l0 = (reads st o N).take l0.length) (hln : l0.length ≤ N) (hdj : ∀ k, F k → ¬ OB v0 k) :
    Calls Try.prog 40 #[.agg #[.pointer (some ⟨q, 0, none⟩), .int .i64 (o : Int), .int .i64 (N : Int)], v0, .func (.func 44) #[] #[]] w fun e w' => ∃ bv, e = .returned (.tuple #[bv, .int .i64 0]) ∧ OwnL w' 0 bv (reads st o N) ∧ Loc (OB v0) (OB bv) w w' := by
  have hfew := hok.few
  obtain ⟨i0, hi, hz0, hz1, hz2⟩ := info_parts (P := Try.prog) (e := 9) (z := .string ⟨#[]⟩) (size := 1) (bytes := 16) (by kernel_rfl)
  have HI := hide (And.intro hi (And.intro hz0 (And.intro hz1 hz2)))
  clear hi hz0 hz1 hz2
  obtain ⟨W, hW⟩ : ∃ W, w.alloc (.cells #[.pointer (some ⟨q, 0, none⟩), .int .i64 (o : Int), .int .i64 (N : Int)] 87) = W := ⟨_, rfl⟩
  have hbW : Below w.heap.size w W := by rw [← hW]; exact (Below.refl _ _).alloc (Nat.le_refl _) _
  have hszW : W.heap.size = w.heap.size + 1 := by rw [← hW]; simp
  have harea : W.heap[w.heap.size]? = some (.cells #[.pointer (some ⟨q, 0, none⟩), .int .i64 (o : Int), .int .i64 (N : Int)] 87 (0, 0)) := by rw [← hW]; exact World.alloc_heap_new w _
  have HL0 := hide (Loc.of_below (OB v0) hbW)
  have HAr : Hid (∀ bv u, Loc (OB v0) (OB bv) W u → u.cell? ⟨w.heap.size, 0, none⟩ = some (.pointer (some ⟨q, 0, none⟩)) ∧ u.cell? ⟨w.heap.size, 1, none⟩ = some (.int .i64 (o : Int)) ∧ u.cell? ⟨w.heap.size, 2, none⟩ = some (.int .i64 (N : Int)) ∧ DAt u q st F) := fun bv u hloc => by
    have hb := (hloc.block w.heap.size (by omega) (fun hh => by have := own_lt0 hv0 hh; omega)).trans harea
    refine ⟨by simp [World.cell?, hb], by simp [World.cell?, hb], by simp [World.cell?, hb], con.same (con.below hD hbW) (fun k hk => hloc.block k (by have := con.lt hD k hk; omega) (hdj k hk))⟩
  have HV := hide (hv0.below hbW)
  obtain ⟨a0, c0, hform, -⟩ := hv0.strs
  subst hform
  have hN4 : N ≤ 4096 := by omega
  have ho4 : o ≤ 4096 := by omega
  have HR : Hid (∀ k u, k < N → DAt u q st F → Calls Try.prog 67 #[.pointer (some ⟨q, 0, none⟩), .int .i64 ((o + k : Nat) : Int)] u fun e v => e = .returned (.tuple #[.string (st.at (o + k)), .int .i64 0]) ∧ Below u.heap.size u v) := fun k u hk hd => by
    have := con.read q st F ((o + k : Nat) : Int) u hd hok hl (by omega)
    rw [read_in (o + k) (by omega) h0] at this
    exact this
  have HS : Hid (∀ k, k < N → (st.at (o + k)).size = 256) := fun k hk => at_size hok _ (by omega)
  have hlen := reads_length st o N
  have HAT : Hid (∀ k, k < N → (reads st o N).take (k + 1) = (reads st o N).take k ++ [st.at (o + k)]) := fun k hk => by rw [take_snoc (by omega), reads_at]
  have HTL : Hid (∀ k, k ≤ N → ((reads st o N).take k).length = k) := fun k hk => by rw [List.length_take]; omega
  have HLN := hide hlen
  have HLL := hide hl0
  clear hD hok hl hN hv0 hdj hbW harea hlen hl0
  
  go_enter Try.func40, Try.ntmps40
  go_wp2_with fail
  go_loopw [1, 8, 9, 10] (fun bv i _ _ wr => ∃ k : Nat, l0.length ≤ k ∧ k ≤ N ∧ i = .int .i64 (k : Int) ∧ OwnL wr 0 bv ((reads st o N).take k) ∧ Loc (OB (.slice a0 l0.length c0)) (OB bv) W wr) (fun _ i _ _ _ => N - (intOf i).toNat)
  case atStart => exact ⟨l0.length, Nat.le_refl _, hln, rfl, by rw [← HLL.out]; exact HV.out, Loc.refl _ _⟩
  case round =>
    obtain ⟨k, hk0, hk, rfl, hown, hloc⟩ := hrel
    obtain ⟨hc0, hc1, hc2, hd⟩ := HAr.out _ _ hloc
    have HO := hide hown
    have HLoc := hide hloc
    have HD := hide hd
    have HALL := hide trivial
    clear hown hloc hd
    by_cases hlt : k < N
    · have hz : (k : Int) < (N : Int) := by omega
      have hw : wrap64 ((o : Int) + (k : Int)) = ((o + k : Nat) : Int) := by unfold wrap64; omega
      have hw2 : IntKind.i64.wrap ((k : Int) + 1) = (k : Int) + 1 := by rw [IntKind.wrap_i64]; omega
      have h256 := HS.out k hlt
      have KE := hide (fun u => never_any (st.at (o + k)) u)
      have HT := hide (HAT.out k hlt)
      have hkl := HTL.out k hk
      have KR := hide (HR.out k wr hlt HD.out)
      generalize (reads st o N).take k = pre at *
      generalize hnx : (reads st o N).take (k + 1) = nxt at *
      have HTE : Hid (∀ m, m = k → (reads st o N).take (m + 1) = nxt) := fun m hm => by rw [hm]; exact hnx
      clear hnx
      generalize hat : st.at (o + k) = t at *
      have HAT2 := hide hat
      clear hat
      subst hkl
      go_wp2_with fail
      refine KR.out.mono ?_
      rintro e w1 ⟨rfl, hb⟩
      have HO1 := hide (HO.out.below hb)
      have HL1 := hide (HLoc.out.trans (Loc.of_below _ hb))
      clear hb
      go_wp2_with (at_builtin; refine wpList_append_lies _ rfl _ _ 43 rfl 0 9 i0 (.string ⟨#[]⟩) 1 16 Try.underlying43 HI.out.1 HI.out.2.1 HI.out.2.2.1 HI.out.2.2.2 rfl (by decide) _ _ _ rfl (World.ownsRow.alloc HO1.out _) ⟨w1.heap.size, 0, none⟩ 1 1 [.string t] rfl rfl ?c1 ?c2 (by decide) ?c3 ?c4 (Nat.zero_le _) (w1.heap.size + 1) (by simp) ?_)
      case c1 =>
        intro j u hj
        match j, hj with
        | 0, hj => simp at hj; subst hj; simp [Addr.add, go_sem]
      case c2 => first | rfl | (intro u hu; simp at hu; subst hu; rfl)
      case c3 => unfold maxLen; omega
      case c4 => omega
      · intro g cap w2 hown2 hgrow2 hat2 _
        rw [map_snoc] at hown2
        have HO2 : Hid (OwnL w2 0 (.slice (some ⟨g, 0, none⟩) (pre.length + 1) cap) (pre ++ [t])) := by
          unfold Hid OwnL; rw [List.length_append]; exact hown2
        have HL2 := hide (HL1.out.app (n := pre.length + 1) (c := cap) hgrow2 hat2)
        clear hown2 hgrow2 hat2
        go_wp2_with fail
        refine (KE.out _).mono ?_
        rintro e w3 ⟨rfl, rfl⟩
        go_wp2
        go_roundw
        case rel => exact ⟨pre.length + 1, by omega, hlt, by go_num, by rw [HTE.out _ rfl, HT.out]; exact HO2.out, HL2.out⟩
        case measure => simp [intOf]; omega
    · have hkN : k = N := by omega
      subst hkN
      obtain ⟨a1, c1, rfl, -⟩ := HO.out.strs
      have hU : (reads st o k).take k = reads st o k := List.take_of_length_le (by rw [HLN.out]; exact Nat.le_refl _)
      have hle := HTL.out k (Nat.le_refl _)
      have hO2 := HO.out
      have hL2 := HLoc.out
      rw [hle] at hO2 hL2 ⊢
      rw [hU] at hO2
      have HO3 := hide hO2
      have HL3 := hide hL2
      clear hle hO2 hL2 hU HO HLoc
      go_wp2
      go_ret2
      exact ⟨_, rfl, HO3.out, HL0.out.trans HL3.out⟩
end Go.Proofs.Ytelkccfjeinlcaa
