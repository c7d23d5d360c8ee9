/- Package wal's readOn. Package wal's mend. Appending behind the full blocks, plain. The document's own log: made. The iterator of package wal, over the closures 119 and 66. Package wal's lay, over the closures 119 and 66. Package wal's Append: what its ways share. -/
import Derived.Test.YtchhojkhfdkhfaaGreatDoorK11
import Derived.Test.YtchhojkhfdkhfaaGreatDoorK12
import Derived.Deep.AppendLies
import Derived.Laws.EntriesVeiled
import Derived.Test.YtchhojkhfdkhfaaGreatDoorK05
namespace Go.Proofs.YtchhojkhfdkhfaaGreatDoor
open Go Go.RowKit Frm
/-- The block of a slice of one's own. -/
def OB (v : Value) (k : Nat) : Prop := v.ownBlock = some k
theorem Loc.app {v0 bv : Value} {w wr w2 : World} {ob : Obj} {g n c : Nat} (h : Loc (OB v0) (OB bv) w wr) (hg : (wr.alloc ob).grownBy w2 bv.ownBlock) (hat : bv.ownBlock = some g ∨ g = wr.heap.size + 1) : Loc (OB v0) (OB (.slice (some ⟨g, 0, none⟩) n c)) w w2 := by
  refine h.trans ((Loc.alloc (OB bv) wr ob).trans (Loc.of_grown hg (fun k e => e) (fun k hk => ?_)))
  have e : g = k := by unfold OB at hk; simp [Value.ownBlock] at hk; exact hk
  subst e
  rcases hat with h1 | h1
  · exact Or.inl h1
  · exact Or.inr (by simp; omega)
theorem take_snoc {l : List ByteArray} {k : Nat} (h : k < l.length) : l.take (k + 1) = l.take k ++ [l[k]] := by rw [List.take_succ_eq_append_getElem h]
theorem own_lt0 {u : World} {v : Value} {l : List ByteArray} (h : OwnL u 0 v l) {k : Nat} (hk : OB v k) : k < u.heap.size := (World.ownsRow.lt h k hk).2
set_option maxRecDepth 10000 in
set_option maxHeartbeats 2000000 in
theorem readOn_ends (q o N : Nat) (v0 : Value) (l0 : List ByteArray) (st : St) (F : Nat → Prop) (w : World) (hD : DAt w q st F) (hok : st.Ok) (hl : st.loose.length ≤ 10000) (hN : o + N ≤ st.sure.length) (h0 : st.left ≠ 0)
    (hv0 : OwnL w 0 v0 l0) (hl0 : l0 = (reads st o N).take l0.length) (hln : l0.length ≤ N) (hdj : ∀ k, F k → ¬ OB v0 k) (hfull : ∀ j, j < l0.length → ¬ countOf (st.at (o + j)) < 255) :
    Calls Tryz.prog 117 #[.agg #[.pointer (some ⟨q, 0, none⟩), .int .i64 (o : Int), .int .i64 (N : Int)], v0, .func (.func 118) #[] #[]] w fun e w' => ∃ bv, e = .returned (.tuple #[bv, .int .i64 0]) ∧ OwnL w' 0 bv (upTo (reads st o N)) ∧ Loc (OB v0) (OB bv) w w' := by
  have hfew := hok.few
  obtain ⟨i0, hi, hz0, hz1, hz2⟩ := info_parts (P := Tryz.prog) (e := 9) (z := .string ⟨#[]⟩) (size := 1) (bytes := 16) (by kernel_rfl)
  have HI := hide (And.intro hi (And.intro hz0 (And.intro hz1 hz2)))
  clear hi hz0 hz1 hz2
  obtain ⟨W, hW⟩ : ∃ W, w.alloc (.cells #[.pointer (some ⟨q, 0, none⟩), .int .i64 (o : Int), .int .i64 (N : Int)] 163) = W := ⟨_, rfl⟩
  have hbW : Below w.heap.size w W := by rw [← hW]; exact (Below.refl _ _).alloc (Nat.le_refl _) _
  have hszW : W.heap.size = w.heap.size + 1 := by rw [← hW]; simp
  have harea : W.heap[w.heap.size]? = some (.cells #[.pointer (some ⟨q, 0, none⟩), .int .i64 (o : Int), .int .i64 (N : Int)] 163 (0, 0)) := by rw [← hW]; exact World.alloc_heap_new w _
  have HL0 := hide (Loc.of_below (OB v0) hbW)
  have HAr : Hid (∀ bv u, Loc (OB v0) (OB bv) W u → u.cell? ⟨w.heap.size, 0, none⟩ = some (.pointer (some ⟨q, 0, none⟩)) ∧ u.cell? ⟨w.heap.size, 1, none⟩ = some (.int .i64 (o : Int)) ∧ u.cell? ⟨w.heap.size, 2, none⟩ = some (.int .i64 (N : Int)) ∧ DAt u q st F) := fun bv u hloc => by
    have hb := (hloc.block w.heap.size (by omega) (fun hh => by have := own_lt0 hv0 hh; omega)).trans harea
    refine ⟨by simp [World.cell?, hb], by simp [World.cell?, hb], by simp [World.cell?, hb], con.same (con.below hD hbW) (fun k hk => hloc.block k (by have := con.lt hD k hk; omega) (hdj k hk))⟩
  have HV := hide (hv0.below hbW)
  obtain ⟨a0, c0, hform, -⟩ := hv0.strs
  subst hform
  have hN4 : N ≤ 4096 := by omega
  have ho4 : o ≤ 4096 := by omega
  have HR : Hid (∀ k u, k < N → DAt u q st F → Calls Tryz.prog 112 #[.pointer (some ⟨q, 0, none⟩), .int .i64 ((o + k : Nat) : Int)] u fun e v => e = .returned (.tuple #[.string (st.at (o + k)), .int .i64 0]) ∧ Below u.heap.size u v) := fun k u hk hd => by
    have := con.read q st F ((o + k : Nat) : Int) u hd hok hl (by omega)
    rw [read_in (o + k) (by omega) h0] at this
    exact this
  have HS : Hid (∀ k, k < N → (st.at (o + k)).size = 256) := fun k hk => at_size hok _ (by omega)
  have hlen := reads_length st o N
  have HAT : Hid (∀ k, k < N → (reads st o N).take (k + 1) = (reads st o N).take k ++ [st.at (o + k)]) := fun k hk => by rw [take_snoc (by omega), reads_at]
  have HTL : Hid (∀ k, k ≤ N → ((reads st o N).take k).length = k) := fun k hk => by rw [List.length_take]; omega
  have HLN := hide hlen
  have HLL := hide hl0
  clear hD hok hl hN hv0 hdj hbW harea hlen hl0
  have HFull := hide hfull; clear hfull
  go_enter Tryz.func117, Tryz.ntmps117
  go_wp2_with fail
  go_loopw [1, 8, 9, 10] (fun bv i _ _ wr => ∃ k : Nat, l0.length ≤ k ∧ k ≤ N ∧ i = .int .i64 (k : Int) ∧ OwnL wr 0 bv ((reads st o N).take k) ∧ Loc (OB (.slice a0 l0.length c0)) (OB bv) W wr ∧ (∀ j, j < k → ¬ countOf (st.at (o + j)) < 255)) (fun _ i _ _ _ => N - (intOf i).toNat)
  case atStart => exact ⟨l0.length, Nat.le_refl _, hln, rfl, by rw [← HLL.out]; exact HV.out, Loc.refl _ _, HFull.out⟩
  case round =>
    obtain ⟨k, hk0, hk, rfl, hown, hloc, hall⟩ := hrel
    obtain ⟨hc0, hc1, hc2, hd⟩ := HAr.out _ _ hloc
    have HO := hide hown
    have HLoc := hide hloc
    have HD := hide hd
    have HALL := hide hall
    clear hown hloc hd hall
    by_cases hlt : k < N
    · have hz : (k : Int) < (N : Int) := by omega
      have hw : wrap64 ((o : Int) + (k : Int)) = ((o + k : Nat) : Int) := by unfold wrap64; omega
      have hw2 : IntKind.i64.wrap ((k : Int) + 1) = (k : Int) + 1 := by rw [IntKind.wrap_i64]; omega
      have h256 := HS.out k hlt
      have KE := hide (fun u => ends_any (st.at (o + k)) u h256)
      have HT := hide (HAT.out k hlt)
      have hkl := HTL.out k hk
      have KR := hide (HR.out k wr hlt HD.out)
      generalize (reads st o N).take k = pre at *
      generalize hnx : (reads st o N).take (k + 1) = nxt at *
      have HTE : Hid (∀ m, m = k → (reads st o N).take (m + 1) = nxt) := fun m hm => by rw [hm]; exact hnx
      clear hnx
      generalize hat : st.at (o + k) = t at *
      have HAT2 := hide hat
      clear hat
      subst hkl
      go_wp2_with fail
      refine KR.out.mono ?_
      rintro e w1 ⟨rfl, hb⟩
      have HO1 := hide (HO.out.below hb)
      have HL1 := hide (HLoc.out.trans (Loc.of_below _ hb))
      clear hb
      go_wp2_with (at_builtin; refine wpList_append_lies _ rfl _ _ 46 rfl 0 9 i0 (.string ⟨#[]⟩) 1 16 Tryz.underlying46 HI.out.1 HI.out.2.1 HI.out.2.2.1 HI.out.2.2.2 rfl (by decide) _ _ _ rfl (World.ownsRow.alloc HO1.out _) ⟨w1.heap.size, 0, none⟩ 1 1 [.string t] rfl rfl ?c1 ?c2 (by decide) ?c3 ?c4 (Nat.zero_le _) (w1.heap.size + 1) (by simp) ?_)
      case c1 =>
        intro j u hj
        match j, hj with
        | 0, hj => simp at hj; subst hj; simp [Addr.add, go_sem]
      case c2 => first | rfl | (intro u hu; simp at hu; subst hu; rfl)
      case c3 => unfold maxLen; omega
      case c4 => omega
      · intro g cap w2 hown2 hgrow2 hat2 _
        rw [map_snoc] at hown2
        have HO2 : Hid (OwnL w2 0 (.slice (some ⟨g, 0, none⟩) (pre.length + 1) cap) (pre ++ [t])) := by
          unfold Hid OwnL; rw [List.length_append]; exact hown2
        have HL2 := hide (HL1.out.app (n := pre.length + 1) (c := cap) hgrow2 hat2)
        clear hown2 hgrow2 hat2
        by_cases hc : countOf t < 255
        · have hdc : decide (countOf t < 255) = true := decide_eq_true hc
          rw [hdc] at KE
          go_wp2_with fail
          refine (KE.out _).mono ?_
          rintro e w3 ⟨rfl, rfl⟩
          go_wp2
          go_ret2
          refine ⟨_, rfl, ?_, HL0.out.trans HL2.out⟩
          have hU := upTo_at (reads st o N) pre.length (by rw [HLN.out]; exact hlt) (fun j hj => by rw [reads_at]; exact HALL.out j hj) (by rw [reads_at, HAT2.out]; exact hc)
          rw [hU, HTE.out _ rfl, HT.out]
          exact HO2.out
        · have hdc : decide (countOf t < 255) = false := decide_eq_false hc
          rw [hdc] at KE
          go_wp2_with fail
          refine (KE.out _).mono ?_
          rintro e w3 ⟨rfl, rfl⟩
          go_wp2
          go_roundw
          case rel => exact ⟨pre.length + 1, by omega, hlt, by go_num, by rw [HTE.out _ rfl, HT.out]; exact HO2.out, HL2.out, fun j hj => by
            by_cases e : j = pre.length
            · subst e; rw [HAT2.out]; exact hc
            · exact HALL.out j (by omega)⟩
          case measure => simp [intOf]; omega
    · have hkN : k = N := by omega
      subst hkN
      obtain ⟨a1, c1, rfl, -⟩ := HO.out.strs
      have hU : (reads st o k).take k = upTo (reads st o k) := by
        rw [upTo_all _ (fun j hj => by rw [reads_at]; exact HALL.out j (by rw [HLN.out] at hj; exact hj)), List.take_of_length_le (by rw [HLN.out]; exact Nat.le_refl _)]
      have hle := HTL.out k (Nat.le_refl _)
      have hO2 := HO.out
      have hL2 := HLoc.out
      rw [hle] at hO2 hL2 ⊢
      rw [hU] at hO2
      have HO3 := hide hO2
      have HL3 := hide hL2
      clear hle hO2 hL2 hU HO HLoc
      go_wp2
      go_ret2
      exact ⟨_, rfl, HO3.out, HL0.out.trans HL3.out⟩
set_option maxRecDepth 10000 in
set_option maxHeartbeats 2000000 in
theorem readOn_all (q o N : Nat) (v0 : Value) (l0 : List ByteArray) (st : St) (F : Nat → Prop) (w : World) (hD : DAt w q st F) (hok : st.Ok) (hl : st.loose.length ≤ 10000) (hN : o + N ≤ st.sure.length) (h0 : st.left ≠ 0)
    (hv0 : OwnL w 0 v0 l0) (hl0 : l0 = (reads st o N).take l0.length) (hln : l0.length ≤ N) (hdj : ∀ k, F k → ¬ OB v0 k) :
    Calls Tryz.prog 117 #[.agg #[.pointer (some ⟨q, 0, none⟩), .int .i64 (o : Int), .int .i64 (N : Int)], v0, .func (.func 121) #[] #[]] w fun e w' => ∃ bv, e = .returned (.tuple #[bv, .int .i64 0]) ∧ OwnL w' 0 bv (reads st o N) ∧ Loc (OB v0) (OB bv) w w' := by
  have hfew := hok.few
  obtain ⟨i0, hi, hz0, hz1, hz2⟩ := info_parts (P := Tryz.prog) (e := 9) (z := .string ⟨#[]⟩) (size := 1) (bytes := 16) (by kernel_rfl)
  have HI := hide (And.intro hi (And.intro hz0 (And.intro hz1 hz2)))
  clear hi hz0 hz1 hz2
  obtain ⟨W, hW⟩ : ∃ W, w.alloc (.cells #[.pointer (some ⟨q, 0, none⟩), .int .i64 (o : Int), .int .i64 (N : Int)] 163) = W := ⟨_, rfl⟩
  have hbW : Below w.heap.size w W := by rw [← hW]; exact (Below.refl _ _).alloc (Nat.le_refl _) _
  have hszW : W.heap.size = w.heap.size + 1 := by rw [← hW]; simp
  have harea : W.heap[w.heap.size]? = some (.cells #[.pointer (some ⟨q, 0, none⟩), .int .i64 (o : Int), .int .i64 (N : Int)] 163 (0, 0)) := by rw [← hW]; exact World.alloc_heap_new w _
  have HL0 := hide (Loc.of_below (OB v0) hbW)
  have HAr : Hid (∀ bv u, Loc (OB v0) (OB bv) W u → u.cell? ⟨w.heap.size, 0, none⟩ = some (.pointer (some ⟨q, 0, none⟩)) ∧ u.cell? ⟨w.heap.size, 1, none⟩ = some (.int .i64 (o : Int)) ∧ u.cell? ⟨w.heap.size, 2, none⟩ = some (.int .i64 (N : Int)) ∧ DAt u q st F) := fun bv u hloc => by
    have hb := (hloc.block w.heap.size (by omega) (fun hh => by have := own_lt0 hv0 hh; omega)).trans harea
    refine ⟨by simp [World.cell?, hb], by simp [World.cell?, hb], by simp [World.cell?, hb], con.same (con.below hD hbW) (fun k hk => hloc.block k (by have := con.lt hD k hk; omega) (hdj k hk))⟩
  have HV := hide (hv0.below hbW)
  obtain ⟨a0, c0, hform, -⟩ := hv0.strs
  subst hform
  have hN4 : N ≤ 4096 := by omega
  have ho4 : o ≤ 4096 := by omega
  have HR : Hid (∀ k u, k < N → DAt u q st F → Calls Tryz.prog 112 #[.pointer (some ⟨q, 0, none⟩), .int .i64 ((o + k : Nat) : Int)] u fun e v => e = .returned (.tuple #[.string (st.at (o + k)), .int .i64 0]) ∧ Below u.heap.size u v) := fun k u hk hd => by
    have := con.read q st F ((o + k : Nat) : Int) u hd hok hl (by omega)
    rw [read_in (o + k) (by omega) h0] at this
    exact this
  have HS : Hid (∀ k, k < N → (st.at (o + k)).size = 256) := fun k hk => at_size hok _ (by omega)
  have hlen := reads_length st o N
  have HAT : Hid (∀ k, k < N → (reads st o N).take (k + 1) = (reads st o N).take k ++ [st.at (o + k)]) := fun k hk => by rw [take_snoc (by omega), reads_at]
  have HTL : Hid (∀ k, k ≤ N → ((reads st o N).take k).length = k) := fun k hk => by rw [List.length_take]; omega
  have HLN := hide hlen
  have HLL := hide hl0
  clear hD hok hl hN hv0 hdj hbW harea hlen hl0
  
  go_enter Tryz.func117, Tryz.ntmps117
  go_wp2_with fail
  go_loopw [1, 8, 9, 10] (fun bv i _ _ wr => ∃ k : Nat, l0.length ≤ k ∧ k ≤ N ∧ i = .int .i64 (k : Int) ∧ OwnL wr 0 bv ((reads st o N).take k) ∧ Loc (OB (.slice a0 l0.length c0)) (OB bv) W wr) (fun _ i _ _ _ => N - (intOf i).toNat)
  case atStart => exact ⟨l0.length, Nat.le_refl _, hln, rfl, by rw [← HLL.out]; exact HV.out, Loc.refl _ _⟩
  case round =>
    obtain ⟨k, hk0, hk, rfl, hown, hloc⟩ := hrel
    obtain ⟨hc0, hc1, hc2, hd⟩ := HAr.out _ _ hloc
    have HO := hide hown
    have HLoc := hide hloc
    have HD := hide hd
    have HALL := hide trivial
    clear hown hloc hd
    by_cases hlt : k < N
    · have hz : (k : Int) < (N : Int) := by omega
      have hw : wrap64 ((o : Int) + (k : Int)) = ((o + k : Nat) : Int) := by unfold wrap64; omega
      have hw2 : IntKind.i64.wrap ((k : Int) + 1) = (k : Int) + 1 := by rw [IntKind.wrap_i64]; omega
      have h256 := HS.out k hlt
      have KE := hide (fun u => never_any (st.at (o + k)) u)
      have HT := hide (HAT.out k hlt)
      have hkl := HTL.out k hk
      have KR := hide (HR.out k wr hlt HD.out)
      generalize (reads st o N).take k = pre at *
      generalize hnx : (reads st o N).take (k + 1) = nxt at *
      have HTE : Hid (∀ m, m = k → (reads st o N).take (m + 1) = nxt) := fun m hm => by rw [hm]; exact hnx
      clear hnx
      generalize hat : st.at (o + k) = t at *
      have HAT2 := hide hat
      clear hat
      subst hkl
      go_wp2_with fail
      refine KR.out.mono ?_
      rintro e w1 ⟨rfl, hb⟩
      have HO1 := hide (HO.out.below hb)
      have HL1 := hide (HLoc.out.trans (Loc.of_below _ hb))
      clear hb
      go_wp2_with (at_builtin; refine wpList_append_lies _ rfl _ _ 46 rfl 0 9 i0 (.string ⟨#[]⟩) 1 16 Tryz.underlying46 HI.out.1 HI.out.2.1 HI.out.2.2.1 HI.out.2.2.2 rfl (by decide) _ _ _ rfl (World.ownsRow.alloc HO1.out _) ⟨w1.heap.size, 0, none⟩ 1 1 [.string t] rfl rfl ?c1 ?c2 (by decide) ?c3 ?c4 (Nat.zero_le _) (w1.heap.size + 1) (by simp) ?_)
      case c1 =>
        intro j u hj
        match j, hj with
        | 0, hj => simp at hj; subst hj; simp [Addr.add, go_sem]
      case c2 => first | rfl | (intro u hu; simp at hu; subst hu; rfl)
      case c3 => unfold maxLen; omega
      case c4 => omega
      · intro g cap w2 hown2 hgrow2 hat2 _
        rw [map_snoc] at hown2
        have HO2 : Hid (OwnL w2 0 (.slice (some ⟨g, 0, none⟩) (pre.length + 1) cap) (pre ++ [t])) := by
          unfold Hid OwnL; rw [List.length_append]; exact hown2
        have HL2 := hide (HL1.out.app (n := pre.length + 1) (c := cap) hgrow2 hat2)
        clear hown2 hgrow2 hat2
        go_wp2_with fail
        refine (KE.out _).mono ?_
        rintro e w3 ⟨rfl, rfl⟩
        go_wp2
        go_roundw
        case rel => exact ⟨pre.length + 1, by omega, hlt, by go_num, by rw [HTE.out _ rfl, HT.out]; exact HO2.out, HL2.out⟩
        case measure => simp [intOf]; omega
    · have hkN : k = N := by omega
      subst hkN
      obtain ⟨a1, c1, rfl, -⟩ := HO.out.strs
      have hU : (reads st o k).take k = reads st o k := List.take_of_length_le (by rw [HLN.out]; exact Nat.le_refl _)
      have hle := HTL.out k (Nat.le_refl _)
      have hO2 := HO.out
      have hL2 := HLoc.out
      rw [hle] at hO2 hL2 ⊢
      rw [hU] at hO2
      have HO3 := hide hO2
      have HL3 := hide hL2
      clear hle hO2 hL2 hU HO HLoc
      go_wp2
      go_ret2
      exact ⟨_, rfl, HO3.out, HL0.out.trans HL3.out⟩
end Go.Proofs.YtchhojkhfdkhfaaGreatDoor
namespace Go.Proofs.YtchhojkhfdkhfaaGreatDoor
open Go Go.RowKit Frm Go.Shelf
/-- The blocks are made those of the stream, in two steps. -/
def mended (o N : Nat) (a : Nat → ByteArray) (s : ByteArray) (st : St) : Nat × St :=
  if (made o (prs N a (fun i => recount (a i) s i)) st).1 ≠ 0 then made o (prs N a (fun i => recount (a i) s i)) st
  else made o (prs N (fun i => recount (a i) s i) (blkOf s)) (made o (prs N a (fun i => recount (a i) s i)) st).2
theorem prs_congr {n : Nat} {a a' b b' : Nat → ByteArray} (ha : ∀ i, i < n → a i = a' i) (hb : ∀ i, i < n → b i = b' i) : prs n a b = prs n a' b' := by
  unfold prs
  apply List.map_congr_left
  intro i hi
  rw [List.mem_range] at hi
  rw [ha i hi, hb i hi]
theorem made_ok (o N : Nat) (a b : Nat → ByteArray) (st : St) (h : st.Ok) : (made o (prs N a b) st).2.Ok ∧ (made o (prs N a b) st).2.loose.length ≤ st.loose.length + N := by
  have hp := lay_len o N a b st h
  unfold made
  split
  · exact hp
  · split
    · exact hp
    · refine ⟨hp.1.sync, ?_⟩
      unfold St.sync
      split
      · exact hp.2
      · simp
theorem heap4 (w : World) (o0 o1 o2 o3 : Obj) (j : Nat) : ((((w.alloc o0).alloc o1).alloc o2).alloc o3).heap[w.heap.size + j]? = [o0, o1, o2, o3][j]? := by
  have e : ((((w.alloc o0).alloc o1).alloc o2).alloc o3).heap = w.heap ++ #[o0, o1, o2, o3] := by
    show (((w.heap.push o0).push o1).push o2).push o3 = _
    apply Array.ext'
    simp
  rw [e, Array.getElem?_append_right (by omega), Nat.add_sub_cancel_left]
  simp
theorem strs_kept {w u : World} {a : Option Addr} {c : Nat} {l : List ByteArray} (h : OwnL w 0 (.slice a l.length c) l) (hb : ∀ k, OB (.slice a l.length c) k → u.heap[k]? = w.heap[k]?) : StrsAt u a l := by
  have h2 : OwnL u 0 (.slice a l.length c) l := own_same h (fun g hg => hb g hg)
  obtain ⟨a', c', e, hs⟩ := h2.strs
  cases e
  exact hs
set_option maxRecDepth 10000 in
set_option maxHeartbeats 2000000 in
theorem mend_any (q o N : Nat) (a0 : Option Addr) (c0 : Nat) (l : List ByteArray) (a : Nat → ByteArray) (s : ByteArray) (st : St) (F : Nat → Prop) (w : World) (hD : DAt w q st F) (hok : st.Ok) (hlo : st.loose.length + N + N ≤ 10000) (hN : N ≤ 4096) (ho : o ≤ 4096)
    (hlN : l.length = N) (hv : OwnL w 0 (.slice a0 l.length c0) l) (hdj : ∀ k, F k → ¬ OB (.slice a0 l.length c0) k) (h256 : ∀ b ∈ l, b.size = 256) (ha : ∀ i (hi : i < l.length), l[i] = a i) :
    Calls Tryz.prog 122 #[.agg #[.pointer (some ⟨q, 0, none⟩), .int .i64 (o : Int), .int .i64 (N : Int)], .slice a0 l.length c0, .string s] w fun e w' => e = .returned (.int .i64 (((mended o N a s st).1 : Nat) : Int)) ∧ ∃ F', DAt w' q (mended o N a s st).2 F' ∧ Loc F F' w w' := by
  obtain ⟨W, hW⟩ : ∃ W, ((((w.alloc (.cells #[.pointer (some ⟨q, 0, none⟩), .int .i64 (o : Int), .int .i64 (N : Int)] 163)).alloc (.cells #[.slice a0 l.length c0] 46)).alloc (.cells #[.string s] 9)).alloc (.cells #[.func (.func 129) #[] #[.pointer (some ⟨w.heap.size + 1 + 1, 0, none⟩)]] 165)) = W := ⟨_, rfl⟩
  have hsz : W.heap.size = w.heap.size + 4 := by rw [← hW]; simp
  have hb : Below w.heap.size w W := by
    rw [← hW]
    exact ((((Below.refl _ w).alloc (Nat.le_refl _) _).alloc (by simp) _).alloc (by simp; omega) _).alloc (by simp; omega) _
  have g : ∀ (j : Nat), W.heap[w.heap.size + j]? = [Obj.cells #[.pointer (some ⟨q, 0, none⟩), .int .i64 (o : Int), .int .i64 (N : Int)] 163 (0, 0), .cells #[.slice a0 l.length c0] 46 (0, 0), .cells #[.string s] 9 (0, 0), .cells #[.func (.func 129) #[] #[.pointer (some ⟨w.heap.size + 1 + 1, 0, none⟩)]] 165 (0, 0)][j]? := fun j => by
    rw [← hW]
    exact heap4 w _ _ _ _ j
  have g0 : W.heap[w.heap.size]? = some (.cells #[.pointer (some ⟨q, 0, none⟩), .int .i64 (o : Int), .int .i64 (N : Int)] 163 (0, 0)) := g 0
  have g1 : W.heap[w.heap.size + 1]? = some (.cells #[.slice a0 l.length c0] 46 (0, 0)) := g 1
  have g2 : W.heap[w.heap.size + 1 + 1]? = some (.cells #[.string s] 9 (0, 0)) := g 2
  have g3 : W.heap[w.heap.size + 1 + 1 + 1]? = some (.cells #[.func (.func 129) #[] #[.pointer (some ⟨w.heap.size + 1 + 1, 0, none⟩)]] 165 (0, 0)) := g 3
  have hF := con.lt hD
  obtain ⟨K0, hK0⟩ : ∃ K0 : Nat → Prop, K0 = fun k => OB (.slice a0 l.length c0) k ∨ k = w.heap.size + 1 ∨ k = w.heap.size + 1 + 1 ∨ k = w.heap.size + 1 + 1 + 1 := ⟨_, rfl⟩
  have hKW : ∀ k, K0 k → k < W.heap.size ∧ ¬ F k := fun k hk => by
    subst hK0
    rcases hk with h1 | h1 | h1 | h1
    · exact ⟨by have := own_lt0 hv h1; omega, fun hf => hdj k hf h1⟩
    · exact ⟨by omega, fun hf => by have := hF k hf; omega⟩
    · exact ⟨by omega, fun hf => by have := hF k hf; omega⟩
    · exact ⟨by omega, fun hf => by have := hF k hf; omega⟩
  have hst : ∀ u, Kpt K0 W u → StrsAt u a0 l := fun u hu => strs_kept (hv.below hb) (fun k hk => hu k (by subst hK0; exact Or.inl hk))
  have c1 : ∀ u, Kpt K0 W u → u.cell? ⟨w.heap.size + 1, 0, none⟩ = some (.slice a0 l.length c0) := fun u hu => hu.cell (by subst hK0; exact Or.inr (Or.inl rfl)) (by simp [World.cell?, g1])
  have c2 : ∀ u, Kpt K0 W u → u.cell? ⟨w.heap.size + 1 + 1, 0, none⟩ = some (.string s) := fun u hu => hu.cell (by subst hK0; exact Or.inr (Or.inr (Or.inl rfl))) (by simp [World.cell?, g2])
  have c3 : ∀ u, Kpt K0 W u → u.cell? ⟨w.heap.size + 1 + 1 + 1, 0, none⟩ = some (.func (.func 129) #[] #[.pointer (some ⟨w.heap.size + 1 + 1, 0, none⟩)]) := fun u hu => hu.cell (by subst hK0; exact Or.inr (Or.inr (Or.inr rfl))) (by simp [World.cell?, g3])
  have hl4 : l.length ≤ 4096 := by omega
  have m1 : ∀ u i, Kpt K0 W u → i < N → Calls Tryz.prog 145 #[.int .i64 (i : Int), .pointer (some ⟨w.heap.size + 1, 0, none⟩)] u fun e u' => e = .returned (.string (a i)) ∧ Below u.heap.size u u' := fun u i hu hi => by
    rw [← ha i (by omega)]
    exact are_any l _ i a0 c0 u (c1 u hu) (hst u hu) (by omega) hl4
  have m2 : ∀ u i, Kpt K0 W u → i < N → Calls Tryz.prog 146 #[.int .i64 (i : Int), .pointer (some ⟨w.heap.size + 1, 0, none⟩), .pointer (some ⟨w.heap.size + 1 + 1 + 1, 0, none⟩)] u fun e u' => e = .returned (.string (recount (a i) s i)) ∧ Below u.heap.size u u' := fun u i hu hi => by
    rw [← ha i (by omega)]
    exact counted_any l s _ _ (w.heap.size + 1 + 1) i a0 c0 u (c1 u hu) (c3 u hu) (c2 u hu) (hst u hu) (by omega) hl4 (h256 _ (List.getElem_mem _))
  have m3 : ∀ u i, Kpt K0 W u → i < N → Calls Tryz.prog 129 #[.int .i64 (i : Int), .pointer (some ⟨w.heap.size + 1 + 1, 0, none⟩)] u fun e u' => e = .returned (.string (blkOf s i)) ∧ Below u.heap.size u u' := fun u i hu hi => blk_any s _ i u (c2 u hu) (by omega)
  have K1 := hide (sure_71_72 q o N (w.heap.size + 1) (w.heap.size + 1) (w.heap.size + 1 + 1 + 1) a (fun i => recount (a i) s i) st F K0 W (con.below hD hb) hok (by omega) hN ho hKW m2 m1)
  have hmk := made_ok o N a (fun i => recount (a i) s i) st hok
  have K2 : Hid (∀ F1 w1, DAt w1 q (made o (prs N a (fun i => recount (a i) s i)) st).2 F1 → Loc F F1 W w1 → w1.cell? ⟨w.heap.size, 0, none⟩ = some (.pointer (some ⟨q, 0, none⟩)) ∧ w1.cell? ⟨w.heap.size, 1, none⟩ = some (.int .i64 (o : Int)) ∧ w1.cell? ⟨w.heap.size, 2, none⟩ = some (.int .i64 (N : Int)) ∧ w1.cell? ⟨w.heap.size + 1 + 1 + 1, 0, none⟩ = some (.func (.func 129) #[] #[.pointer (some ⟨w.heap.size + 1 + 1, 0, none⟩)]) ∧
      Calls Tryz.prog 147 #[.agg #[.pointer (some ⟨q, 0, none⟩), .int .i64 (o : Int), .int .i64 (N : Int)], .func (.func 146) #[] #[.pointer (some ⟨w.heap.size + 1, 0, none⟩), .pointer (some ⟨w.heap.size + 1 + 1 + 1, 0, none⟩)], .func (.func 129) #[] #[.pointer (some ⟨w.heap.size + 1 + 1, 0, none⟩)]] w1 fun e w' => e = .returned (.int .i64 (((made o (prs N (fun i => recount (a i) s i) (blkOf s)) (made o (prs N a (fun i => recount (a i) s i)) st).2).1 : Nat) : Int)) ∧ ∃ F', DAt w' q (made o (prs N (fun i => recount (a i) s i) (blkOf s)) (made o (prs N a (fun i => recount (a i) s i)) st).2).2 F' ∧ Loc F1 F' w1 w') := fun F1 w1 hd hl => by
    have hkp : Kpt K0 W w1 := fun k hk => hl.block k (hKW k hk).1 (hKW k hk).2
    have ha0 : w1.heap[w.heap.size]? = some (.cells #[.pointer (some ⟨q, 0, none⟩), .int .i64 (o : Int), .int .i64 (N : Int)] 163 (0, 0)) := (hl.block _ (by omega) (fun hf => by have := hF _ hf; omega)).trans g0
    refine ⟨by simp [World.cell?, ha0], by simp [World.cell?, ha0], by simp [World.cell?, ha0], c3 w1 hkp, ?_⟩
    refine sure_72_66 q o N (w.heap.size + 1) (w.heap.size + 1 + 1 + 1) (w.heap.size + 1 + 1) (fun i => recount (a i) s i) (blkOf s) _ F1 K0 w1 hd hmk.1 (by have := hmk.2; omega) hN ho (fun k hk => ⟨Nat.lt_of_lt_of_le (hKW k hk).1 hl.size, fun hf => ?_⟩) (fun u i hu hi => m3 u i (hkp.trans hu) hi) (fun u i hu hi => m2 u i (hkp.trans hu) hi)
    rcases hl.own k hf with h1 | h1
    · exact (hKW k hk).2 h1
    · have := (hKW k hk).1; omega
  have HL := hide (Loc.of_below F hb)
  have KB := hide (fun u => blocks_any s u)
  have hc0 : W.cell? ⟨w.heap.size, 0, none⟩ = some (.pointer (some ⟨q, 0, none⟩)) := by simp [World.cell?, g0]
  have hc1 : W.cell? ⟨w.heap.size, 1, none⟩ = some (.int .i64 (o : Int)) := by simp [World.cell?, g0]
  have hc2 : W.cell? ⟨w.heap.size, 2, none⟩ = some (.int .i64 (N : Int)) := by simp [World.cell?, g0]
  have HM : Hid (((made o (prs N a (fun i => recount (a i) s i)) st).1 ≠ 0 → mended o N a s st = made o (prs N a (fun i => recount (a i) s i)) st) ∧ ((made o (prs N a (fun i => recount (a i) s i)) st).1 = 0 → mended o N a s st = made o (prs N (fun i => recount (a i) s i) (blkOf s)) (made o (prs N a (fun i => recount (a i) s i)) st).2)) := by
    unfold mended
    exact ⟨fun h => by rw [if_pos h], fun h => by rw [if_neg (by rw [h]; simp)]⟩
  clear hD hok hlo hv hdj h256 ha hb g g0 g1 g2 g3 hKW hst c1 c2 c3 m1 m2 m3 hmk hF hlN hN ho hl4
  generalize mended o N a s st = M at *
  generalize made o (prs N a (fun i => recount (a i) s i)) st = M1 at *
  generalize made o (prs N (fun i => recount (a i) s i) (blkOf s)) M1.2 = M2 at *
  go_enter Tryz.func122, Tryz.ntmps122
  go_wp2_with fail
  refine (KB.out _).mono ?_
  rintro e w1 ⟨rfl, rfl⟩
  by_cases h0 : M1.1 = 0
  · have HA := hide (HM.out.2 h0)
    rw [h0] at K1
    clear h0
    go_wp2_with fail
    refine K1.out.mono ?_
    rintro e w1 ⟨rfl, F1, hd, hl⟩
    obtain ⟨hq0, hq1, hq2, hq3, hq4⟩ := K2.out F1 w1 hd hl
    have HL1 := hide hl
    have K3 := hide hq4
    clear hd hl hq4
    go_wp2_with fail
    refine K3.out.mono ?_
    rintro e w2 ⟨rfl, F2, hd2, hl2⟩
    have HD2 := hide hd2
    have HL2 := hide hl2
    clear hd2 hl2
    go_wp2
    go_ret
    exact ⟨by rw [HA.out]; rfl, F2, by rw [HA.out]; exact HD2.out, (HL.out.trans HL1.out).trans HL2.out⟩
  · have HA := hide (HM.out.1 h0)
    have hez : ¬ ((M1.1 : Int) = 0) := by omega
    clear h0
    go_wp2_with fail
    refine K1.out.mono ?_
    rintro e w1 ⟨rfl, F1, hd, hl⟩
    have HD1 := hide hd
    have HL1 := hide hl
    clear hd hl
    go_wp2
    go_ret
    exact ⟨by rw [HA.out]; rfl, F1, by rw [HA.out]; exact HD1.out, HL.out.trans HL1.out⟩
end Go.Proofs.YtchhojkhfdkhfaaGreatDoor
namespace Go.Proofs.YtchhojkhfdkhfaaGreatDoor
open Go Go.RowKit Frm
set_option maxRecDepth 4000 in
theorem blkOf_eq {s t : ByteArray} {k j : Nat} (hc : cnt k s.size = cnt j t.size) (hd : ∀ i, i < cnt k s.size → byteAt s (k * 255 + i) = byteAt t (j * 255 + i)) : blkOf s k = blkOf t j := by
  refine bytes_ext (by rw [blkOf_size, blkOf_size]) (fun i hi => ?_)
  rw [blkOf_size] at hi
  by_cases h1 : i < cnt k s.size
  · rw [blkOf_data s k i h1, blkOf_data t j i (by rw [← hc]; exact h1)]
    exact hd i h1
  · by_cases h2 : i < 255
    · rw [blkOf_rest s k i (by omega) h2, blkOf_rest t j i (by rw [← hc]; omega) h2]
    · have e : i = 255 := by omega
      subst e
      rw [blkOf_last, blkOf_last, hc]
set_option maxRecDepth 4000 in
theorem blkOf_shift (s : ByteArray) (c j : Nat) : blkOf s (c + j) = blkOf (s.extract (c * 255) s.size) j := by
  have hsz : (s.extract (c * 255) s.size).size = s.size - c * 255 := part_size s _ _ (Nat.le_refl _)
  have hm : (c + j) * 255 = c * 255 + j * 255 := Nat.add_mul _ _ _
  refine blkOf_eq ?_ (fun i hi => ?_)
  · rw [hsz]
    unfold cnt
    rw [hm]
    omega
  · have hlt : (c + j) * 255 + i < s.size := by unfold cnt at hi; omega
    rw [byteAt_part s (c * 255) s.size (j * 255 + i) (Nat.le_refl _) (by omega), hm, Nat.add_assoc]
theorem extract_app (s f : ByteArray) (c : Nat) (hc : c ≤ s.size) : (s ++ f).extract c (s ++ f).size = s.extract c s.size ++ f := by
  have hs : (s ++ f).size = s.size + f.size := ByteArray.size_append
  have h1 := part_size (s ++ f) c (s ++ f).size (Nat.le_refl _)
  have h2 := part_size s c s.size (Nat.le_refl _)
  refine bytes_ext (by rw [h1, ByteArray.size_append (a := s.extract c s.size), h2]; omega) (fun i hi => ?_)
  rw [h1] at hi
  rw [byteAt_part _ c _ i (Nat.le_refl _) (by omega)]
  by_cases h : i < s.size - c
  · rw [byteAt_append_left (by omega), byteAt_append_left (by omega), byteAt_part s c s.size i (Nat.le_refl _) (by omega)]
  · rw [byteAt_append_right (by omega), byteAt_append_right (by omega), h2, show c + i - s.size = i - (s.size - c) from by omega]
set_option maxRecDepth 4000 in
theorem blkOf_full (s f : ByteArray) (i : Nat) (h : i * 255 + 255 ≤ s.size) : blkOf s i = blkOf (s ++ f) i := by
  have hs : (s ++ f).size = s.size + f.size := ByteArray.size_append
  refine blkOf_eq (by unfold cnt; omega) (fun j hj => ?_)
  have := cnt_le i s.size
  rw [byteAt_append_left (by omega)]
theorem blkOf_past (s t : ByteArray) (k j : Nat) (h : s.size ≤ k * 255) (h' : t.size ≤ j * 255) : blkOf s k = blkOf t j := by
  have h0 : cnt k s.size = 0 := by unfold cnt; omega
  refine blkOf_eq (by unfold cnt; omega) (fun i hi => by omega)
theorem puts_cons (o : Nat) (x : ByteArray × ByteArray) (l : List (ByteArray × ByteArray)) (i : Nat) (st : St) : puts o (x :: l) i st = if x.1 = x.2 then puts o l (i + 1) st else if (st.write ((o + i : Nat) : Int) x.2).1 = 0 then puts o l (i + 1) (st.write ((o + i : Nat) : Int) x.2).2 else st.write ((o + i : Nat) : Int) x.2 := rfl
theorem puts_head (o : Nat) : ∀ (l m : List (ByteArray × ByteArray)) (i : Nat) (st : St), (∀ x ∈ l, x.1 = x.2) → puts o (l ++ m) i st = puts o m (i + l.length) st
  | [], _, _, _, _ => rfl
  | x :: l, m, i, st, h => by
    rw [List.cons_append, puts_cons, if_pos (h x (by simp)), puts_head o l m (i + 1) st (fun y hy => h y (List.mem_cons_of_mem _ hy)), List.length_cons, show i + 1 + l.length = i + (l.length + 1) from by omega]
theorem puts_equal (o : Nat) : ∀ (m : List (ByteArray × ByteArray)) (i : Nat) (st : St), (∀ x ∈ m, x.1 = x.2) → puts o m i st = (0, st)
  | [], _, _, _ => rfl
  | x :: l, i, st, h => by rw [puts_cons, if_pos (h x (by simp)), puts_equal o l (i + 1) st (fun y hy => h y (List.mem_cons_of_mem _ hy))]
theorem puts_end (o : Nat) : ∀ (l m : List (ByteArray × ByteArray)) (i : Nat) (st : St), (∀ x ∈ m, x.1 = x.2) → puts o (l ++ m) i st = puts o l i st
  | [], m, i, st, h => by rw [List.nil_append, puts_equal o m i st h]; rfl
  | x :: l, m, i, st, h => by
    rw [List.cons_append, puts_cons, puts_cons]
    split
    · exact puts_end o l m (i + 1) st h
    · split
      · exact puts_end o l m (i + 1) _ h
      · rfl
theorem puts_shift (o d : Nat) : ∀ (l : List (ByteArray × ByteArray)) (i : Nat) (st : St), puts o l (i + d) st = puts (o + d) l i st
  | [], _, _ => rfl
  | x :: l, i, st => by
    rw [puts_cons, puts_cons, show o + (i + d) = o + d + i from by omega, show i + d + 1 = i + 1 + d from by omega]
    split
    · exact puts_shift o d l (i + 1) st
    · split
      · exact puts_shift o d l (i + 1) _
      · rfl
theorem prs_split (c t : Nat) (a b : Nat → ByteArray) : prs (c + t) a b = prs c a b ++ prs t (fun j => a (c + j)) (fun j => b (c + j)) := by
  unfold prs
  rw [List.range_add, List.map_append, List.map_map]
  rfl
theorem prs_same {n : Nat} {a b : Nat → ByteArray} (h : ∀ i, i < n → a i = b i) : ∀ x ∈ prs n a b, x.1 = x.2 := fun x hx => by
  unfold prs at hx
  obtain ⟨i, hi, rfl⟩ := List.mem_map.1 hx
  exact h i (List.mem_range.1 hi)
theorem tail_size (s : ByteArray) : (tailOf s).size = s.size % 255 := by
  unfold tailOf
  rw [part_size s _ _ (Nat.le_refl _)]
  omega
theorem tail_at (s : ByteArray) : tailOf s = s.extract (s.size / 255 * 255) s.size := by
  unfold tailOf
  rw [show s.size - s.size % 255 = s.size / 255 * 255 from by omega]
theorem full_le (m : Nat) : m / 255 * 255 ≤ m := by omega
set_option maxRecDepth 8000 in
/-- The blocks that are gone through at an Append are enough. -/
theorem puts_touched (o n : Nat) (s f : ByteArray) (st : St) (h : s.size + f.size ≤ n * 255) :
    puts (o + s.size / 255) (prs (((tailOf s ++ f).size + 254) / 255) (blkOf (tailOf s)) (blkOf (tailOf s ++ f))) 0 st = puts o (prs n (blkOf s) (blkOf (s ++ f))) 0 st := by
  have hsz : (tailOf s ++ f).size = s.size % 255 + f.size := by rw [ByteArray.size_append, tail_size]
  have hfl := full_le s.size
  have hA : ∀ j, blkOf s (s.size / 255 + j) = blkOf (tailOf s) j := fun j => by rw [blkOf_shift s _ j, tail_at]
  have hB : ∀ j, blkOf (s ++ f) (s.size / 255 + j) = blkOf (tailOf s ++ f) j := fun j => by
    rw [blkOf_shift (s ++ f) _ j, extract_app s f _ hfl, tail_at]
  obtain ⟨d, hd⟩ : ∃ d, n = s.size / 255 + (((tailOf s ++ f).size + 254) / 255 + d) := ⟨n - (s.size / 255 + ((tailOf s ++ f).size + 254) / 255), by rw [hsz]; omega⟩
  generalize hT : ((tailOf s ++ f).size + 254) / 255 = t at *
  rw [hd, prs_split (s.size / 255) (t + d), puts_head o _ _ 0 st (prs_same (fun i hi => blkOf_full s f i (by omega))), prs_length, prs_split t d, puts_end o _ _ _ st (prs_same (fun j _ => ?_)), puts_shift o (s.size / 255) _ 0 st]
  · rw [prs_congr (fun j _ => (hA j).symm) (fun j _ => (hB j).symm)]
  · show blkOf s (s.size / 255 + (t + j)) = blkOf (s ++ f) (s.size / 255 + (t + j))
    rw [hA, hB]
    refine blkOf_past _ _ _ _ ?_ ?_
    · rw [tail_size]; omega
    · omega
theorem tail_num (q M : Nat) (h : q * 255 ≤ M) : q * 255 + (M - q * 255 - (M - q * 255) % 255) = M - M % 255 := by omega
theorem tail_app (s f : ByteArray) : tailOf (tailOf s ++ f) = tailOf (s ++ f) := by
  have hs2 : (s ++ f).size = s.size + f.size := ByteArray.size_append
  have hfl := full_le s.size
  have e : tailOf s ++ f = (s ++ f).extract (s.size / 255 * 255) (s ++ f).size := by rw [extract_app s f _ hfl, tail_at]
  have t1 : ∀ x : ByteArray, tailOf x = x.extract (x.size - x.size % 255) x.size := fun _ => rfl
  have hx := part_size (s ++ f) (s.size / 255 * 255) (s ++ f).size (Nat.le_refl _)
  rw [e, t1 ((s ++ f).extract _ _), extract_extract, hx, t1 (s ++ f), tail_num (s.size / 255) (s ++ f).size (by omega)]
end Go.Proofs.YtchhojkhfdkhfaaGreatDoor
namespace Go.Proofs.YtchhojkhfdkhfaaGreatDoor
open Go Go.RowKit Frm
/-- A list of texts lies apart from an object's blocks. -/
def Clear (F : Nat → Prop) (a : Option Addr) : Prop := ∀ b off, a = some ⟨b, off, none⟩ → ¬ F b
theorem Loc.drewN {F F' : Nat → Prop} {u v : World} (h : Loc F F' u v) (n : Nat) : Loc F F' u (v.drewN n) := ⟨h.os, h.tape, h.output, h.size, h.block, h.own⟩
theorem RD.drewN {u : World} {p : Nat} {st : St} {F : Nat → Prop} (h : RD u p st F) (n : Nat) : RD (u.drewN n) p st F := h.same (fun _ _ => rfl)
end Go.Proofs.YtchhojkhfdkhfaaGreatDoor
namespace Go.Proofs.YtchhojkhfdkhfaaGreatDoor
open Go Go.RowKit Frm Go.Shelf
attribute [local go_sem] Oper.semAt_some
set_option maxRecDepth 100000 in
set_option maxHeartbeats 2000000 in
theorem diff1_66_66 (n : Nat) (_hn : 1 ≤ n) (l Ba Bn Bw N pw0 pn0 : Nat) (K : Nat → Prop) (a b : Nat → ByteArray) (J Jx : List (Nat × ByteArray) → World → Prop) (W : World) (hN : N ≤ 4096) (hJ : AbidesFrom W.heap.size J)
    (hY : ∀ pre x W1, J pre W1 → pre.length < (df a b N).length → YieldAt Fence.wide (n - 1) Tryz.prog l (encD x) W1 fun e W' =>
      (e = .returned (.bool true) ∧ J (pre ++ [x]) W' ∧ (W1.heap.size ≤ W'.heap.size ∧ Kpt K W1 W')) ∨ (e = .returned (.bool false) ∧ Jx (pre ++ [x]) W'))
    (hK : ∀ k, K k → k < W.heap.size) (hKn : K Bn) (hKw : K Bw)
    (hA : W.cell? ⟨Ba, 2, none⟩ = some (.int .i64 (N : Int))) (hBn : W.cell? ⟨Bn, 0, none⟩ = some (.func (.func 129) #[] #[.pointer (some ⟨pn0, 0, none⟩)])) (hBw : W.cell? ⟨Bw, 0, none⟩ = some (.func (.func 129) #[] #[.pointer (some ⟨pw0, 0, none⟩)]))
    (hnow : ∀ u i, Kpt K W u → i < N → Calls Tryz.prog 129 #[.int .i64 (i : Int), .pointer (some ⟨pn0, 0, none⟩)] u fun e u' => e = .returned (.string (b i)) ∧ Below u.heap.size u u')
    (hwas : ∀ u i, Kpt K W u → i < N → Calls Tryz.prog 129 #[.int .i64 (i : Int), .pointer (some ⟨pw0, 0, none⟩)] u fun e u' => e = .returned (.string (a i)) ∧ Below u.heap.size u u')
    (h0 : J [] W) :
    CallsIn Fence.wide n Tryz.prog 172 #[.func (.yield l) #[] #[], .pointer (some ⟨Ba, 0, none⟩), .pointer (some ⟨Bn, 0, none⟩), .pointer (some ⟨Bw, 0, none⟩)] W fun e W' => (∃ v, e = .returned v) ∧
      ((∃ ys, ys = df a b N ∧ J ys W') ∨ (∃ pre, pre <+: df a b N ∧ Jx pre W')) := by
  refine callsIn_of_wp Tryz.func172 rfl trivial ?_ rfl
  simp only [Tryz.ntmps172, List.size_toArray, List.length_cons, List.length_nil, Nat.reduceAdd, Nat.reduceSub, Array.replicate_succ, Array.replicate_zero, List.push_toArray, List.append_toArray, List.nil_append, List.cons_append]
  gi_wp2
  gi_loopw [5, 6, 9] (fun _ _ c wr => ∃ k : Nat, k ≤ N ∧ c = .int .i64 (k : Int) ∧ J (df a b k) wr ∧ W.heap.size ≤ wr.heap.size ∧ Kpt K W wr) (fun _ _ c _ => N - (intOf c).toNat)
  case atStart => exact ⟨0, Nat.zero_le _, rfl, h0, Nat.le_refl _, fun _ _ => rfl⟩
  case round =>
    obtain ⟨k, hk, rfl, hJk, hsz, hkp⟩ := hrel
    have HJk := hide hJk
    have HJ := hide hJ
    have HY := hide hY
    have HKP := hide hkp
    have HNW := hide hnow
    have HWS := hide hwas
    have HN := hide hN
    have HK := hide hK
    have HA := hide hA
    have HBn := hide hBn
    have HBw := hide hBw
    have hcn := hkp.cell hKn hBn
    clear hJk hJ hY hkp hnow hwas h0 hN hK hA hBn hBw
    by_cases hlt : k < N
    · have hz : (k : Int) < (N : Int) := by omega
      have hkN : k ≤ 4096 := by have := HN.out; omega
      have hw : IntKind.i64.wrap ((k : Int) + 1) = (k : Int) + 1 := by rw [IntKind.wrap_i64]; omega
      by_cases hab : a k = b k
      · have HD : Hid (df a b (k + 1) = df a b k) := by show _ = _; rw [df_succ, if_pos hab, List.append_nil]
        gi_wp2_with (fail)
        refine ⟨trivial, (callsIn_wide.2 (HNW.out _ k HKP.out hlt)).mono ?_⟩
        rintro e w1 ⟨rfl, hb1⟩
        have HKP1 := hide (HKP.out.below HK.out hsz hb1)
        have hsz1 := Nat.le_trans hsz hb1.size
        have hcw := HKP1.out.cell hKw HBw.out
        have HJ1 := hide (HJ.out _ _ _ none HJk.out (grown_of_below hb1) (fun r e => by cases e))
        clear hb1
        gi_wp2_with (fail)
        refine ⟨trivial, (callsIn_wide.2 (HWS.out _ k HKP1.out hlt)).mono ?_⟩
        rintro e w2 ⟨rfl, hb2⟩
        have HKP2 := hide (HKP1.out.below HK.out hsz1 hb2)
        have hsz2 := Nat.le_trans hsz1 hb2.size
        have hJ2 := HJ.out _ _ _ none HJ1.out (grown_of_below hb2) (fun r e => by cases e)
        clear hb2
        rw [hab]
        have HJ2 := hide hJ2
        clear hJ2
        gi_wp2_with (refine ⟨fun _ h => (by cases h), ?_⟩)
        go_roundw
        case rel => exact ⟨k + 1, hlt, by go_num, by rw [HD.out]; exact HJ2.out, hsz2, HKP2.out⟩
        case measure => simp [intOf]; omega
      · gi_wp2_with (fail)
        refine ⟨trivial, (callsIn_wide.2 (HNW.out _ k HKP.out hlt)).mono ?_⟩
        rintro e w1 ⟨rfl, hb1⟩
        have HKP1 := hide (HKP.out.below HK.out hsz hb1)
        have hsz1 := Nat.le_trans hsz hb1.size
        have hcw := HKP1.out.cell hKw HBw.out
        have HJ1 := hide (HJ.out _ _ _ none HJk.out (grown_of_below hb1) (fun r e => by cases e))
        clear hb1
        gi_wp2_with (fail)
        refine ⟨trivial, (callsIn_wide.2 (HWS.out _ k HKP1.out hlt)).mono ?_⟩
        rintro e w2 ⟨rfl, hb2⟩
        have HKP2 := hide (HKP1.out.below HK.out hsz1 hb2)
        have hsz2 := Nat.le_trans hsz1 hb2.size
        have hJ2 := HJ.out _ _ _ none HJ1.out (grown_of_below hb2) (fun r e => by cases e)
        clear hb2
        have hne : ((b k).toList == (a k).toList) = false := toList_ne (fun e => hab e.symm)
        have hDs : df a b (k + 1) = df a b k ++ [(k, b k)] := by rw [df_succ, if_neg hab]
        have hpre : df a b k ++ [(k, b k)] <+: df a b N := by rw [← hDs, show N = k + 1 + (N - (k + 1)) from by omega]; exact df_prefix a b (k + 1) _
        have hlen : (df a b k).length < (df a b N).length := by
          have := hpre.length_le
          rw [List.length_append] at this
          simp at this
          omega
        obtain ⟨fn, tmps, assign, body, hy0, hR⟩ := HY.out (df a b k) (k, b k) w2 hJ2 hlen
        have hy : (Instr.yield l #[.int .i64 (k : Int), .string (b k)]).run Tryz.prog w2 = .ok (.round l fn tmps assign body) w2 := hy0
        have HD := hide hDs
        have HP := hide hpre
        clear hy0 hDs hpre hlen hJ2
        gi_wp2
        refine hR.mono ?_
        rintro e W3 (⟨rfl, hJ3, hs3, hk3⟩ | ⟨rfl, hJx3⟩)
        · have HJ3 := hide hJ3
          have HKP3 := hide (HKP2.out.trans hk3)
          clear hJ3 hk3
          gi_wp2
          go_roundw
          case rel => exact ⟨k + 1, hlt, by go_num, by rw [HD.out]; exact HJ3.out, Nat.le_trans hsz2 hs3, HKP3.out⟩
          case measure => simp [intOf]; omega
        · have HJx3 := hide hJx3
          clear hJx3
          gi_wp2
          refine bodyPost_ret (results_none rfl _ _ _) rfl ?_
          exact ⟨⟨_, rfl⟩, .inr ⟨_, HP.out, HJx3.out⟩⟩
    · have hkN : k = N := by omega
      subst hkN
      gi_wp2
      go_end0
      exact ⟨⟨_, rfl⟩, .inl ⟨_, rfl, HJk.out⟩⟩
/-- The iterator's contract. -/
theorem diff_66_66 (n : Nat) (hn : 1 ≤ n) (Ba Bn Bw N pw0 pn0 : Nat) (K : Nat → Prop) (a b : Nat → ByteArray) (w : World) (hN : N ≤ 4096)
    (hK : ∀ k, K k → k < w.heap.size) (hKa : K Ba) (hKn : K Bn) (hKw : K Bw)
    (hA : w.cell? ⟨Ba, 2, none⟩ = some (.int .i64 (N : Int))) (hBn : w.cell? ⟨Bn, 0, none⟩ = some (.func (.func 129) #[] #[.pointer (some ⟨pn0, 0, none⟩)])) (hBw : w.cell? ⟨Bw, 0, none⟩ = some (.func (.func 129) #[] #[.pointer (some ⟨pw0, 0, none⟩)]))
    (hnow : ∀ u i, Kpt K w u → i < N → Calls Tryz.prog 129 #[.int .i64 (i : Int), .pointer (some ⟨pn0, 0, none⟩)] u fun e u' => e = .returned (.string (b i)) ∧ Below u.heap.size u u')
    (hwas : ∀ u i, Kpt K w u → i < N → Calls Tryz.prog 129 #[.int .i64 (i : Int), .pointer (some ⟨pw0, 0, none⟩)] u fun e u' => e = .returned (.string (a i)) ∧ Below u.heap.size u u') :
    SeqStopsK Fence.wide n Tryz.prog 172 #[.pointer (some ⟨Ba, 0, none⟩), .pointer (some ⟨Bn, 0, none⟩), .pointer (some ⟨Bw, 0, none⟩)] encD (fun A B => A.heap.size ≤ B.heap.size ∧ Kpt K A B) (fun ys => ys = df a b N) (fun pre => pre <+: df a b N) (df a b N).length w := fun l J Jx W hW hJ _ hY h0 =>
  have hk : Kpt K w W := fun k hk => hW.block k (hK k hk)
  diff1_66_66 n hn l Ba Bn Bw N pw0 pn0 K a b J Jx W hN hJ hY (fun k h => Nat.lt_of_lt_of_le (hK k h) hW.size) hKn hKw (hk.cell hKa hA) (hk.cell hKn hBn) (hk.cell hKw hBw) (fun u i hu hi => hnow u i (hk.trans hu) hi) (fun u i hu hi => hwas u i (hk.trans hu) hi) h0
end Go.Proofs.YtchhojkhfdkhfaaGreatDoor
namespace Go.Proofs.YtchhojkhfdkhfaaGreatDoor
open Go Go.RowKit Frm Go.Shelf
attribute [local go_sem] Oper.semAt_some
set_option maxRecDepth 100000 in
set_option maxHeartbeats 4000000 in
theorem lay_66_66 (q o N pw0 pn0 : Nat) (a b : Nat → ByteArray) (st : St) (F K0 : Nat → Prop) (w : World) (hD : DAt w q st F) (hok : st.Ok) (hlo : st.loose.length + N ≤ 10000) (hN : N ≤ 4096) (ho : o ≤ 4096) (hK0 : ∀ k, K0 k → k < w.heap.size ∧ ¬ F k)
    (hnow : ∀ u i, Kpt K0 w u → i < N → Calls Tryz.prog 129 #[.int .i64 (i : Int), .pointer (some ⟨pn0, 0, none⟩)] u fun e u' => e = .returned (.string (b i)) ∧ Below u.heap.size u u')
    (hwas : ∀ u i, Kpt K0 w u → i < N → Calls Tryz.prog 129 #[.int .i64 (i : Int), .pointer (some ⟨pw0, 0, none⟩)] u fun e u' => e = .returned (.string (a i)) ∧ Below u.heap.size u u') :
    Calls Tryz.prog 159 #[.agg #[.pointer (some ⟨q, 0, none⟩), .int .i64 (o : Int), .int .i64 (N : Int)], .func (.func 129) #[] #[.pointer (some ⟨pw0, 0, none⟩)], .func (.func 129) #[] #[.pointer (some ⟨pn0, 0, none⟩)]] w (LaidOut q o N a b st F w) := by
  have hF : ∀ k, F k → k < w.heap.size := con.lt hD
  have hK1 : ∀ k, K0 k → k < w.heap.size := fun k hk => (hK0 k hk).1
  obtain ⟨W0, hW0⟩ : ∃ W0, (((((((w.alloc (.cells #[.pointer (some ⟨q, 0, none⟩), .int .i64 (o : Int), .int .i64 (N : Int)] 163)).alloc (.cells #[.bool false] 4)).alloc (.cells #[.int .i64 0] 29)).alloc (.cells #[.bool false] 4)).alloc (.cells #[.pointer (some ⟨q, 0, none⟩), .int .i64 (o : Int), .int .i64 (N : Int)] 163)).alloc (.cells #[.func (.func 129) #[] #[.pointer (some ⟨pw0, 0, none⟩)]] 165)).alloc (.cells #[.func (.func 129) #[] #[.pointer (some ⟨pn0, 0, none⟩)]] 165)) = W0 := ⟨_, rfl⟩
  obtain ⟨hI0, hsz0, hA0, hNow0, hWas0, hkp0⟩ := lay_start q o N st F K0 w hD hK0 (.func (.func 129) #[] #[.pointer (some ⟨pw0, 0, none⟩)]) (.func (.func 129) #[] #[.pointer (some ⟨pn0, 0, none⟩)]) W0 hW0
  have HIT := hide (diff_66_66 5 (by decide) (w.heap.size + 1 + 1 + 1 + 1) (w.heap.size + 1 + 1 + 1 + 1 + 1 + 1) (w.heap.size + 1 + 1 + 1 + 1 + 1) N pw0 pn0 (KL w.heap.size K0) a b W0 hN (fun k hk => by rw [hsz0]; exact KL.lt hK1 k hk) (Or.inr (Or.inl rfl)) (Or.inr (Or.inr (Or.inr rfl))) (Or.inr (Or.inr (Or.inl rfl))) hA0 hNow0 hWas0
    (fun u i hu hi => hnow u i (fun k hk => (hu k (Or.inl hk)).trans (hkp0 k hk)) hi) (fun u i hu hi => hwas u i (fun k hk => (hu k (Or.inl hk)).trans (hkp0 k hk)) hi))
  have HNW := hide hnow
  have HI0 := hide hI0
  clear hI0 hnow hwas
  refine (callsIn_wide (n := 6)).1 ?_
  refine callsIn_of_wp_marks Tryz.func159 rfl trivial ?_ rfl
  simp only [Tryz.ntmps159, List.size_toArray, List.length_cons, List.length_nil, Nat.reduceAdd, Nat.reduceSub, Array.replicate_succ, Array.replicate_zero, List.push_toArray, List.append_toArray, List.nil_append, List.cons_append]
  gi_wp2_with (refine ⟨trivial, ?_⟩; gi_at_call 166; refine (differing_in _ q (o : Int) (N : Int) 129 129 _ _ _).mono ?_; rintro e w' ⟨rfl, rfl⟩)

  clear hW0 hA0 hNow0 hWas0 hkp0
  refine wpIn_rangeFunc_ownH rfl (by decide) (gf := 172) (lb := #[.pointer (some ⟨w.heap.size + 1 + 1 + 1 + 1, 0, none⟩), .pointer (some ⟨w.heap.size + 1 + 1 + 1 + 1 + 1 + 1, 0, none⟩), .pointer (some ⟨w.heap.size + 1 + 1 + 1 + 1 + 1, 0, none⟩)]) rfl trivial (enters_of Tryz.func172 (by kernel_rfl) rfl)
    HIT.out (fun h k => ⟨Nat.le_trans h.1 k.1, h.2.trans k.2⟩) (fun W l ob ob' hl hh _ _ => kp_put hK1 (by rw [← hsz0]; exact hl)) (Below.refl _ _) (fun _ => rfl)
    (LIn w q o N st F K0) (LOut w q o N st F K0) (LIn.own hK1 (by rw [hsz0]; exact Nat.le_refl _)) (LOut.own hK1 (by rw [hsz0]; exact Nat.le_refl _))
    HI0.out
    (fun x a' _ => a' = { tmps := #[.agg #[.pointer (some ⟨q, 0, none⟩), .int .i64 (o : Int), .int .i64 (N : Int)], .func (.func 129) #[] #[.pointer (some ⟨pw0, 0, none⟩)], .func (.func 129) #[] #[.pointer (some ⟨pn0, 0, none⟩)], .pointer (some ⟨w.heap.size, 0, none⟩), undef, undef, .pointer (some ⟨w.heap.size + 1, 0, none⟩), .pointer (some ⟨w.heap.size + 1 + 1, 0, none⟩), .pointer (some ⟨w.heap.size + 1 + 1 + 1, 0, none⟩), .int .i64 (x.1 : Int), .string x.2, undef, .agg #[.pointer (some ⟨q, 0, none⟩), .int .i64 (o : Int), .int .i64 (N : Int)], .func (.func 129) #[] #[.pointer (some ⟨pw0, 0, none⟩)], .func (.func 129) #[] #[.pointer (some ⟨pn0, 0, none⟩)], .func (.func 172) #[] #[.pointer (some ⟨w.heap.size + 1 + 1 + 1 + 1, 0, none⟩), .pointer (some ⟨w.heap.size + 1 + 1 + 1 + 1 + 1 + 1, 0, none⟩), .pointer (some ⟨w.heap.size + 1 + 1 + 1 + 1 + 1, 0, none⟩)], .int .i64 (x.1 : Int), .string x.2, undef, undef, undef, undef, undef, undef, undef, undef, undef, undef, undef, undef], defers := [] }) (fun x a' _ X Y row hs hg hr => hs)
    ?assign ?body ?done ?stop
  case assign =>
    rintro l pre x W K hi hK
    dsimp only [encD]
    have HK := hide hK
    have HI := hide hi
    clear hK hi
    gi_wp2
    exact HK.out _ _ (KeepsFrom.refl _ _) ⟨Nat.le_refl _, fun _ _ => rfl⟩ HI.out rfl
  case body =>
    rintro l pre x a' W hl ⟨r, hr⟩ ⟨F', hi, h0⟩ rfl hlt
    have hst := LayIn.state hi hok hlo (Nat.le_trans (Nat.le_of_lt hlt) (df_length a b N))
    have hc0 := hi.c0
    have hc1 := hi.c1
    have KW := hide (write_any q _ F' (wrap64 ((o : Int) + (x.1 : Int))) x.2 W hi.disk hst.1 hst.2)
    have HI := hide hi
    have H0 := hide h0
    have HKK := hide hK0
    have HFF := hide hF
    have HK1 := hide hK1
    clear hi h0 hst hK0 hF hK1
    by_cases he : ((pw o pre st).2.write (wrap64 ((o : Int) + (x.1 : Int))) x.2).1 = 0
    · rw [he] at KW
      have HE := hide he
      clear he
      gi_wp2_with (fail)
      refine ⟨trivial, CallsIn.mono (F := Fence.wide) (callsIn_wide.2 KW.out) ?_⟩
      rintro e W1 ⟨rfl, F2, hd, hloc⟩
      have h1 := HI.out.write HFF.out HKK.out H0.out hd hloc
      have hfw := h1.w.frozen
      have hcw := h1.w.cell
      have H1 := hide h1
      have HL := hide hloc
      clear h1 hd hloc
      gi_wp2
      exact lay_go HI.out H1.out HL.out HFF.out HKK.out H0.out HE.out
    · have hez : ¬ (((((pw o pre st).2.write (wrap64 ((o : Int) + (x.1 : Int))) x.2).1 : Nat) : Int) = 0) := by omega
      have HE := hide he
      clear he
      generalize hen : ((pw o pre st).2.write (wrap64 ((o : Int) + (x.1 : Int))) x.2).1 = en at *
      have HEN := hide hen
      clear hen
      gi_wp2_with (fail)
      refine ⟨trivial, CallsIn.mono (F := Fence.wide) (callsIn_wide.2 KW.out) ?_⟩
      rintro e W1 ⟨rfl, F2, hd, hloc⟩
      have h1 := HI.out.write HFF.out HKK.out H0.out hd hloc
      have hfb := h1.b.frozen
      have hcb := h1.b.cell
      have hfe := h1.e.frozen
      have hce := h1.e.cell
      have H1 := hide h1
      have HL := hide hloc
      clear h1 hd hloc
      gi_wp2
      exact lay_no HI.out H1.out HL.out HFF.out HK1.out H0.out (HEN.out.symm ▸ HE.out) HEN.out
  case done =>
    rintro D ys W hD rfl ⟨F', hi, h0⟩ hK
    have hfb := hi.b.frozen
    have hcb := hi.b.cell
    have hfe := hi.e.frozen
    have hce := hi.e.cell
    have hcw := hi.w.cell
    have HI := hide hi
    have H0 := hide h0
    have HK := hide hK
    clear hi h0 hK
    gi_wp2
    obtain ⟨hK', k1, k2, hl⟩ := lay_done a b ho hN HI.out hF hK1 H0.out HK.out (by omega)
    refine ⟨by simp, .inl ⟨_, _, rfl, run_takeDeferred hK', ?_⟩⟩
    refine ⟨.tuple #[.bool (!(df a b N).isEmpty), .int .i64 0], ?_, hl⟩
    simp [results, Tryz.f159, go_sem, k1, k2]
  case stop =>
    rintro D c pre W hD hpre ⟨rfl, h0, F', vW, hi⟩ hK
    obtain ⟨hK', k1, k2, hl⟩ := lay_stop a b ho hN hi hK1 h0 hpre hK (by omega)
    gi_wp2
    refine ⟨by simp, .inl ⟨_, _, rfl, run_takeDeferred hK', ?_⟩⟩
    refine ⟨.tuple #[.bool false, .int .i64 (((pw o pre st).1 : Nat) : Int)], ?_, hl⟩
    simp [results, Tryz.f159, go_sem, k1, k2]
end Go.Proofs.YtchhojkhfdkhfaaGreatDoor
namespace Go.Proofs.YtchhojkhfdkhfaaGreatDoor
open Go Go.RowKit Frm
theorem bgrow0 (u : World) (ob : Obj) : Below u.heap.size u (u.alloc ob) := (Below.refl _ _).alloc (Nat.le_refl _) _
theorem cellAl {u : World} {a : Addr} {v : Value} (h : u.cell? a = some v) (ob : Obj) : (u.alloc ob).cell? a = some v := cellB (bgrow0 u ob) h
theorem cellLoc {F F' : Nat → Prop} {u v : World} {a : Addr} {x : Value} (hl : Loc F F' u v) (hF : ¬ F a.block) (h : u.cell? a = some x) : v.cell? a = some x := (World.cell?_of_block (hl.block a.block (World.block_lt_of_cell? u _ h) hF)).trans h
/-- What Append leaves: the log's stream, the disk. -/
def Apd (p q o n : Nat) (s : ByteArray) (b : Bool) (st : St) (F : Nat → Prop) (w : World) (x : Int) (e : Ending) (w' : World) : Prop :=
  e = .returned (.int .i64 x) ∧ LAt w' p q o n s b ∧ ∃ F', DAt w' q st F' ∧ Loc (fun k => F k ∨ k = p) (fun k => F' k ∨ k = p) w w' ∧ ¬ F' p
theorem Apd.same {p q o n : Nat} {s : ByteArray} {b : Bool} {st : St} {F : Nat → Prop} {w w' : World} {x : Int} (hL : LAt w p q o n s b) (hD : DAt w q st F) (hp : ¬ F p) (hb : Below w.heap.size w w') : Apd p q o n s b st F w x (.returned (.int .i64 x)) w' :=
  ⟨rfl, hL.same (hb.block p hL.lt), F, con.below hD hb, Loc.of_below _ hb, hp⟩
set_option maxHeartbeats 400000 in
theorem append_nil (t : ByteArray) (w : World) : Calls Tryz.prog 192 #[.pointer none, .string t] w fun e w' => e = .returned (.int .i64 1) ∧ w' = w := by
  go_enter Tryz.func192, Tryz.ntmps192
  go_wp2
  go_ret
  exact ⟨rfl, rfl⟩
set_option maxHeartbeats 400000 in
theorem append_long' (p q o n : Nat) (s t : ByteArray) (st : St) (F : Nat → Prop) (w : World) (hL : LAt w p q o n s false) (hD : DAt w q st F) (hp : ¬ F p) (ht : 65536 < t.size) (ht2 : t.size ≤ maxLen) :
    Calls Tryz.prog 192 #[.pointer (some ⟨p, 0, none⟩), .string t] w (Apd p q o n s false st F w 4) := by
  have c0 := hL.c0
  have c5 := hL.c5
  have KF := hide (frame_long t w ht ht2)
  have H := hide (fun x => Apd.same (x := x) hL hD hp (Below.refl _ _))
  clear hL hD hp ht ht2
  go_enter Tryz.func192, Tryz.ntmps192
  go_wp2_with fail
  refine KF.out.mono ?_
  rintro e w1 ⟨rfl, hw1⟩
  obtain rfl := hw1.symm
  go_wp2
  go_ret
  exact H.out 4
set_option maxHeartbeats 400000 in
theorem append_full' (p q o n : Nat) (s t : ByteArray) (st : St) (F : Nat → Prop) (w : World) (hL : LAt w p q o n s false) (hD : DAt w q st F) (hp : ¬ F p) (ht : t.size ≤ 65536) (hn : n ≤ 200) (hs : s.size ≤ n * 255) (hfit : n * 255 < s.size + (t.size + 8)) :
    Calls Tryz.prog 192 #[.pointer (some ⟨p, 0, none⟩), .string t] w (Apd p q o n s false st F w 6) := by
  have c0 := hL.c0
  have c5 := hL.c5
  have KF := hide (frame_any t w ht)
  have hz : (n : Int) * 255 - (s.size : Int) < ((frm t).size : Int) := by rw [frm_size]; omega
  have HLt := hide hL
  have HR := hide (fun u (hu : LAt u p q o n s false) => room_any p q o n s false u hu (by omega) hs)
  have H := hide (fun x w' hb => Apd.same (x := x) (w' := w') hL hD hp hb)
  clear hL hD hp ht hn hs hfit
  generalize frm t = f at *
  go_enter Tryz.func192, Tryz.ntmps192
  go_wp2_with fail
  refine KF.out.mono ?_
  rintro e w1 ⟨rfl, hb1⟩
  have KR := hide (HR.out w1 (HLt.out.same (hb1.block p HLt.out.lt)))
  have HB := hide hb1
  clear hb1
  go_wp2_with fail
  refine KR.out.mono ?_
  rintro e w2 ⟨rfl, m, rfl⟩
  go_wp2
  go_ret
  exact H.out 6 _ (below_drewN HB.out m)
/-- What lay finds when Append calls it. -/
theorem append_lay (q o n : Nat) (s f : ByteArray) (st : St) (F : Nat → Prop) (w u : World) (hD : DAt w q st F) (hok : st.Ok) (hlo : st.loose.length + n ≤ 10000) (ho : o + n ≤ 4096) (hfit : s.size + f.size ≤ n * 255) (hb : Below w.heap.size w u) :
    Calls Tryz.prog 159 #[.agg #[.pointer (some ⟨q, 0, none⟩), .int .i64 ((o + s.size / 255 : Nat) : Int), .int .i64 ((((tailOf s ++ f).size + 254) / 255 : Nat) : Int)], .func (.func 129) #[] #[.pointer (some ⟨u.heap.size, 0, none⟩)], .func (.func 129) #[] #[.pointer (some ⟨u.heap.size + 1, 0, none⟩)]] ((u.alloc (.cells #[.string (tailOf s)] 9)).alloc (.cells #[.string (tailOf s ++ f)] 9)) fun e w' =>
      (∃ b, e = .returned (.tuple #[.bool b, .int .i64 (((puts o (prs n (blkOf s) (blkOf (s ++ f))) 0 st).1 : Nat) : Int)])) ∧ ∃ F', DAt w' q (puts o (prs n (blkOf s) (blkOf (s ++ f))) 0 st).2 F' ∧ Loc F F' ((u.alloc (.cells #[.string (tailOf s)] 9)).alloc (.cells #[.string (tailOf s ++ f)] 9)) w' := by
  have hF := con.lt hD
  have hsz : (tailOf s ++ f).size = s.size % 255 + f.size := by rw [ByteArray.size_append, tail_size]
  have hb2 : Below w.heap.size w ((u.alloc (.cells #[.string (tailOf s)] 9)).alloc (.cells #[.string (tailOf s ++ f)] 9)) := (hb.alloc hb.size _).alloc (by have := hb.size; simp; omega) _
  have hus := hb.size
  have g0 : ((u.alloc (.cells #[.string (tailOf s)] 9)).alloc (.cells #[.string (tailOf s ++ f)] 9)).cell? ⟨u.heap.size, 0, none⟩ = some (.string (tailOf s)) := cellAl (by simp [go_sem]) _
  have g1 : ((u.alloc (.cells #[.string (tailOf s)] 9)).alloc (.cells #[.string (tailOf s ++ f)] 9)).cell? ⟨u.heap.size + 1, 0, none⟩ = some (.string (tailOf s ++ f)) := by
    have := (Boxed.new (u.alloc (.cells #[.string (tailOf s)] 9)) 9 (.string (tailOf s ++ f))).cell
    rw [World.size_alloc] at this
    exact this
  have hlast : ((u.alloc (.cells #[.string (tailOf s)] 9)).alloc (.cells #[.string (tailOf s ++ f)] 9)).heap.size = u.heap.size + 2 := by simp
  generalize (u.alloc (.cells #[.string (tailOf s)] 9)).alloc (.cells #[.string (tailOf s ++ f)] 9) = W at *
  have hT : ((tailOf s ++ f).size + 254) / 255 ≤ n := by rw [hsz]; omega
  have hT2 : s.size / 255 + ((tailOf s ++ f).size + 254) / 255 ≤ n := by rw [hsz]; omega
  have key := lay_66_66 q (o + s.size / 255) (((tailOf s ++ f).size + 254) / 255) u.heap.size (u.heap.size + 1) (blkOf (tailOf s)) (blkOf (tailOf s ++ f)) st F (fun k => k = u.heap.size ∨ k = u.heap.size + 1) W (con.below hD hb2) hok (by omega) (by omega) (by omega)
    (fun k hk => ⟨by omega, fun hf => by have := hF k hf; omega⟩)
    (fun v i hv hi => blk_any _ _ i v (hv.cell (Or.inr rfl) g1) (by omega)) (fun v i hv hi => blk_any _ _ i v (hv.cell (Or.inl rfl) g0) (by omega))
  refine key.mono ?_
  rintro e w' ⟨rfl, F', hd, hl⟩
  rw [puts_touched o n s f st hfit] at hd ⊢
  exact ⟨⟨_, rfl⟩, F', hd, hl⟩
theorem Loc.or {F F' P : Nat → Prop} {u v : World} (h : Loc F F' u v) : Loc (fun k => F k ∨ P k) (fun k => F' k ∨ P k) u v :=
  ⟨h.os, h.tape, h.output, h.size, fun k hk hn => h.block k hk (fun hf => hn (Or.inl hf)), fun k hk => by
    rcases hk with h1 | h1
    · rcases h.own k h1 with h2 | h2
      · exact Or.inl (Or.inl h2)
      · exact Or.inr h2
    · exact Or.inl (Or.inr h1)⟩
/-- Behind lay: where the log and the disk are. -/
structure Laid (p q o n : Nat) (s : ByteArray) (st : St) (F F7 : Nat → Prop) (w w7 : World) : Prop where
  log : LAt w7 p q o n s false
  disk : DAt w7 q st F7
  loc : Loc (fun k => F k ∨ k = p) (fun k => F7 k ∨ k = p) w w7
  notp : ¬ F7 p
theorem Laid.mk' {p q o n : Nat} {s : ByteArray} {st : St} {F F7 : Nat → Prop} {w u w7 : World} {o1 o2 : Obj} (hL : LAt w p q o n s false) (hp : ¬ F p) (hb : Below w.heap.size w u) (hd : DAt w7 q st F7) (hl : Loc F F7 ((u.alloc o1).alloc o2) w7) : Laid p q o n s st F F7 w w7 := by
  have hb2 : Below w.heap.size w ((u.alloc o1).alloc o2) := (hb.alloc hb.size _).alloc (by have := hb.size; simp; omega) _
  have hlt := hL.lt
  have hs := hb2.size
  refine ⟨hL.same ((hl.block p (by omega) hp).trans (hb2.block p hlt)), hd, (Loc.of_below _ hb2).trans hl.or, fun hf => ?_⟩
  rcases hl.own p hf with h | h
  · exact hp h
  · omega
theorem Laid.broken {p q o n : Nat} {s : ByteArray} {st : St} {F F7 : Nat → Prop} {w w7 : World} (h : Laid p q o n s st F F7 w w7) (x : Int) : Apd p q o n s true st F w x (.returned (.int .i64 x)) (w7.setCell ⟨p, 5, none⟩ (.bool true)) := by
  refine ⟨rfl, ?_, F7, con.same h.disk (fun k hk => Below.heap_setCell w7 _ _ k (fun e => h.notp (by rw [show k = p from e] at hk; exact hk))), h.loc.trans (Loc.setCell w7 ⟨p, 5, none⟩ _ (Or.inr rfl)), h.notp⟩
  have := heap_set3 (i := 5) h.log (.bool true)
  exact this
theorem Laid.at8 {p q o n : Nat} {s : ByteArray} {v : Value} {st : St} {F F7 : Nat → Prop} {w w7 w8 : World} (h : Laid p q o n s st F F7 w w7) (hb : Below (w7.setCell ⟨p, 3, none⟩ v).heap.size (w7.setCell ⟨p, 3, none⟩ v) w8) : w8.cell? ⟨p, 4, none⟩ = some (.string (tailOf s)) ∧ w8.frozen? ⟨p, 4, none⟩ = false := by
  have hsz : (w7.setCell ⟨p, 3, none⟩ v).heap.size = w7.heap.size := by simp [World.setCell]
  have e8 : w8.heap[p]? = _ := (hb.block p (by rw [hsz]; exact h.log.lt)).trans (heap_set3 (i := 3) h.log v)
  exact ⟨by simp [World.cell?, e8], by simp [World.frozen?, e8]⟩
theorem Laid.done {p q o n m : Nat} {s sf T' : ByteArray} {st : St} {F F7 : Nat → Prop} {w w7 w8 : World} (h : Laid p q o n s st F F7 w w7) (hb : Below (w7.setCell ⟨p, 3, none⟩ (.int .i64 (m : Int))).heap.size (w7.setCell ⟨p, 3, none⟩ (.int .i64 (m : Int))) w8) (hm : sf.size = m) (hT : T' = tailOf sf) : Apd p q o n sf false st F w 0 (.returned (.int .i64 0)) (w8.setCell ⟨p, 4, none⟩ (.string T')) := by
  subst hm
  subst hT
  have h7 := h.log
  have hsz : (w7.setCell ⟨p, 3, none⟩ (.int .i64 (sf.size : Int))).heap.size = w7.heap.size := by simp [World.setCell]
  have e8 : w8.heap[p]? = _ := (hb.block p (by rw [hsz]; exact h7.lt)).trans (heap_set3 (i := 3) h.log (.int .i64 (sf.size : Int)))
  have ne : ∀ k, F7 k → k ≠ p := fun k hk e => h.notp (by rw [e] at hk; exact hk)
  have hd := con.lt h.disk
  refine ⟨rfl, ?_, F7, con.same h.disk (fun k hk => ?_), (h.loc.trans (Loc.setCell w7 ⟨p, 3, none⟩ _ (Or.inr rfl))).trans ((Loc.of_below _ hb).trans (Loc.setCell w8 ⟨p, 4, none⟩ _ (Or.inr rfl))), h.notp⟩
  · have := heap_set3 (i := 4) e8 (.string (tailOf sf))
    exact this
  · rw [Below.heap_setCell w8 _ _ k (ne k hk), hb.block k (by rw [hsz]; exact hd k hk), Below.heap_setCell w7 _ _ k (ne k hk)]
end Go.Proofs.YtchhojkhfdkhfaaGreatDoor
