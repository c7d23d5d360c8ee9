/- The document's own disk: Write, Read. -/
import Derived.Test.YtiebhdgpnloieaaDoorRefA
import Derived.Maps.AppendAt
namespace Go.Proofs.YtiebhdgpnloieaaDoor
open Go Go.RowKit

theorem info42 : (Tryd.prog.info? 105).map (fun i => (i.zero, i.size, i.bytes)) = some (some (.agg #[.int .i64 0, .string ⟨#[]⟩]), 2, 24) := by kernel_rfl
/-- One more write is appended, and the head holds the new row. -/
theorem RAt.appended {w1 w2 : World} {p : Nat} {vS vL vL' : Value} {st : St} {o : Obj} {x : Nat × ByteArray} (h : RAt w1 p vS vL st)
    (hown : w2.ownsRow 0 105 2 vL' (st.loose.length + 1) (looseCells st.loose ++ [.int .i64 (x.1 : Int), .string x.2])) (hg : (w1.alloc o).grownBy w2 vL.ownBlock) (hat : vL'.ownBlock = vL.ownBlock ∨ vL'.ownBlock = some (w1.heap.size + 1)) :
    RAt (w2.setCell ⟨p, 1, none⟩ vL') p vS vL' ⟨st.sure, st.loose ++ [x], st.left⟩ ∧ Loc (RF p vS vL) (RF p vS vL') w1 (w2.setCell ⟨p, 1, none⟩ vL') := by
  have hp : p < w1.heap.size := h.lt p (Or.inl rfl)
  have e1 : w2.heap[p]? = some (.cells #[vS, vL, .int .i64 st.left] 44 (0, 0)) :=
    (hg.block p (by simp; omega) (fun e => h.ne1 e.symm)).trans ((Below.heap_alloc w1 o p hp).trans h.head)
  have hS : w2.ownsRow 0 9 1 vS st.sure.length (st.sure.map Value.string) := own_same h.sure (fun g hgS => by
    have hlt := own_lt h.sure hgS
    exact (hg.block g (by simp; omega) (fun e => h.ne2 hgS e.symm)).trans (Below.heap_alloc w1 o g hlt))
  have hL : w2.ownsRow 0 105 2 vL' (st.loose ++ [x]).length (looseCells (st.loose ++ [x])) := by
    rw [looseCells_snoc, List.length_append]; exact hown
  have nS : vS.ownBlock ≠ some p := h.ne0
  have nL : vL'.ownBlock ≠ some p := fun e => by
    obtain ⟨cur, hc⟩ := row_type hL e
    rw [e1] at hc
    cases hc
  refine ⟨⟨?_, ?_, ?_⟩, ?_⟩
  · rw [heap_set3 e1]; rfl
  · exact own_same hS (fun g hgS => Below.heap_setCell w2 ⟨p, 1, none⟩ vL' g (fun e => nS (by rw [← show g = p from e]; exact hgS)))
  · exact own_same hL (fun g hgL => Below.heap_setCell w2 ⟨p, 1, none⟩ vL' g (fun e => nL (by rw [← show g = p from e]; exact hgL)))
  · have l1 : Loc (RF p vS vL) (RF p vS vL) w1 (w1.alloc o) := Loc.alloc _ _ _
    have l2 : Loc (RF p vS vL) (RF p vS vL') (w1.alloc o) w2 := Loc.of_grown hg (fun k e => Or.inr (Or.inr e)) (fun k hk => by
      rcases hk with h1 | h1 | h1
      · exact Or.inl (Or.inl h1)
      · exact Or.inl (Or.inr (Or.inl h1))
      · rcases hat with h2 | h2
        · exact Or.inl (Or.inr (Or.inr (h2 ▸ h1)))
        · rw [h2] at h1
          cases h1
          exact Or.inr (by simp))
    exact (l1.trans l2).trans (Loc.setCell w2 ⟨p, 1, none⟩ vL' (Or.inl rfl))
theorem RAt.headIn {w1 w2 : World} {p : Nat} {vS vL : Value} {st : St} {o : Obj} (h : RAt w1 p vS vL st) (hg : (w1.alloc o).grownBy w2 vL.ownBlock) : w2.cell? ⟨p, 1, none⟩ = some vL ∧ w2.frozen? ⟨p, 1, none⟩ = false := by
  have hp : p < w1.heap.size := h.lt p (Or.inl rfl)
  have e1 : w2.heap[p]? = some (.cells #[vS, vL, .int .i64 st.left] 44 (0, 0)) :=
    (hg.block p (by simp; omega) (fun e => h.ne1 e.symm)).trans ((Below.heap_alloc w1 o p hp).trans h.head)
  exact ⟨by simp [World.cell?, e1], by simp [World.frozen?, e1]⟩
set_option maxRecDepth 10000 in
set_option maxHeartbeats 1000000 in
theorem rWrite (p : Nat) (vS vL : Value) (st : St) (b : Int) (d : ByteArray) (w : World) (h : RAt w p vS vL st) (hok : st.Ok) (hl : st.loose.length ≤ 100000) :
    Calls Tryd.prog 27 #[.pointer (some ⟨p, 0, none⟩), .int .i64 b, .string d] w fun e w' => e = .returned (.int .i64 (((st.write b d).1 : Nat) : Int)) ∧ ∃ vL', RAt w' p vS vL' (st.write b d).2 ∧ Loc (RF p vS vL) (RF p vS vL') w w' := by
  obtain ⟨i0, hi, hz0, hz1, hz2⟩ := info_parts info42
  have HI := hide (And.intro hi (And.intro hz0 (And.intro hz1 hz2)))
  have H := hide h
  have HOk := hide hok
  have HD := hide (rDown p vS vL st w h)
  have HT := hide (rThere p vS vL st b w h hok.few)
  have HC := hide (rCounts p vS vL st w h hok.left)
  clear hi hz0 hz1 hz2 h hok
  by_cases h0 : st.left = 0
  · have hw : st.write b d = (50, st) := by unfold St.write; rw [if_pos h0]
    rw [hw]
    have hb : (st.left == 0) = true := by simpa using h0
    rw [hb] at HD
    clear hw hb h0
    go_enter Tryd.func27, Tryd.ntmps27
    go_wp2_with fail
    refine HD.out.mono ?_
    rintro e w1 ⟨rfl, rfl⟩
    go_wp2
    go_ret
    exact ⟨rfl, vL, H.out, Loc.refl _ _⟩
  · have hb : (st.left == 0) = false := by simpa using h0
    rw [hb] at HD
    clear hb
    by_cases h1 : 0 ≤ b ∧ b < (st.sure.length : Int)
    · rw [decide_eq_true h1] at HT
      by_cases h2 : d.size = 256
      · have hw : st.write b d = (0, ⟨st.sure, st.loose ++ [(b.toNat, d)], counted st.left⟩) := by unfold St.write; rw [if_neg h0, if_neg (fun h => h h1), if_neg (fun h => h h2)]
        rw [hw]
        have hz : (d.size : Int) = 256 := by omega
        obtain ⟨m, hm⟩ : ∃ m : Nat, b = (m : Int) := ⟨b.toNat, by omega⟩
        subst hm
        have hml : m < 4096 := by have := HOk.out.few; omega
        clear hw h0 h1 h2
        go_enter Tryd.func27, Tryd.ntmps27
        go_wp2_with fail
        refine HD.out.mono ?_
        rintro e w1 ⟨rfl, rfl⟩
        go_wp2_with fail
        refine HT.out.mono ?_
        rintro e w1 ⟨rfl, rfl⟩
        go_wp2_with fail
        refine HC.out.mono ?_
        rintro e w1 ⟨⟨v1, rfl⟩, h1, l1⟩
        have H1 := hide h1
        have L1 := hide l1
        have hc1 := h1.cell1
        have hf1 := h1.free 1
        have hr1 := h1.loose
        have HR1 := hide hr1
        clear h1 l1 hr1
        go_wp2_with (at_builtin; refine wpList_append_own_at _ rfl _ _ 42 rfl 0 105 i0 (.agg #[.int .i64 0, .string ⟨#[]⟩]) 2 24 Tryd.underlying42 HI.out.1 HI.out.2.1 HI.out.2.2.1 HI.out.2.2.2 rfl (by decide) _ _ _ rfl (World.ownsRow.alloc HR1.out _) ⟨w1.heap.size, 0, none⟩ 1 1 [.int .i64 (m : Int), .string d] rfl rfl ?c1 ?c2 ?c3 ?c4 ?c5 ?_)
        case c1 =>
          intro j u hj
          match j, hj with
          | 0, hj => simp at hj; subst hj; simp [Addr.add, go_sem]
          | 1, hj => simp at hj; subst hj; simp [Addr.add, go_sem]
        case c2 => intro u hu; simp at hu; rcases hu with rfl | rfl <;> rfl
        case c3 => unfold maxLen; omega
        case c4 => omega
        case c5 => omega
        · intro lv' w2 hown2 hgrow2 _ hat2
          obtain ⟨hc2, hf2⟩ := H1.out.headIn hgrow2
          obtain ⟨ha1, ha2⟩ := H1.out.appended (x := (m, d)) hown2 hgrow2 hat2
          obtain ⟨a', c', rfl, _⟩ := slice_of hown2
          have HA := hide (And.intro ha1 (L1.out.trans ha2))
          clear hown2 hgrow2 hat2 ha1 ha2
          go_wp2
          go_ret
          exact ⟨rfl, _, HA.out.1, HA.out.2⟩
      · have hw : st.write b d = (2, st) := by unfold St.write; rw [if_neg h0, if_neg (fun h => h h1), if_pos h2]
        rw [hw]
        have hz : ¬ ((d.size : Int) = 256) := by omega
        clear hw h0 h1 h2
        go_enter Tryd.func27, Tryd.ntmps27
        go_wp2_with fail
        refine HD.out.mono ?_
        rintro e w1 ⟨rfl, rfl⟩
        go_wp2_with fail
        refine HT.out.mono ?_
        rintro e w1 ⟨rfl, rfl⟩
        go_wp2
        go_ret
        exact ⟨rfl, vL, H.out, Loc.refl _ _⟩
    · rw [decide_eq_false h1] at HT
      have hw : st.write b d = (5, st) := by unfold St.write; rw [if_neg h0, if_pos h1]
      rw [hw]
      clear hw h0 h1
      go_enter Tryd.func27, Tryd.ntmps27
      go_wp2_with fail
      refine HD.out.mono ?_
      rintro e w1 ⟨rfl, rfl⟩
      go_wp2_with fail
      refine HT.out.mono ?_
      rintro e w1 ⟨rfl, rfl⟩
      go_wp2
      go_ret
      exact ⟨rfl, vL, H.out, Loc.refl _ _⟩
end Go.Proofs.YtiebhdgpnloieaaDoor
