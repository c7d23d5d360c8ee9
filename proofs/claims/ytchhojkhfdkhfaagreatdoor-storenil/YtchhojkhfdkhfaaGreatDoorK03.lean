/- The document's own disk: Write, Read. The document's own disk: Read, Sure. The document's own disk: Sync, Sure. The document's own disk: Crash. The document's own disk: New. What the laws ask of the program's disk: a structure of contracts. Small lemmas on worlds. Rows of blocks as lists of cells, plain. -/
import Derived.Test.YtchhojkhfdkhfaaGreatDoorK02
import Derived.Maps.AppendAt
import Derived.RegionTactic
import Derived.Deep.RegionLaw
import Derived.Deep.WholeRow
import Derived.Deep.AppendLies
import Derived.Deep.MidRow
import Derived.Test.YtchhojkhfdkhfaaGreatDoorK00
import Derived.Lib.BufferWrite
namespace Go.Proofs.YtchhojkhfdkhfaaGreatDoor
open Go Go.RowKit

theorem info42 : (Tryz.prog.info? 123).map (fun i => (i.zero, i.size, i.bytes)) = some (some (.agg #[.int .i64 0, .string ⟨#[]⟩]), 2, 24) := by kernel_rfl
/-- One more write is appended, and the head holds the new row. -/
theorem RAt.appended {w1 w2 : World} {p : Nat} {vS vL vL' : Value} {st : St} {o : Obj} {x : Nat × ByteArray} (h : RAt w1 p vS vL st)
    (hown : w2.ownsRow 0 123 2 vL' (st.loose.length + 1) (looseCells st.loose ++ [.int .i64 (x.1 : Int), .string x.2])) (hg : (w1.alloc o).grownBy w2 vL.ownBlock) (hat : vL'.ownBlock = vL.ownBlock ∨ vL'.ownBlock = some (w1.heap.size + 1)) :
    RAt (w2.setCell ⟨p, 1, none⟩ vL') p vS vL' ⟨st.sure, st.loose ++ [x], st.left⟩ ∧ Loc (RF p vS vL) (RF p vS vL') w1 (w2.setCell ⟨p, 1, none⟩ vL') := by
  have hp : p < w1.heap.size := h.lt p (Or.inl rfl)
  have e1 : w2.heap[p]? = some (.cells #[vS, vL, .int .i64 st.left] 49 (0, 0)) :=
    (hg.block p (by simp; omega) (fun e => h.ne1 e.symm)).trans ((Below.heap_alloc w1 o p hp).trans h.head)
  have hS : w2.ownsRow 0 9 1 vS st.sure.length (st.sure.map Value.string) := own_same h.sure (fun g hgS => by
    have hlt := own_lt h.sure hgS
    exact (hg.block g (by simp; omega) (fun e => h.ne2 hgS e.symm)).trans (Below.heap_alloc w1 o g hlt))
  have hL : w2.ownsRow 0 123 2 vL' (st.loose ++ [x]).length (looseCells (st.loose ++ [x])) := by
    rw [looseCells_snoc, List.length_append]; exact hown
  have nS : vS.ownBlock ≠ some p := h.ne0
  have nL : vL'.ownBlock ≠ some p := fun e => by
    obtain ⟨cur, hc⟩ := row_type hL e
    rw [e1] at hc
    cases hc
  refine ⟨⟨?_, ?_, ?_⟩, ?_⟩
  · rw [heap_set3 e1]; rfl
  · exact own_same hS (fun g hgS => Below.heap_setCell w2 ⟨p, 1, none⟩ vL' g (fun e => nS (by rw [← show g = p from e]; exact hgS)))
  · exact own_same hL (fun g hgL => Below.heap_setCell w2 ⟨p, 1, none⟩ vL' g (fun e => nL (by rw [← show g = p from e]; exact hgL)))
  · have l1 : Loc (RF p vS vL) (RF p vS vL) w1 (w1.alloc o) := Loc.alloc _ _ _
    have l2 : Loc (RF p vS vL) (RF p vS vL') (w1.alloc o) w2 := Loc.of_grown hg (fun k e => Or.inr (Or.inr e)) (fun k hk => by
      rcases hk with h1 | h1 | h1
      · exact Or.inl (Or.inl h1)
      · exact Or.inl (Or.inr (Or.inl h1))
      · rcases hat with h2 | h2
        · exact Or.inl (Or.inr (Or.inr (h2 ▸ h1)))
        · rw [h2] at h1
          cases h1
          exact Or.inr (by simp))
    exact (l1.trans l2).trans (Loc.setCell w2 ⟨p, 1, none⟩ vL' (Or.inl rfl))
theorem RAt.headIn {w1 w2 : World} {p : Nat} {vS vL : Value} {st : St} {o : Obj} (h : RAt w1 p vS vL st) (hg : (w1.alloc o).grownBy w2 vL.ownBlock) : w2.cell? ⟨p, 1, none⟩ = some vL ∧ w2.frozen? ⟨p, 1, none⟩ = false := by
  have hp : p < w1.heap.size := h.lt p (Or.inl rfl)
  have e1 : w2.heap[p]? = some (.cells #[vS, vL, .int .i64 st.left] 49 (0, 0)) :=
    (hg.block p (by simp; omega) (fun e => h.ne1 e.symm)).trans ((Below.heap_alloc w1 o p hp).trans h.head)
  exact ⟨by simp [World.cell?, e1], by simp [World.frozen?, e1]⟩
set_option maxRecDepth 10000 in
set_option maxHeartbeats 1000000 in
theorem rWrite (p : Nat) (vS vL : Value) (st : St) (b : Int) (d : ByteArray) (w : World) (h : RAt w p vS vL st) (hok : st.Ok) (hl : st.loose.length ≤ 100000) :
    Calls Tryz.prog 35 #[.pointer (some ⟨p, 0, none⟩), .int .i64 b, .string d] w fun e w' => e = .returned (.int .i64 (((st.write b d).1 : Nat) : Int)) ∧ ∃ vL', RAt w' p vS vL' (st.write b d).2 ∧ Loc (RF p vS vL) (RF p vS vL') w w' := by
  obtain ⟨i0, hi, hz0, hz1, hz2⟩ := info_parts info42
  have HI := hide (And.intro hi (And.intro hz0 (And.intro hz1 hz2)))
  have H := hide h
  have HOk := hide hok
  have HD := hide (rDown p vS vL st w h)
  have HT := hide (rThere p vS vL st b w h hok.few)
  have HC := hide (rCounts p vS vL st w h hok.left)
  clear hi hz0 hz1 hz2 h hok
  by_cases h0 : st.left = 0
  · have hw : st.write b d = (50, st) := by unfold St.write; rw [if_pos h0]
    rw [hw]
    have hb : (st.left == 0) = true := by simpa using h0
    rw [hb] at HD
    clear hw hb h0
    go_enter Tryz.func35, Tryz.ntmps35
    go_wp2_with fail
    refine HD.out.mono ?_
    rintro e w1 ⟨rfl, rfl⟩
    go_wp2
    go_ret
    exact ⟨rfl, vL, H.out, Loc.refl _ _⟩
  · have hb : (st.left == 0) = false := by simpa using h0
    rw [hb] at HD
    clear hb
    by_cases h1 : 0 ≤ b ∧ b < (st.sure.length : Int)
    · rw [decide_eq_true h1] at HT
      by_cases h2 : d.size = 256
      · have hw : st.write b d = (0, ⟨st.sure, st.loose ++ [(b.toNat, d)], counted st.left⟩) := by unfold St.write; rw [if_neg h0, if_neg (fun h => h h1), if_neg (fun h => h h2)]
        rw [hw]
        have hz : (d.size : Int) = 256 := by omega
        obtain ⟨m, hm⟩ : ∃ m : Nat, b = (m : Int) := ⟨b.toNat, by omega⟩
        subst hm
        have hml : m < 4096 := by have := HOk.out.few; omega
        clear hw h0 h1 h2
        go_enter Tryz.func35, Tryz.ntmps35
        go_wp2_with fail
        refine HD.out.mono ?_
        rintro e w1 ⟨rfl, rfl⟩
        go_wp2_with fail
        refine HT.out.mono ?_
        rintro e w1 ⟨rfl, rfl⟩
        go_wp2_with fail
        refine HC.out.mono ?_
        rintro e w1 ⟨⟨v1, rfl⟩, h1, l1⟩
        have H1 := hide h1
        have L1 := hide l1
        have hc1 := h1.cell1
        have hf1 := h1.free 1
        have hr1 := h1.loose
        have HR1 := hide hr1
        clear h1 l1 hr1
        go_wp2_with (at_builtin; refine wpList_append_own_at _ rfl _ _ 47 rfl 0 123 i0 (.agg #[.int .i64 0, .string ⟨#[]⟩]) 2 24 Tryz.underlying47 HI.out.1 HI.out.2.1 HI.out.2.2.1 HI.out.2.2.2 rfl (by decide) _ _ _ rfl (World.ownsRow.alloc HR1.out _) ⟨w1.heap.size, 0, none⟩ 1 1 [.int .i64 (m : Int), .string d] rfl rfl ?c1 ?c2 ?c3 ?c4 ?c5 ?_)
        case c1 =>
          intro j u hj
          match j, hj with
          | 0, hj => simp at hj; subst hj; simp [Addr.add, go_sem]
          | 1, hj => simp at hj; subst hj; simp [Addr.add, go_sem]
        case c2 => intro u hu; simp at hu; rcases hu with rfl | rfl <;> rfl
        case c3 => unfold maxLen; omega
        case c4 => omega
        case c5 => omega
        · intro lv' w2 hown2 hgrow2 _ hat2
          obtain ⟨hc2, hf2⟩ := H1.out.headIn hgrow2
          obtain ⟨ha1, ha2⟩ := H1.out.appended (x := (m, d)) hown2 hgrow2 hat2
          obtain ⟨a', c', rfl, _⟩ := slice_of hown2
          have HA := hide (And.intro ha1 (L1.out.trans ha2))
          clear hown2 hgrow2 hat2 ha1 ha2
          go_wp2
          go_ret
          exact ⟨rfl, _, HA.out.1, HA.out.2⟩
      · have hw : st.write b d = (2, st) := by unfold St.write; rw [if_neg h0, if_neg (fun h => h h1), if_pos h2]
        rw [hw]
        have hz : ¬ ((d.size : Int) = 256) := by omega
        clear hw h0 h1 h2
        go_enter Tryz.func35, Tryz.ntmps35
        go_wp2_with fail
        refine HD.out.mono ?_
        rintro e w1 ⟨rfl, rfl⟩
        go_wp2_with fail
        refine HT.out.mono ?_
        rintro e w1 ⟨rfl, rfl⟩
        go_wp2
        go_ret
        exact ⟨rfl, vL, H.out, Loc.refl _ _⟩
    · rw [decide_eq_false h1] at HT
      have hw : st.write b d = (5, st) := by unfold St.write; rw [if_neg h0, if_pos h1]
      rw [hw]
      clear hw h0 h1
      go_enter Tryz.func35, Tryz.ntmps35
      go_wp2_with fail
      refine HD.out.mono ?_
      rintro e w1 ⟨rfl, rfl⟩
      go_wp2_with fail
      refine HT.out.mono ?_
      rintro e w1 ⟨rfl, rfl⟩
      go_wp2
      go_ret
      exact ⟨rfl, vL, H.out, Loc.refl _ _⟩
end Go.Proofs.YtchhojkhfdkhfaaGreatDoor
namespace Go.Proofs.YtchhojkhfdkhfaaGreatDoor
open Go Go.RowKit

theorem rev_take (l : List (Nat × ByteArray)) (k : Nat) (h : k < l.length) : (l.take (k + 1)).reverse = l[k] :: (l.take k).reverse := by
  rw [List.take_succ_eq_append_getElem h, List.reverse_append]; rfl
theorem row_cell {w : World} {base : Nat} {e : TypeId} {size n : Nat} {a : Option Addr} {c : Nat} {xs : List Value} (h : w.ownsRow base e size (.slice a n c) n xs) (hn : 0 < n) : ∃ g, a = some ⟨g, 0, none⟩ ∧ ∀ j, j < n * size → w.cell? ⟨g, j, none⟩ = xs[j]? := by
  rcases h.2 with ⟨h1, h2⟩ | ⟨g, cap, cur, h1, _⟩
  · omega
  · cases h1
    exact ⟨g, rfl, fun j hj => World.ownsRow.cellAt h j hj⟩
end Go.Proofs.YtchhojkhfdkhfaaGreatDoor
namespace Go.Proofs.YtchhojkhfdkhfaaGreatDoor
open Go Go.RowKit

theorem laid_snoc : ∀ (l : List (Nat × ByteArray)) (s : List ByteArray) (x : Nat × ByteArray), laid s (l ++ [x]) = (laid s l).set x.1 x.2
  | [], _, _ => rfl
  | w :: l, s, x => by
    show laid (s.set w.1 w.2) (l ++ [x]) = _
    rw [laid_snoc l]
    rfl
theorem laid_take (l : List (Nat × ByteArray)) (s : List ByteArray) (k : Nat) (h : k < l.length) : laid s (l.take (k + 1)) = (laid s (l.take k)).set l[k].1 l[k].2 := by
  rw [List.take_succ_eq_append_getElem h, laid_snoc]
theorem joined_from : ∀ (l : List ByteArray) (s : ByteArray), (∀ t ∈ l, t.size = 256) → (l.foldl (fun s t => s ++ t) s).size = s.size + 256 * l.length
  | [], _, _ => rfl
  | t :: l, s, h => by
    rw [List.foldl_cons, joined_from l (s ++ t) (fun u hu => h u (List.mem_cons_of_mem _ hu)), ByteArray.size_append, h t (by simp), List.length_cons]
    omega
theorem joined_size (l : List ByteArray) (h : ∀ t ∈ l, t.size = 256) : (joined l).size = 256 * l.length := by
  unfold joined
  rw [joined_from l noText h]
  show 0 + _ = _
  omega
/-- A block of what is sure is written. -/
theorem RAt.setS {u : World} {p g n c : Nat} {vL : Value} {s : List ByteArray} {l : List (Nat × ByteArray)} {left : Int} (h : RAt u p (.slice (some ⟨g, 0, none⟩) n c) vL ⟨s, l, left⟩) (hn : n = s.length) (b : Nat) (d : ByteArray) :
    RAt (u.setCell ⟨g, b, none⟩ (.string d)) p (.slice (some ⟨g, 0, none⟩) n c) vL ⟨s.set b d, l, left⟩ := by
  subst hn
  have n0 : g ≠ p := fun e => h.ne0 (by rw [e]; rfl)
  have n2 : vL.ownBlock ≠ some g := h.ne2 rfl
  refine ⟨?_, ?_, ?_⟩
  · exact (Below.heap_setCell u ⟨g, b, none⟩ _ p (fun e => n0 (by rw [show p = g from e]))).trans h.head
  · have := (World.ownsRow.stored h.sure b (.string d)).1
    rw [← List.map_set] at this
    show (u.setCell ⟨g, b, none⟩ (.string d)).ownsRow 0 9 1 _ (s.set b d).length ((s.set b d).map Value.string)
    rw [List.length_set]
    exact this
  · exact own_same h.loose (fun k hk => Below.heap_setCell u ⟨g, b, none⟩ _ k (fun e => n2 (by rw [← show k = g from e]; exact hk)))
theorem RAt.drew {u : World} {p : Nat} {vS vL : Value} {st : St} (h : RAt u p vS vL st) : RAt u.drew p vS vL st := ⟨h.head, h.sure, h.loose⟩
set_option maxRecDepth 10000 in
set_option maxHeartbeats 2000000 in
theorem rSync (p : Nat) (vS vL : Value) (st : St) (w : World) (h : RAt w p vS vL st) (hok : st.Ok) (hl : st.loose.length ≤ 100000) :
    Calls Tryz.prog 97 #[.pointer (some ⟨p, 0, none⟩)] w fun e w' => e = .returned (.int .i64 ((st.sync.1 : Nat) : Int)) ∧ ∃ vL', RAt w' p vS vL' st.sync.2 ∧ Loc (RF p vS vL) (RF p vS vL') w w' := by
  have HD := hide (rDown p vS vL st w h)
  have HC := hide (rCounts p vS vL st w h hok.left)
  have H := hide h
  have HOk := hide hok
  have hfew := hok.few
  clear h hok
  by_cases h0 : st.left = 0
  · have hw : st.sync = (50, st) := by unfold St.sync; rw [if_pos h0]
    rw [hw]
    have hb : (st.left == 0) = true := by simpa using h0
    rw [hb] at HD
    clear hw hb h0
    go_enter Tryz.func97, Tryz.ntmps97
    go_wp2_with fail
    refine HD.out.mono ?_
    rintro e w1 ⟨rfl, rfl⟩
    go_wp2
    go_ret
    exact ⟨rfl, vL, H.out, Loc.refl _ _⟩
  · have hb : (st.left == 0) = false := by simpa using h0
    rw [hb] at HD
    have hw : st.sync = (0, ⟨laid st.sure st.loose, [], counted st.left⟩) := by unfold St.sync; rw [if_neg h0]
    rw [hw]
    clear hb hw h0
    obtain ⟨aS, cS, rfl, _⟩ := slice_of H.out.sure
    obtain ⟨gS, rfl, _⟩ := row_cell H.out.sure HOk.out.some
    obtain ⟨aL, cL, rfl, _⟩ := slice_of H.out.loose
    go_enter Tryz.func97, Tryz.ntmps97
    go_wp2_with fail
    refine HD.out.mono ?_
    rintro e w0 ⟨rfl, hw0⟩
    obtain rfl := hw0.symm
    go_wp2_with fail
    refine HC.out.mono ?_
    rintro e w1 ⟨⟨v1, rfl⟩, h1, l1⟩
    have H1 := hide h1
    have L1 := hide l1
    clear h1 l1
    go_wp2_with fail
    go_loopw [3] (fun i wr => ∃ k : Nat, k ≤ st.loose.length ∧ i = .int .i64 (k : Int) ∧ RAt wr p (.slice (some ⟨gS, 0, none⟩) st.sure.length cS) (.slice aL st.loose.length cL) ⟨laid st.sure (st.loose.take k), st.loose, counted st.left⟩ ∧ Loc (RF p (.slice (some ⟨gS, 0, none⟩) st.sure.length cS) (.slice aL st.loose.length cL)) (RF p (.slice (some ⟨gS, 0, none⟩) st.sure.length cS) (.slice aL st.loose.length cL)) w wr) (fun i _ => st.loose.length - (intOf i).toNat)
    case atStart => exact ⟨0, Nat.zero_le _, rfl, H1.out, L1.out⟩
    case round =>
      obtain ⟨k, hk, rfl, hR, hLoc⟩ := hrel
      have HR := hide hR
      have HL := hide hLoc
      have hc0 := hR.cell0
      have hc1 := hR.cell1
      by_cases hlt : k < st.loose.length
      · obtain ⟨gL, rfl, hcL⟩ := row_cell hR.loose (by show 0 < st.loose.length; omega)
        have e1 := hcL (k * 2) (by show k * 2 < st.loose.length * 2; omega)
        have e2 := hcL (k * 2 + 1) (by show k * 2 + 1 < st.loose.length * 2; omega)
        rw [(looseCells_at st.loose k hlt).1] at e1
        rw [(looseCells_at st.loose k hlt).2] at e2
        have hth := HOk.out.there _ (List.getElem_mem hlt)
        have hRs : wr.ownsRow 0 9 1 (.slice (some ⟨gS, 0, none⟩) st.sure.length cS) st.sure.length ((laid st.sure (st.loose.take k)).map Value.string) := by
          have h1 := hR.sure
          rw [show (St.mk (laid st.sure (st.loose.take k)) st.loose (counted st.left)).sure.length = st.sure.length from laid_length _ _] at h1
          exact h1
        have hcell : ∃ v, wr.cell? ⟨gS, st.loose[k].1, none⟩ = some v := by
          obtain ⟨g', hg', hcS⟩ := row_cell hRs (by omega)
          cases hg'
          rw [hcS st.loose[k].1 (by omega)]
          have hll := laid_length (st.loose.take k) st.sure
          exact ⟨_, List.getElem?_eq_getElem (by rw [List.length_map]; omega)⟩
        obtain ⟨v0, e3⟩ := hcell
        have hfr : wr.frozen? ⟨gS, st.loose[k].1, none⟩ = false := World.ownsRow.frozenAt hRs _
        have HNext : Hid (laid st.sure (st.loose.take (k + 1)) = (laid st.sure (st.loose.take k)).set st.loose[k].1 st.loose[k].2) := laid_take _ _ _ hlt
        have hx : ((st.loose[k].1 : Nat) : Int) < (st.sure.length : Int) := by omega
        clear hR hLoc hcL hth hRs
        generalize st.loose[k].1 = x at *
        generalize st.loose[k].2 = d at *
        go_wp2_with fail
        go_region
        all_goals
          go_wp2
          go_roundw
          case rel => exact ⟨k + 1, hlt, by go_num, by rw [HNext.out]; exact (HR.out.setS (laid_length _ _).symm x d).drew, (HL.out.trans (Loc.setCell wr ⟨gS, x, none⟩ _ (Or.inr (Or.inl rfl)))).drew⟩
          case measure => simp [intOf]; omega
      · have hke : k = st.loose.length := by omega
        subst hke
        rw [List.take_length] at hR HR
        have hf1 := hR.free 1
        clear hR hLoc
        go_wp2
        go_ret
        refine ⟨rfl, .slice none 0 0, HR.out.setHead rfl HR.out.rowS (World.ownsRow_nil _ _ _ _), HL.out.trans ⟨rfl, rfl, rfl, by simp [World.setCell], fun j _ hF => Below.heap_setCell wr ⟨p, 1, none⟩ _ j (fun e => hF (Or.inl e)), fun j hj => ?_⟩⟩
        rcases hj with h1 | h1 | h1
        · exact Or.inl (Or.inl h1)
        · exact Or.inl (Or.inr (Or.inl h1))
        · cases h1
end Go.Proofs.YtchhojkhfdkhfaaGreatDoor
namespace Go.Proofs.YtchhojkhfdkhfaaGreatDoor
open Go Go.RowKit

/-- A list of numbers lies at a slice's address. -/
def IntsAt (w : World) (a : Option Addr) (l : List Int) : Prop :=
  l = [] ∨ ∃ b off, a = some ⟨b, off, none⟩ ∧ ∀ j (hj : j < l.length), w.cell? ⟨b, off + j, none⟩ = some (.int .i64 l[j])
/-- It lies in no block of F, if there is anything. -/
def Apart (a : Option Addr) (l : List Int) (F : Nat → Prop) : Prop := l ≠ [] → ∀ b off, a = some ⟨b, off, none⟩ → ¬ F b
theorem crashed_snoc (picks : List Int) : ∀ (l : List (Nat × ByteArray)) (i : Nat) (s : List ByteArray) (x : Nat × ByteArray), crashed s picks i (l ++ [x]) = (crashed s picks i l).set x.1 (torn ((crashed s picks i l).getD x.1 noText) x.2 (picks.getD (i + l.length) 0))
  | [], i, s, x => rfl
  | w :: l, i, s, x => by
    show crashed (s.set w.1 _) picks (i + 1) (l ++ [x]) = _
    rw [crashed_snoc picks l, List.length_cons, show i + 1 + l.length = i + (l.length + 1) from by omega]
    rfl
theorem crashed_take (picks : List Int) (l : List (Nat × ByteArray)) (s : List ByteArray) (k : Nat) (h : k < l.length) :
    crashed s picks 0 (l.take (k + 1)) = (crashed s picks 0 (l.take k)).set l[k].1 (torn ((crashed s picks 0 (l.take k)).getD l[k].1 noText) l[k].2 (picks.getD k 0)) := by
  rw [List.take_succ_eq_append_getElem h, crashed_snoc, List.length_take, Nat.zero_add, Nat.min_eq_left (by omega)]
theorem torn_at (old new : ByteArray) (x : Int) (q : Nat) (h : max (min x 256) 0 = (q : Int)) : torn old new x = new.extract 0 q ++ old.extract q old.size := by
  unfold torn; rw [h]; rfl
theorem IntsAt.loc {F F' : Nat → Prop} {u v : World} {a : Option Addr} {l : List Int} (h : IntsAt u a l) (hl : Loc F F' u v) (hap : Apart a l F) : IntsAt v a l := by
  rcases h with rfl | ⟨b, off, rfl, hc⟩
  · exact Or.inl rfl
  · refine Or.inr ⟨b, off, rfl, fun j hj => ?_⟩
    have h1 := hc j hj
    exact (World.cell?_of_block (w := u) (hl.block b (World.block_lt_of_cell? u _ h1) (hap (fun e => by rw [e] at hj; exact absurd hj (by simp)) b off rfl))).trans h1
theorem torn_full {old new : ByteArray} {x : Int} (ho : old.size = 256) (h : max (min x 256) 0 = 256) : new.extract 0 256 = torn old new x := by
  rw [torn_at old new x 256 h, ho]
  apply ByteArray.ext
  simp
theorem RAt.nothing {u : World} {p : Nat} {vS vL : Value} {st : St} (h : RAt u p vS vL st) : RAt (u.setCell ⟨p, 1, none⟩ (.slice none 0 0)) p vS (.slice none 0 0) ⟨st.sure, [], st.left⟩ ∧ Loc (RF p vS vL) (RF p vS (.slice none 0 0)) u (u.setCell ⟨p, 1, none⟩ (.slice none 0 0)) := by
  refine ⟨h.setHead rfl h.rowS (World.ownsRow_nil _ _ _ _), ⟨rfl, rfl, rfl, by simp [World.setCell], fun j _ hF => Below.heap_setCell u ⟨p, 1, none⟩ _ j (fun e => hF (Or.inl e)), fun j hj => ?_⟩⟩
  rcases hj with h1 | h1 | h1
  · exact Or.inl (Or.inl h1)
  · exact Or.inl (Or.inr (Or.inl h1))
  · cases h1
end Go.Proofs.YtchhojkhfdkhfaaGreatDoor
namespace Go.Proofs.YtchhojkhfdkhfaaGreatDoor
open Go Go.RowKit

theorem info9 : (Tryz.prog.info? 9).map (fun i => (i.zero, i.size, i.bytes)) = some (some (.string ⟨#[]⟩), 1, 16) := by kernel_rfl
theorem info5 : (Tryz.prog.info? 5).map (fun i => (i.zero, i.size, i.bytes)) = some (some (.int .u8 0), 1, 1) := by kernel_rfl
theorem add_at (g j : Nat) : (⟨g, 0, none⟩ : Addr).add j = ⟨g, j, none⟩ := by unfold Addr.add; split <;> simp_all
end Go.Proofs.YtchhojkhfdkhfaaGreatDoor
namespace Go.Proofs.YtchhojkhfdkhfaaGreatDoor
open Go Go.RowKit

/-- DAt u p st F: the program's disk lies at block p, is st, and its blocks are F. -/
structure Con (DAt : World → Nat → St → (Nat → Prop) → Prop) : Prop where
  lt : ∀ {u : World} {p : Nat} {st : St} {F : Nat → Prop}, DAt u p st F → ∀ k, F k → k < u.heap.size
  same : ∀ {u v : World} {p : Nat} {st : St} {F : Nat → Prop}, DAt u p st F → (∀ k, F k → v.heap[k]? = u.heap[k]?) → DAt v p st F
  new : ∀ (n : Nat) (u : World), 1 ≤ n → n ≤ 4096 → Calls Tryz.prog 10 #[.int .i64 (n : Int)] u fun e v => ∃ p F, e = .returned (.tuple #[.pointer (some ⟨p, 0, none⟩), .int .i64 0]) ∧ DAt v p (St.new n) F ∧ (∀ k, F k → u.heap.size ≤ k) ∧ Below u.heap.size u v
  newNot : ∀ (n : Int) (u : World), (-9223372036854775808 ≤ n ∧ n ≤ 9223372036854775807) → (n < 1 ∨ 4096 < n) → Calls Tryz.prog 10 #[.int .i64 n] u fun e v => e = .returned (.tuple #[.pointer none, .int .i64 2]) ∧ Below u.heap.size u v
  size : ∀ (p : Nat) (st : St) (F : Nat → Prop) (u : World), DAt u p st F → st.Ok → Calls Tryz.prog 58 #[.pointer (some ⟨p, 0, none⟩)] u fun e v => e = .returned (.int .i64 (st.sure.length : Int)) ∧ Below u.heap.size u v
  read : ∀ (p : Nat) (st : St) (F : Nat → Prop) (b : Int) (u : World), DAt u p st F → st.Ok → st.loose.length ≤ 10000 → (-9223372036854775808 ≤ b ∧ b ≤ 9223372036854775807) →
    Calls Tryz.prog 112 #[.pointer (some ⟨p, 0, none⟩), .int .i64 b] u fun e v => e = .returned (.tuple #[.string (st.read b).1, .int .i64 (((st.read b).2 : Nat) : Int)]) ∧ Below u.heap.size u v
  write : ∀ (p : Nat) (st : St) (F : Nat → Prop) (b : Int) (d : ByteArray) (u : World), DAt u p st F → st.Ok → st.loose.length ≤ 10000 → (-9223372036854775808 ≤ b ∧ b ≤ 9223372036854775807) → d.size ≤ 140737488351232 →
    Calls Tryz.prog 34 #[.pointer (some ⟨p, 0, none⟩), .int .i64 b, .string d] u fun e v => e = .returned (.int .i64 (((st.write b d).1 : Nat) : Int)) ∧ ∃ F', DAt v p (st.write b d).2 F' ∧ Loc F F' u v
  sync : ∀ (p : Nat) (st : St) (F : Nat → Prop) (u : World), DAt u p st F → st.Ok → st.loose.length ≤ 10000 →
    Calls Tryz.prog 54 #[.pointer (some ⟨p, 0, none⟩)] u fun e v => e = .returned (.int .i64 ((st.sync.1 : Nat) : Int)) ∧ ∃ F', DAt v p st.sync.2 F' ∧ Loc F F' u v
  fuse : ∀ (p : Nat) (st : St) (F : Nat → Prop) (n : Int) (u : World), DAt u p st F → st.Ok → (-9223372036854775808 ≤ n ∧ n ≤ 9223372036854775807) →
    Calls Tryz.prog 25 #[.pointer (some ⟨p, 0, none⟩), .int .i64 n] u fun e v => e = .returned (.int .i64 0) ∧ ∃ F', DAt v p (st.fuse n) F' ∧ Loc F F' u v
  crash : ∀ (p : Nat) (st : St) (F : Nat → Prop) (a : Option Addr) (c : Nat) (picks : List Int) (u : World), DAt u p st F → st.Ok → st.loose.length ≤ 10000 → IntsAt u a picks → Apart a picks F → picks.length ≤ 140737488351232 → (∀ x ∈ picks, -9223372036854775808 ≤ x ∧ x ≤ 9223372036854775807) →
    Calls Tryz.prog 26 #[.pointer (some ⟨p, 0, none⟩), .slice a picks.length c] u fun e v => e = .returned (.int .i64 0) ∧ ∃ F', DAt v p (st.crash picks) F' ∧ Loc F F' u v
  loose : ∀ (p : Nat) (st : St) (F : Nat → Prop) (u : World), DAt u p st F → st.Ok → st.loose.length ≤ 10000 →
    Calls Tryz.prog 16 #[.pointer (some ⟨p, 0, none⟩)] u fun e v => ∃ a c, e = .returned (.slice a st.loose.length c) ∧ IntsAt v a (st.loose.map fun w => (w.1 : Int)) ∧ Below u.heap.size u v
  sure : ∀ (p : Nat) (st : St) (F : Nat → Prop) (u : World), DAt u p st F → st.Ok →
    Calls Tryz.prog 14 #[.pointer (some ⟨p, 0, none⟩)] u fun e v => e = .returned (.string st.text) ∧ Below u.heap.size u v
  nread : ∀ (b : Int) (u : World), Calls Tryz.prog 112 #[.pointer none, .int .i64 b] u fun e v => e = .returned (.tuple #[.string ⟨#[]⟩, .int .i64 1]) ∧ Below u.heap.size u v
  nwrite : ∀ (b : Int) (s : ByteArray) (u : World), Calls Tryz.prog 34 #[.pointer none, .int .i64 b, .string s] u fun e v => e = .returned (.int .i64 1) ∧ Below u.heap.size u v
  nsync : ∀ (u : World), Calls Tryz.prog 54 #[.pointer none] u fun e v => e = .returned (.int .i64 1) ∧ Below u.heap.size u v
  nfuse : ∀ (n : Int) (u : World), Calls Tryz.prog 25 #[.pointer none, .int .i64 n] u fun e v => e = .returned (.int .i64 1) ∧ Below u.heap.size u v
  ncrash : ∀ (u : World), Calls Tryz.prog 26 #[.pointer none, .slice none 0 0] u fun e v => e = .returned (.int .i64 1) ∧ Below u.heap.size u v
  nsize : ∀ (u : World), Calls Tryz.prog 58 #[.pointer none] u fun e v => e = .returned (.int .i64 0) ∧ Below u.heap.size u v
  nloose : ∀ (u : World), Calls Tryz.prog 16 #[.pointer none] u fun e v => ∃ a c, e = .returned (.slice a 0 c) ∧ Below u.heap.size u v
  nsure : ∀ (u : World), Calls Tryz.prog 14 #[.pointer none] u fun e v => e = .returned (.string ⟨#[]⟩) ∧ Below u.heap.size u v
theorem Con.below {DAt : World → Nat → St → (Nat → Prop) → Prop} (C : Con DAt) {u v : World} {p : Nat} {st : St} {F : Nat → Prop} (h : DAt u p st F) (hb : Below u.heap.size u v) : DAt v p st F := C.same h (fun k hk => hb.block k (C.lt h k hk))

/-- The bytes of a list lie in block b, from its head on, and may be written. -/
def BytesAt (u : World) (b : Nat) (l : List UInt8) : Prop := ∀ j (hj : j < l.length), u.cell? ⟨b, j, none⟩ = some (.int .u8 ((l[j].toNat : Nat) : Int)) ∧ u.frozen? ⟨b, j, none⟩ = false
theorem BytesAt.set {u : World} {b : Nat} {l : List UInt8} (h : BytesAt u b l) (k v : Nat) (hk : k < l.length) (hv : v < 256) :
    BytesAt (u.setCell ⟨b, k, none⟩ (.int .u8 (v : Int))) b (l.set k (UInt8.ofNat v)) := by
  intro j hj
  have hj' : j < l.length := by simpa using hj
  refine ⟨?_, by rw [World.frozen?_setCell]; exact (h j hj').2⟩
  by_cases e : k = j
  · subst e
    rw [World.cell?_setCell_same _ _ _ (h k hk).1, List.getElem_set_self]
    rw [UInt8.toNat_ofNat', Nat.mod_eq_of_lt hv]
  · rw [World.cell?_setCell_other u ⟨b, k, none⟩ ⟨b, j, none⟩ _ (fun hh => e (congrArg Addr.off hh)), List.getElem_set_ne e]
    exact (h j hj').1
theorem free_of {u : World} {b : Nat} {cs : Array Value} {t : TypeId} (h : u.heap[b]? = some (.cells cs t (0, 0))) (j : Nat) : u.frozen? ⟨b, j, none⟩ = false := by simp [World.frozen?, h]
end Go.Proofs.YtchhojkhfdkhfaaGreatDoor
namespace Go.Proofs.YtchhojkhfdkhfaaGreatDoor
open Go Go.RowKit
theorem new_cell (w : World) (cs : Array Value) (t : TypeId) (i : Nat) {v : Value} (h : cs[i]? = some v) : (w.alloc (.cells cs t)).cell? ⟨w.heap.size, i, none⟩ = some v := by
  have hbox := heap_alloc_last w (.cells cs t)
  unfold World.cell?
  rw [hbox]
  exact h
theorem one_below (w : World) (o : Obj) : Below w.heap.size w (w.alloc o) := (Below.refl _ _).alloc (Nat.le_refl _) _
theorem two_below (w : World) (o p : Obj) : Below w.heap.size w ((w.alloc o).alloc p) := (one_below w o).alloc (by simp) _
theorem kept_cell {W v : World} (h : Below W.heap.size W v) (b j : Nat) (hb : b < W.heap.size) : v.cell? ⟨b, j, none⟩ = W.cell? ⟨b, j, none⟩ := h.cell (p := ⟨b, j, none⟩) hb
end Go.Proofs.YtchhojkhfdkhfaaGreatDoor
namespace Go.Proofs.YtchhojkhfdkhfaaGreatDoor
open Go

/-- The cells of a text. -/
def tc (s : ByteArray) : List Value := Lib.byteCells s.data.toList
theorem tc_length (s : ByteArray) : (tc s).length = s.size := by unfold tc; rw [Lib.byteCells_length, ← Lib.size_eq]
theorem tc_one (s : ByteArray) : ∀ v ∈ tc s, v.oneCell' = true := Lib.byteCells_one _
/-- The cells of what is sure. -/
def sc (l : List ByteArray) : List Value := l.flatMap tc
/-- The cells of a write. -/
def wc (w : Nat × ByteArray) : List Value := .int .i64 (w.1 : Int) :: tc w.2
theorem wc_length (w : Nat × ByteArray) (h : w.2.size = 256) : (wc w).length = 257 := by unfold wc; rw [List.length_cons, tc_length, h]
theorem wc_one (w : Nat × ByteArray) : ∀ v ∈ wc w, v.oneCell' = true := fun v hv => by
  rcases List.mem_cons.1 hv with rfl | h
  · rfl
  · exact tc_one _ v h
/-- The cells of what is loose. -/
def lc (l : List (Nat × ByteArray)) : List Value := l.flatMap wc
theorem flat_length {α : Type} (f : α → List Value) (m : Nat) : ∀ (l : List α), (∀ x ∈ l, (f x).length = m) → (l.flatMap f).length = l.length * m
  | [], _ => by simp
  | x :: l, h => by
    rw [List.flatMap_cons, List.length_append, h x (by simp), flat_length f m l (fun y hy => h y (List.mem_cons_of_mem _ hy)), List.length_cons, Nat.add_mul, Nat.one_mul, Nat.add_comm]
theorem flat_split {α : Type} (f : α → List Value) (l : List α) (i : Nat) (hi : i < l.length) : l.flatMap f = (l.take i).flatMap f ++ (f l[i] ++ (l.drop (i + 1)).flatMap f) := by
  conv => lhs; rw [← List.take_append_drop i l, List.drop_eq_getElem_cons hi]
  rw [List.flatMap_append, List.flatMap_cons]
theorem flat_take {α : Type} (f : α → List Value) (m : Nat) (l : List α) (h : ∀ x ∈ l, (f x).length = m) (i : Nat) (hi : i < l.length) : (l.flatMap f).take (i * m) = (l.take i).flatMap f := by
  have hl : ((l.take i).flatMap f).length = i * m := by
    rw [flat_length f m _ (fun x hx => h x (List.mem_of_mem_take hx)), List.length_take, Nat.min_eq_left (by omega)]
  rw [flat_split f l i hi, ← hl, List.take_left]
theorem flat_drop {α : Type} (f : α → List Value) (m : Nat) (l : List α) (h : ∀ x ∈ l, (f x).length = m) (i : Nat) (hi : i < l.length) : (l.flatMap f).drop (i * m) = f l[i] ++ (l.drop (i + 1)).flatMap f := by
  have hl : ((l.take i).flatMap f).length = i * m := by
    rw [flat_length f m _ (fun x hx => h x (List.mem_of_mem_take hx)), List.length_take, Nat.min_eq_left (by omega)]
  rw [flat_split f l i hi, ← hl, List.drop_left]
theorem flat_at {α : Type} (f : α → List Value) (m : Nat) (l : List α) (h : ∀ x ∈ l, (f x).length = m) (i : Nat) (hi : i < l.length) (j : Nat) (hj : j < m) : (l.flatMap f)[i * m + j]? = (f l[i])[j]? := by
  rw [← List.getElem?_drop, flat_drop f m l h i hi, List.getElem?_append_left (by rw [h _ (List.getElem_mem hi)]; exact hj)]
theorem flat_set {α : Type} (f : α → List Value) (l : List α) (i : Nat) (hi : i < l.length) (y : α) : (l.set i y).flatMap f = (l.take i).flatMap f ++ (f y ++ (l.drop (i + 1)).flatMap f) := by
  rw [flat_split f (l.set i y) i (by rw [List.length_set]; exact hi), List.take_set_of_le (Nat.le_refl _), List.getElem_set_self, List.drop_set_of_lt (by omega)]
theorem sc_length (l : List ByteArray) (h : ∀ s ∈ l, s.size = 256) : (sc l).length = l.length * 256 := flat_length tc 256 l (fun s hs => by rw [tc_length]; exact h s hs)
theorem sc_at (l : List ByteArray) (h : ∀ s ∈ l, s.size = 256) (i : Nat) (hi : i < l.length) (j : Nat) (hj : j < 256) : (sc l)[i * 256 + j]? = (tc l[i])[j]? := flat_at tc 256 l (fun s hs => by rw [tc_length]; exact h s hs) i hi j hj
theorem lc_at (l : List (Nat × ByteArray)) (h : ∀ w ∈ l, w.2.size = 256) (i : Nat) (hi : i < l.length) (j : Nat) (hj : j < 257) : (lc l)[i * 257 + j]? = (wc l[i])[j]? := flat_at wc 257 l (fun w hw => wc_length w (h w hw)) i hi j hj
theorem tc_append (s t : ByteArray) : tc (s ++ t) = tc s ++ tc t := by
  unfold tc Lib.byteCells
  rw [ByteArray.data_append, Array.toList_append, List.map_append]
theorem tc_extract (s : ByteArray) (a b : Nat) : tc (s.extract a b) = ((tc s).take b).drop a := by
  unfold tc Lib.byteCells
  rw [ByteArray.data_extract, Array.toList_extract, List.extract_eq_take_drop, List.map_take, List.map_drop, ← List.drop_take]
theorem tc_nil (s : ByteArray) (h : s.size = 0) : tc s = [] := List.eq_nil_of_length_eq_zero (by rw [tc_length]; exact h)
/-- As many first bytes of a block as are copied over. -/
theorem sc_copy (l : List ByteArray) (h : ∀ s ∈ l, s.size = 256) (i : Nat) (hi : i < l.length) (d : ByteArray) (p : Int) (q : Nat) (hq : max (min p 256) 0 = (q : Int)) :
    (sc l).take (i * 256) ++ (tc d).take q ++ (sc l).drop (i * 256 + q) = sc (l.set i (torn (l.getD i noText) d p)) := by
  have hf : ∀ s ∈ l, (tc s).length = 256 := fun s hs => by rw [tc_length]; exact h s hs
  have hg : l.getD i noText = l[i] := by rw [List.getD_eq_getElem?_getD, List.getElem?_eq_getElem hi, Option.getD_some]
  have hq2 : q ≤ 256 := by omega
  have ho : l[i].size = 256 := h _ (List.getElem_mem hi)
  have hol : (tc l[i]).length = 256 := hf _ (List.getElem_mem hi)
  unfold sc
  rw [flat_set tc l i hi, flat_take tc 256 l hf i hi, ← List.drop_drop, flat_drop tc 256 l hf i hi, hg]
  unfold torn
  rw [hq, Int.toNat_natCast, tc_append, tc_extract, tc_extract, List.drop_zero, ho, List.take_of_length_le (l := tc l[i]) (by omega), List.drop_append_of_le_length (by omega)]
  simp only [List.append_assoc]
theorem lc_snoc (l : List (Nat × ByteArray)) (w : Nat × ByteArray) : lc (l ++ [w]) = lc l ++ wc w := by unfold lc; rw [List.flatMap_append]; simp
theorem sc_new (n : Nat) : sc (List.replicate n zblock) = List.replicate (n * 256) (.int .u8 0) := by
  have hz : tc zblock = List.replicate 256 (.int .u8 0) := by
    unfold tc Lib.byteCells zblock
    rw [List.map_replicate]
    rfl
  unfold sc
  induction n with
  | zero => simp
  | succ n ih => rw [List.replicate_succ, List.flatMap_cons, ih, hz, List.replicate_append_replicate, Nat.add_mul, Nat.one_mul, Nat.add_comm]
/-- The text of all, one behind the other. -/
theorem sc_joined (l : List ByteArray) : tc (joined l) = sc l := by
  have h : ∀ (l : List ByteArray) (s : ByteArray), tc (l.foldl (fun s t => s ++ t) s) = tc s ++ sc l := by
    intro l
    induction l with
    | nil => intro s; unfold sc; simp
    | cons t l ih => intro s; rw [List.foldl_cons, ih, tc_append, List.append_assoc]; rfl
  unfold joined
  rw [h l noText, tc_nil noText rfl, List.nil_append]
end Go.Proofs.YtchhojkhfdkhfaaGreatDoor
