/- The program's row that container/heap works on: how it lies in memory; what stands behind its interface; Len, Less, Swap, Push, Pop. -/
import Derived.Test.YtdfioggeiagihaaMe9
import Derived.Test.YtdfioggeiagihaaHp
namespace Go.Proofs.Ytdfioggeiagihaa
open Go Go.RowKit

theorem loadRow (r : Nat) (v : Value) (w : World) (h : w.cell? ⟨r, 0, none⟩ = some v) : (loadVar 74 ⟨r, 0, none⟩).run Try.prog w = .ok v w := by
  have e : (loadVar 74 ⟨r, 0, none⟩).run Try.prog w = (load ⟨r, 0, none⟩).run Try.prog w := by kernel_rfl
  rw [e]
  simp [go_sem, h]
theorem mLen (F r : Nat) (v : Value) (w : World) (h : w.cell? ⟨r, 0, none⟩ = some v) : (method (F + 1) 76 (.pointer (some ⟨r, 0, none⟩)) "Len").run Try.prog w = .ok (47, v) w := by
  have e : (method (F + 1) 76 (.pointer (some ⟨r, 0, none⟩)) "Len").run Try.prog w = ((loadVar 74 ⟨r, 0, none⟩) >>= fun x => pure (47, x)).run Try.prog w := by kernel_rfl
  rw [e, Sem.run_bind, loadRow r v w h]
  rfl
theorem mLess (F r : Nat) (v : Value) (w : World) (h : w.cell? ⟨r, 0, none⟩ = some v) : (method (F + 1) 76 (.pointer (some ⟨r, 0, none⟩)) "Less").run Try.prog w = .ok (74, v) w := by
  have e : (method (F + 1) 76 (.pointer (some ⟨r, 0, none⟩)) "Less").run Try.prog w = ((loadVar 74 ⟨r, 0, none⟩) >>= fun x => pure (74, x)).run Try.prog w := by kernel_rfl
  rw [e, Sem.run_bind, loadRow r v w h]
  rfl
theorem mSwap (F r : Nat) (v : Value) (w : World) (h : w.cell? ⟨r, 0, none⟩ = some v) : (method (F + 1) 76 (.pointer (some ⟨r, 0, none⟩)) "Swap").run Try.prog w = .ok (75, v) w := by
  have e : (method (F + 1) 76 (.pointer (some ⟨r, 0, none⟩)) "Swap").run Try.prog w = ((loadVar 74 ⟨r, 0, none⟩) >>= fun x => pure (75, x)).run Try.prog w := by kernel_rfl
  rw [e, Sem.run_bind, loadRow r v w h]
  rfl
theorem mPush (F r : Nat) (w : World) : (method (F + 1) 76 (.pointer (some ⟨r, 0, none⟩)) "Push").run Try.prog w = .ok (77, .pointer (some ⟨r, 0, none⟩)) w := by kernel_rfl
theorem mPop (F r : Nat) (w : World) : (method (F + 1) 76 (.pointer (some ⟨r, 0, none⟩)) "Pop").run Try.prog w = .ok (76, .pointer (some ⟨r, 0, none⟩)) w := by kernel_rfl
/-- The row's letters, from place to place. -/
def rowL (f : Nat → Lt) (n : Nat) : List Lt := (List.range n).map f
theorem rowL_len (f : Nat → Lt) (n : Nat) : (rowL f n).length = n := by unfold rowL; rw [List.length_map, List.length_range]
theorem rowL_at (f : Nat → Lt) (n k : Nat) (h : k < (rowL f n).length) : (rowL f n)[k] = f k := by
  simp [rowL]
theorem rowL_ext {f : Nat → Lt} {n : Nat} {l : List Lt} (hl : l.length = n) (h : ∀ k (hk : k < l.length), l[k] = f k) : l = rowL f n :=
  List.ext_getElem (by rw [hl, rowL_len]) (fun k h1 h2 => by rw [h k h1, rowL_at])
theorem rowL_set2 (f : Nat → Lt) (n i j : Nat) : ((rowL f n).set i (f j)).set j (f i) = rowL (swp f i j) n := by
  refine rowL_ext (by rw [List.length_set, List.length_set, rowL_len]) (fun k hk => ?_)
  rw [List.length_set, List.length_set] at hk
  unfold swp
  by_cases e2 : j = k
  · subst e2
    rw [List.getElem_set_self]
    by_cases e1 : j = i
    · subst e1; rw [if_pos rfl]
    · rw [if_neg e1, if_pos rfl]
  · rw [List.getElem_set_ne e2]
    by_cases e1 : i = k
    · subst e1
      rw [List.getElem_set_self, if_pos rfl]
    · rw [List.getElem_set_ne e1, rowL_at, if_neg (Ne.symm e1), if_neg (Ne.symm e2)]
/-- One more at the end. -/
def putAt (f : Nat → Lt) (n : Nat) (x : Lt) : Nat → Lt := fun k => if k = n then x else f k
theorem rowL_push (f : Nat → Lt) (n : Nat) (x : Lt) : rowL f n ++ [x] = rowL (putAt f n x) (n + 1) := by
  refine rowL_ext (by rw [List.length_append, rowL_len]; rfl) (fun k hk => ?_)
  rw [List.length_append, rowL_len] at hk
  simp only [List.length_cons, List.length_nil] at hk
  unfold putAt
  by_cases e : k = n
  · subst e
    rw [if_pos rfl, List.getElem_append_right (by rw [rowL_len]; exact Nat.le_refl _)]
    simp [rowL_len]
  · rw [if_neg e, List.getElem_append_left (by rw [rowL_len]; omega), rowL_at]
theorem rowL_more (f : Nat → Lt) (n : Nat) : rowL f (n + 1) = rowL f n ++ [f n] := by
  unfold rowL
  rw [List.range_succ, List.map_append]
  rfl
/-- The row lies at block r: its header v in the one cell, its letters in a block of their own. -/
structure HAt (u : World) (r : Nat) (v : Value) (l : List Lt) : Prop where
  head : u.heap[r]? = some (.cells #[v] 74 (0, 0))
  ls : Recs u 41 5 letC v l
def HF (r : Nat) (v : Value) (k : Nat) : Prop := k = r ∨ v.ownBlock = some k
theorem HAt.lt {u : World} {r : Nat} {v : Value} {l : List Lt} (h : HAt u r v l) : ∀ k, HF r v k → k < u.heap.size := fun k hk => by
  rcases hk with rfl | h1
  · exact (Array.getElem?_eq_some_iff.1 h.head).1
  · exact h.ls.lt h1
theorem HAt.same {u w : World} {r : Nat} {v : Value} {l : List Lt} (h : HAt u r v l) (hb : ∀ k, HF r v k → w.heap[k]? = u.heap[k]?) : HAt w r v l :=
  ⟨(hb r (Or.inl rfl)).trans h.head, h.ls.same (fun g hg => hb g (Or.inr hg))⟩
theorem HAt.below {u w : World} {r : Nat} {v : Value} {l : List Lt} (h : HAt u r v l) (hb : Below u.heap.size u w) : HAt w r v l := h.same (fun k hk => hb.block k (h.lt k hk))
theorem HAt.cell {u : World} {r : Nat} {v : Value} {l : List Lt} (h : HAt u r v l) : u.cell? ⟨r, 0, none⟩ = some v := by simp [World.cell?, h.head]
theorem HAt.free {u : World} {r : Nat} {v : Value} {l : List Lt} (h : HAt u r v l) : u.frozen? ⟨r, 0, none⟩ = false := by simp [World.frozen?, h.head]
theorem HAt.ne {u : World} {r : Nat} {v : Value} {l : List Lt} (h : HAt u r v l) : v.ownBlock ≠ some r := fun e => by
  obtain ⟨cur, hc⟩ := row_type h.ls e
  rw [h.head] at hc
  cases hc
theorem HAt.letter {u : World} {r : Nat} {v : Value} {f : Nat → Lt} {n : Nat} (h : HAt u r v (rowL f n)) (hl : 0 < n) : ∃ g c, v = .slice (some ⟨g, 0, none⟩) n c ∧ n ≤ c ∧ v.ownBlock = some g ∧ (∀ k, k < n → LetterAt u g (k * 5) (f k)) ∧ ∀ i, u.frozen? ⟨g, i, none⟩ = false := by
  obtain ⟨g, c, h1, h2, h3, h4, h5⟩ := Recs.there h.ls letC_len (by rw [rowL_len]; exact hl)
  rw [rowL_len] at h1 h2
  refine ⟨g, c, h1, h2, h3, fun k hk => ?_, h5⟩
  have hk' : k < (rowL f n).length := by rw [rowL_len]; exact hk
  have h6 := fun i hi => h4 k i hk' hi
  rw [rowL_at] at h6
  exact ⟨h6 0 (by decide), h6 1 (by decide), h6 2 (by decide), h6 3 (by decide), h6 4 (by decide)⟩
theorem HAt.slice {u : World} {r : Nat} {v : Value} {f : Nat → Lt} {n : Nat} (h : HAt u r v (rowL f n)) : ∃ a c, v = .slice a n c ∧ n ≤ c := by
  obtain ⟨a, c, h1, h2, -⟩ := h.ls.slice
  rw [rowL_len] at h1 h2
  exact ⟨a, c, h1, h2⟩
/-- Two letters have changed places. -/
theorem HAt.swapped {u : World} {r g c : Nat} {f : Nat → Lt} {n i j : Nat} (h : HAt u r (.slice (some ⟨g, 0, none⟩) n c) (rowL f n)) (hi : i < n) (hj : j < n) (W : World)
    (hW : W.heap = ((((((((((u.setCell ⟨g, i * 5, none⟩ (.int .u64 ((f j).id : Int))).setCell ⟨g, i * 5 + 1, none⟩ (.int .i64 (f j).a)).setCell ⟨g, i * 5 + 2, none⟩ (.int .i64 (f j).b)).setCell ⟨g, i * 5 + 3, none⟩ (.string (f j).s)).setCell ⟨g, i * 5 + 4, none⟩ (.int .i64 ((f j).g : Int))).setCell ⟨g, j * 5, none⟩ (.int .u64 ((f i).id : Int))).setCell ⟨g, j * 5 + 1, none⟩ (.int .i64 (f i).a)).setCell ⟨g, j * 5 + 2, none⟩ (.int .i64 (f i).b)).setCell ⟨g, j * 5 + 3, none⟩ (.string (f i).s)).setCell ⟨g, j * 5 + 4, none⟩ (.int .i64 ((f i).g : Int))).heap) :
    HAt W r (.slice (some ⟨g, 0, none⟩) n c) (rowL (swp f i j) n) := by
  have h0 : u.ownsRow 0 41 5 (.slice (some ⟨g, 0, none⟩) n c) n ((rowL f n).flatMap letC) := by
    have h1 := h.ls
    unfold Recs at h1
    rw [rowL_len] at h1
    exact h1
  have h5 := (World.ownsRow.stored (World.ownsRow.stored (World.ownsRow.stored (World.ownsRow.stored (World.ownsRow.stored h0 (i * 5) (.int .u64 ((f j).id : Int))).1 (i * 5 + 1) (.int .i64 (f j).a)).1 (i * 5 + 2) (.int .i64 (f j).b)).1 (i * 5 + 3) (.string (f j).s)).1 (i * 5 + 4) (.int .i64 ((f j).g : Int))).1
  rw [flat_set5 (f j) _ _ _ _ _ rfl (rowL f n) i (by rw [rowL_len]; exact hi)] at h5
  have h9 := (World.ownsRow.stored (World.ownsRow.stored (World.ownsRow.stored (World.ownsRow.stored (World.ownsRow.stored h5 (j * 5) (.int .u64 ((f i).id : Int))).1 (j * 5 + 1) (.int .i64 (f i).a)).1 (j * 5 + 2) (.int .i64 (f i).b)).1 (j * 5 + 3) (.string (f i).s)).1 (j * 5 + 4) (.int .i64 ((f i).g : Int))).1
  rw [flat_set5 (f i) _ _ _ _ _ rfl ((rowL f n).set i (f j)) j (by rw [List.length_set, rowL_len]; exact hj), rowL_set2] at h9
  have hgr : r ≠ g := fun e => h.ne (by rw [e]; rfl)
  refine ⟨?_, ?_⟩
  · rw [hW, Below.heap_setCell _ ⟨g, j * 5 + 4, none⟩ _ r hgr, Below.heap_setCell _ ⟨g, j * 5 + 3, none⟩ _ r hgr, Below.heap_setCell _ ⟨g, j * 5 + 2, none⟩ _ r hgr, Below.heap_setCell _ ⟨g, j * 5 + 1, none⟩ _ r hgr, Below.heap_setCell _ ⟨g, j * 5, none⟩ _ r hgr,
      Below.heap_setCell _ ⟨g, i * 5 + 4, none⟩ _ r hgr, Below.heap_setCell _ ⟨g, i * 5 + 3, none⟩ _ r hgr, Below.heap_setCell _ ⟨g, i * 5 + 2, none⟩ _ r hgr, Below.heap_setCell _ ⟨g, i * 5 + 1, none⟩ _ r hgr, Below.heap_setCell _ ⟨g, i * 5, none⟩ _ r hgr]
    exact h.head
  · unfold Recs
    rw [rowL_len]
    exact own_same h9 (fun k _ => by rw [hW])
theorem heap_drew (w : World) : w.drew.heap = w.heap := rfl
theorem pLess (r : Nat) (v : Value) (f : Nat → Lt) (n i j : Nat) (w : World) (h : HAt w r v (rowL f n)) (hi : i < n) (hj : j < n) :
    Calls Try.prog 74 #[v, .int .i64 (i : Int), .int .i64 (j : Int)] w fun e w' => e = .returned (.bool (aheadB (f i) (f j))) ∧ Below w.heap.size w w' := by
  obtain ⟨g, c, rfl, hc, -, h4, -⟩ := h.letter (by omega)
  obtain ⟨a0, -, -, -, a4⟩ := h4 i hi
  obtain ⟨b0, -, -, -, b4⟩ := h4 j hj
  have hiz : (i : Int) < (n : Int) := by omega
  have hjz : (j : Int) < (n : Int) := by omega
  clear h4 h
  unfold aheadB
  generalize (f i).g = gi at *
  generalize (f j).g = gj at *
  generalize (f i).id = xi at *
  generalize (f j).id = xj at *
  by_cases hg : gi = gj
  · subst hg
    have e1 : (decide (gi < gi) || (gi == gi && decide (xi < xj))) = decide (xi < xj) := by simp
    rw [e1]
    have hgz : ((gi : Int) == (gi : Int)) = true := by simp
    go_enter Try.func74, Try.ntmps74
    go_wp2_with fail
    go_region
    all_goals
      go_wp2_with fail
      go_region
      all_goals
        go_wp2
        go_ret
        exact ⟨by simp, ((Below.refl w.heap.size w).drew).drew⟩
  · have e1 : (decide (gj < gi) || (gi == gj && decide (xi < xj))) = decide (gj < gi) := by simp [hg]
    rw [e1]
    have hgz : ((gi : Int) == (gj : Int)) = false := by simp; omega
    go_enter Try.func74, Try.ntmps74
    go_wp2_with fail
    go_region
    all_goals
      go_wp2_with fail
      go_region
      all_goals
        go_wp2
        go_ret
        exact ⟨by simp, ((Below.refl w.heap.size w).drew).drew⟩
set_option maxRecDepth 10000 in
set_option maxHeartbeats 2000000 in
theorem pSwap (r : Nat) (v : Value) (f : Nat → Lt) (n i j : Nat) (w : World) (h : HAt w r v (rowL f n)) (hi : i < n) (hj : j < n) :
    Calls Try.prog 75 #[v, .int .i64 (i : Int), .int .i64 (j : Int)] w fun e w' => e = .returned (.tuple #[]) ∧ HAt w' r v (rowL (swp f i j) n) ∧ Loc (HF r v) (HF r v) w w' := by
  obtain ⟨g, c, rfl, hc, hg, h4, hfz⟩ := h.letter (by omega)
  obtain ⟨a0, a1, a2, a3, a4⟩ := h4 i hi
  obtain ⟨b0, b1, b2, b3, b4⟩ := h4 j hj
  have HS := hide (fun W hW => h.swapped hi hj W hW)
  have HL : Hid (HF r (.slice (some ⟨g, 0, none⟩) n c) g) := Or.inr rfl
  have hiz : (i : Int) < (n : Int) := by omega
  have hjz : (j : Int) < (n : Int) := by omega
  clear h4 h hg
  by_cases hij : i = j
  · subst hij
    generalize f i = x at *
    obtain ⟨xi, xa, xb, xs, xg⟩ := x
    dsimp only at *
    go_enter Try.func75, Try.ntmps75
    go_wp2_with fail
    go_region
    all_goals
      go_wp2
      first
      | refine bodyPost_end (results_none rfl _ _ _) rfl ?_
      | refine bodyPost_ret (results_none rfl _ _ _) rfl ?_
      refine ⟨rfl, HS.out _ (heap_drew _), ?_⟩
      exact ((put_loc w g i _ _ _ _ _ _ HL.out).trans (put_loc _ g i _ _ _ _ _ _ HL.out)).drew
  · have d0 : ¬ i * 5 = j * 5 := by omega
    have d1 : ¬ i * 5 = j * 5 + 1 := by omega
    have d2 : ¬ i * 5 = j * 5 + 2 := by omega
    have d3 : ¬ i * 5 = j * 5 + 3 := by omega
    have d4 : ¬ i * 5 = j * 5 + 4 := by omega
    have k1 : ¬ i * 5 + 1 = j * 5 := by omega
    have k2 : ¬ i * 5 + 2 = j * 5 := by omega
    have k3 : ¬ i * 5 + 3 = j * 5 := by omega
    have k4 : ¬ i * 5 + 4 = j * 5 := by omega
    generalize f i = x at *
    generalize f j = y at *
    obtain ⟨xi, xa, xb, xs, xg⟩ := x
    obtain ⟨yi, ya, yb, ys, yg⟩ := y
    dsimp only at *
    go_enter Try.func75, Try.ntmps75
    go_wp2_with fail
    go_region
    all_goals
      go_wp2
      first
      | refine bodyPost_end (results_none rfl _ _ _) rfl ?_
      | refine bodyPost_ret (results_none rfl _ _ _) rfl ?_
      refine ⟨rfl, HS.out _ (heap_drew _), ?_⟩
      exact ((put_loc w g i _ _ _ _ _ _ HL.out).trans (put_loc _ g j _ _ _ _ _ _ HL.out)).drew
end Go.Proofs.Ytdfioggeiagihaa
