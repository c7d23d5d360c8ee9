/- The program's row: Push, Pop. -/
import Derived.Test.YtdfioggeiagihaaMe10
import Derived.Deep.AppendLies
import Derived.Deep.CutBlock
import Derived.Deep.RegionLaw
namespace Go.Proofs.Ytdfioggeiagihaa
open Go Go.RowKit

theorem qAssert (v : Value) (w : World) : (Instr.typeAssert (.iface 41 v) 20 41 false).run Try.prog w = .ok v w := by kernel_rfl
/-- A letter is appended. -/
theorem HAt.grew {u V w1 : World} {r : Nat} {v v' : Value} {l : List Lt} {x : Lt} (h : HAt u r v l) (hV : Below u.heap.size u V) (hg : V.grownBy w1 v.ownBlock)
    (hown : w1.ownsRow 0 41 5 v' (l.length + 1) (l.flatMap letC ++ letC x)) (hat : v'.ownBlock = v.ownBlock ∨ ∃ j, u.heap.size ≤ j ∧ v'.ownBlock = some j) :
    w1.heap[r]? = u.heap[r]? ∧ HAt (w1.setCell ⟨r, 0, none⟩ v') r v' (l ++ [x]) ∧ Loc (HF r v) (HF r v') u (w1.setCell ⟨r, 0, none⟩ v') := by
  have hq := h.lt r (Or.inl rfl)
  have e1 : w1.heap[r]? = u.heap[r]? := (hg.block r (Nat.lt_of_lt_of_le hq hV.size) (fun e => h.ne e.symm)).trans (hV.block r hq)
  have hL : Recs w1 41 5 letC v' (l ++ [x]) := by
    unfold Recs
    rw [List.length_append, List.flatMap_append]
    simp only [List.flatMap_cons, List.flatMap_nil, List.append_nil, List.length_cons, List.length_nil]
    exact hown
  have hr' : w1.heap[r]? = some (.cells #[v] 74 (0, 0)) := e1.trans h.head
  have nL : v'.ownBlock ≠ some r := fun e => by
    obtain ⟨cur, hc⟩ := row_type hL e
    rw [hr'] at hc
    cases hc
  refine ⟨e1, ⟨by rw [heap_setAt hr']; rfl, hL.same (fun g hg => Below.heap_setCell w1 ⟨r, 0, none⟩ v' g (fun e => nL (by rw [← show g = r from e]; exact hg)))⟩, ?_⟩
  have l2 : Loc (HF r v) (HF r v') u w1 := ⟨hg.os.trans hV.os, hg.tape.trans hV.tape, hg.output.trans hV.output, Nat.le_trans hV.size hg.size, fun k hk hF => (hg.block k (Nat.lt_of_lt_of_le hk hV.size) (fun e => hF (Or.inr e.symm))).trans (hV.block k hk), fun k hk => by
    rcases hk with h3 | h3
    · exact Or.inl (Or.inl h3)
    · rcases hat with h4 | ⟨j, hj, h4⟩
      · exact Or.inl (Or.inr (h4 ▸ h3))
      · rw [h4] at h3; cases h3; exact Or.inr hj⟩
  exact l2.trans (Loc.setCell w1 ⟨r, 0, none⟩ v' (Or.inl rfl))
set_option maxRecDepth 10000 in
set_option maxHeartbeats 2000000 in
theorem pPush (r : Nat) (v : Value) (l : List Lt) (x : Lt) (w : World) (h : HAt w r v l) (hl : l.length < 4096) :
    Calls Try.prog 77 #[.pointer (some ⟨r, 0, none⟩), .iface 41 x.val] w fun e w' => e = .returned (.tuple #[]) ∧ ∃ v', HAt w' r v' (l ++ [x]) ∧ Loc (HF r v) (HF r v') w w' := by
  obtain ⟨N, ya, yb, ys, yg⟩ := x
  show Calls Try.prog 77 #[.pointer (some ⟨r, 0, none⟩), .iface 41 (.agg #[.int .u64 (N : Int), .int .i64 ya, .int .i64 yb, .string ys, .int .i64 (yg : Int)])] w fun e w' => e = .returned (.tuple #[]) ∧ ∃ v', HAt w' r v' (l ++ [⟨N, ya, yb, ys, yg⟩]) ∧ Loc (HF r v) (HF r v') w w'
  obtain ⟨i0, hi, hz0, hz1, hz2⟩ := info_parts infoL
  have HI := hide (And.intro hi (And.intro hz0 (And.intro hz1 hz2)))
  clear hi hz0 hz1 hz2
  have H := hide h
  have Hl := hide hl
  have q0 := h.cell
  have q1 := h.free
  obtain ⟨aL, cL, rfl, -⟩ := h.ls.slice
  clear hl
  have hby := hide (one_below w (.cells #[.int .u64 (N : Int), .int .i64 ya, .int .i64 yb, .string ys, .int .i64 (yg : Int)] 41))
  have k0 := (h.below hby.out).cell
  have k1 := (h.below hby.out).free
  have HCf : Hid (∀ w1 : World, w1.heap[r]? = w.heap[r]? → w1.cell? ⟨r, 0, none⟩ = some (.slice aL l.length cL) ∧ w1.frozen? ⟨r, 0, none⟩ = false) := fun w1 e => by
    have hh := e.trans H.out.head
    exact ⟨by simp [World.cell?, hh], by simp [World.frozen?, hh]⟩
  have HV := hide (((Below.refl w.heap.size w).alloc (Nat.le_refl _) (.cells #[.int .u64 (N : Int), .int .i64 ya, .int .i64 yb, .string ys, .int .i64 (yg : Int)] 41)).drew)
  clear h
  have qA := qAssert
  go_enter Try.func77, Try.ntmps77
  go_wp2_with fail
  go_region_law ((refine step_append_lies _ (by rfl) _ _ _ (by rfl) 0 41 i0 (.agg #[.int .u64 0, .int .i64 0, .int .i64 0, .string ⟨#[]⟩, .int .i64 0]) 5 48 Try.underlying74 HI.out.1 HI.out.2.1 HI.out.2.2.1 HI.out.2.2.2 rfl (by decide) (.slice aL l.length cL) l.length _ (by rfl) (World.ownsRow.drew (World.ownsRow.alloc H.out.ls _)) ⟨w.heap.size, 0, none⟩ 1 1 [.int .u64 (N : Int), .int .i64 ya, .int .i64 yb, .string ys, .int .i64 (yg : Int)] (by rfl) rfl (news5 w _ _ _ _ _ _) (one_letC [⟨N, ya, yb, ys, yg⟩]) (by decide) (by have := Hl.out; unfold maxLen; omega) (by have := Hl.out; omega) (Nat.zero_le _) _ rfl ?_; intro g2 cap w1 hown1 hgrow hat hlt1; obtain ⟨he, hA, hLl⟩ := H.out.grew (x := ⟨N, ya, yb, ys, yg⟩) HV.out hgrow hown1 (by rcases hat with h3 | h3; exact Or.inl h3.symm; exact Or.inr ⟨g2, by rw [h3]; simp, rfl⟩); have HA := hide (And.intro hA hLl); obtain ⟨hcw, hfw⟩ := HCf.out w1 he; clear he hA hLl hgrow hat hown1))
  all_goals
    clear k0 k1 q0 q1
    go_wp2
    first
    | refine bodyPost_end (results_none rfl _ _ _) rfl ?_
    | refine bodyPost_ret (results_none rfl _ _ _) rfl ?_
    exact ⟨rfl, _, HA.out.1, HA.out.2⟩
/-- A row, a letter shorter. -/
theorem Recs.shorter {u : World} {g c : Nat} {l : List Lt} {x : Lt} (h : Recs u 41 5 letC (.slice (some ⟨g, 0, none⟩) (l.length + 1) c) (l ++ [x])) : Recs u 41 5 letC (.slice (some ⟨g, 0, none⟩) l.length c) l := by
  have h' : u.ownsRow 0 41 5 (.slice (some ⟨g, 0, none⟩) (l.length + 1) c) (l.length + 1) ((l ++ [x]).flatMap letC) := by
    have h2 := h
    unfold Recs at h2
    rw [List.length_append] at h2
    exact h2
  rcases h'.2 with ⟨h1, _⟩ | ⟨g', cap, cur, h1, hb, hg, hnc, hcm, hcs, htake⟩
  · cases h1
  · cases h1
    refine ⟨by rw [flat_len letC_len], Or.inr ⟨g, c, cur, rfl, hb, hg, by omega, hcm, hcs, ?_⟩⟩
    have e : cur.toList.take (l.length * 5) = (cur.toList.take ((l.length + 1) * 5)).take (l.length * 5) := by rw [List.take_take, Nat.min_eq_left (by omega)]
    rw [e, htake, List.flatMap_append, List.take_append_of_le_length (by rw [flat_len letC_len]; exact Nat.le_refl _), List.take_of_length_le (by rw [flat_len letC_len]; exact Nat.le_refl _)]
set_option maxRecDepth 10000 in
set_option maxHeartbeats 2000000 in
theorem pRowPop (r : Nat) (v : Value) (f : Nat → Lt) (n : Nat) (w : World) (h : HAt w r v (rowL f (n + 1))) (hn : n < 4096) :
    Calls Try.prog 76 #[.pointer (some ⟨r, 0, none⟩)] w fun e w' => e = .returned (.iface 41 (f n).val) ∧ ∃ v', HAt w' r v' (rowL f n) ∧ Loc (HF r v) (HF r v') w w' := by
  obtain ⟨g, c, rfl, hc, hg, h4, hfz⟩ := h.letter (by omega)
  have KL : ∀ a : World, Hid (Calls Try.prog 47 #[.slice (some ⟨g, 0, none⟩) (n + 1) c] a fun e w' => e = .returned (.int .i64 ((n + 1 : Nat) : Int)) ∧ w' = a) := fun a => pRowLen (some ⟨g, 0, none⟩) (n + 1) c a
  obtain ⟨a0, a1, a2, a3, a4⟩ := h4 n (by omega)
  have c0 := h.cell
  have c1 := h.free
  have H := hide h
  clear h4 hfz
  show Calls Try.prog 76 #[.pointer (some ⟨r, 0, none⟩)] w fun e w' => e = .returned (.iface 41 (.agg #[.int .u64 ((f n).id : Int), .int .i64 (f n).a, .int .i64 (f n).b, .string (f n).s, .int .i64 ((f n).g : Int)])) ∧ ∃ v', HAt w' r v' (rowL f n) ∧ Loc (HF r (.slice (some ⟨g, 0, none⟩) (n + 1) c)) (HF r v') w w'
  clear h
  generalize f n = y at *
  obtain ⟨yi, ya, yb, ys, yg⟩ := y
  dsimp only at *
  go_enter Try.func76, Try.ntmps76
  go_wp2_with fail
  refine (KL _).out.mono ?_
  rintro e w1 ⟨rfl, hw⟩
  obtain rfl := hw.symm
  clear hw
  go_upto_region 3 with fail
  have hby := one_below w (.cells #[.int .u64 (yi : Int), .int .i64 ya, .int .i64 yb, .string ys, .int .i64 (yg : Int)] 41)
  have HX := hide (Box.new w #[.int .u64 (yi : Int), .int .i64 ya, .int .i64 yb, .string ys, .int .i64 (yg : Int)] 41)
  have H1 := hide (H.out.below hby)
  have HL1 := hide (Loc.of_below (HF r (.slice (some ⟨g, 0, none⟩) (n + 1) c)) hby)
  have HXr : Hid (w.heap.size ≠ r) := fun e => by have := H.out.lt r (Or.inl rfl); omega
  clear hby c0 c1 a0 a1 a2 a3 a4 KL H
  generalize w.alloc (.cells #[.int .u64 (yi : Int), .int .i64 ya, .int .i64 yb, .string ys, .int .i64 (yg : Int)] 41) = V at *
  generalize w.heap.size = X at *
  have c0 := H1.out.cell
  have c1 := H1.out.free
  have H2 : Hid (HAt (V.setCell ⟨r, 0, none⟩ (.slice (some ⟨g, 0, none⟩) n c)) r (.slice (some ⟨g, 0, none⟩) n c) (rowL f n)) := by
    have hs : Recs V 41 5 letC (.slice (some ⟨g, 0, none⟩) n c) (rowL f n) := by
      have h7 := Recs.shorter (l := rowL f n) (x := f n) (g := g) (c := c) (by rw [rowL_len, ← rowL_more]; exact H1.out.ls)
      rw [rowL_len] at h7
      exact h7
    have hgr : g ≠ r := fun e => H1.out.ne (by rw [← e]; rfl)
    exact ⟨by rw [heap_setAt H1.out.head]; rfl, hs.same (fun k hk => Below.heap_setCell V ⟨r, 0, none⟩ _ k (fun e => by cases hk; exact hgr e))⟩
  have HL2 : Hid (Loc (HF r (.slice (some ⟨g, 0, none⟩) (n + 1) c)) (HF r (.slice (some ⟨g, 0, none⟩) n c)) w (V.setCell ⟨r, 0, none⟩ (.slice (some ⟨g, 0, none⟩) n c))) :=
    HL1.out.trans (Loc.setCell (F := HF r (.slice (some ⟨g, 0, none⟩) (n + 1) c)) V ⟨r, 0, none⟩ _ (Or.inl rfl))
  have HX2 : Hid (Box (V.setCell ⟨r, 0, none⟩ (.slice (some ⟨g, 0, none⟩) n c)) X #[.int .u64 (yi : Int), .int .i64 ya, .int .i64 yb, .string ys, .int .i64 (yg : Int)] 41) := HX.out.same (Below.heap_setCell V ⟨r, 0, none⟩ _ X HXr.out)
  clear HL1 H1 HX
  go_upto_region 4 with fail
  clear c0 c1
  generalize V.setCell ⟨r, 0, none⟩ (.slice (some ⟨g, 0, none⟩) n c) = Z at *
  obtain ⟨x0, x1, x2, x3, x4⟩ := HX2.out.five
  go_wp2
  go_ret
  exact ⟨rfl, _, H2.out, HL2.out⟩
end Go.Proofs.Ytdfioggeiagihaa
