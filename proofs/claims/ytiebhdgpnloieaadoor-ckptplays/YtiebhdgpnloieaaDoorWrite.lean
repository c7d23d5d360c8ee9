/- The program's disk: Write. -/
import Derived.Test.YtiebhdgpnloieaaDoorRead
import Derived.Deep.RegionLaw
import Derived.Deep.AppendLies
import Derived.Great.BuildSlice
namespace Go.Proofs.YtiebhdgpnloieaaDoor
set_option maxRecDepth 20000
set_option maxRecDepth 20000
open Go Go.RowKit
theorem info71 : (Tryd.prog.info? 78).map (fun i => (i.zero, i.size, i.bytes)) = some (some (.agg (.int .i64 0 :: List.replicate 256 (.int .u8 0)).toArray), 257, 264) := by kernel_rfl
theorem zero71 : (Tryd.prog.info? 78).map (fun i => (i.zero, i.size)) = some (some (.agg (.int .i64 0 :: List.replicate 256 (.int .u8 0)).toArray), 257) := by kernel_rfl
theorem built71 (b : Int) : Tryd.prog.built 78 [(0, .int .i64 b)] = some (.int .i64 b :: List.replicate 256 (.int .u8 0)).toArray := by kernel_rfl
theorem size71 : (Tryd.prog.info? 78).map (·.size) = some 257 := (zero_of_info zero71).2
theorem size5 : (Tryd.prog.info? 5).map (·.size) = some 1 := by kernel_rfl
/-- A write whose bytes are 0 as yet. -/
def w0 (b : Int) : Array Value := (.int .i64 b :: List.replicate 256 (.int .u8 0)).toArray
theorem w0_size (b : Int) : (w0 b).size = 257 := by unfold w0; rw [List.size_toArray, List.length_cons, List.length_replicate]
theorem w0_one (b : Int) : (w0 b).all (·.oneCell') = true := all_oneCell_toArray (fun v hv => by
  rcases List.mem_cons.1 hv with rfl | h
  · rfl
  · rw [List.eq_of_mem_replicate h]; rfl)
theorem zv71 (w : World) : (zeroValue 78).run Tryd.prog w = .ok (.agg (w0 0)) w := (zero_of_info zero71).1 w
theorem wpList_built {P : Program} {ops : Array Oper} {rest : List Oper} {o : Oper} {a : Act} {w : World} {Q : Exit → Act → World → Prop} (hg : o.guard = none) (t : TypeId) (parts : Array (Nat × Operand)) (ho : o.op = .build t parts)
    (cells : Array Value) (hb : P.built t (parts.map fun (i, x) => (i, a.eval x)).toList = some cells) (h : wpList P ops Q rest (a.put o.dst (.agg cells)) w) : wpList P ops Q (o :: rest) a w :=
  wpList_build hg t parts ho (by rw [hb]; rfl) (by rw [hb]; exact h)
/-- The bytes go in. -/
theorem copy71 (w : World) (m : Nat) (d : ByteArray) (hd : d.size = 256) (ty : TypeId) : (Builtin.copy_ #[56, 9] ty #[.slice (some ⟨w.heap.size, 1, none⟩) 256 256, .string d]).run Tryd.prog (w.alloc (.cells (w0 (m : Int)) 78)) = .ok (goInt 256) (w.alloc (.cells (wc (m, d)).toArray 78)) := by
  have h := Lib.run_copy_row_string (P := Tryd.prog) (w.alloc (.cells (w0 (m : Int)) 78)) 56 9 ty 5 w.heap.size 1 256 256 d (w0 (m : Int)) 78 Tryd.underlying56 size5 (heap_alloc_last w _) (by omega) (by rw [w0_size]; omega)
  rw [World.setRow_alloc_new, hd] at h
  rw [h]
  congr 3
  unfold w0 wc tc
  rw [List.take_succ_cons, List.take_zero, List.drop_eq_nil_of_le (by rw [List.length_cons, List.length_replicate]; omega), List.append_nil]
  rfl
theorem fold_set : ∀ (l : List Value) (k : Nat) (cs : Array Value), k + l.length ≤ cs.size → ∀ e, ((l.zipIdx k).foldl (fun (cs : Array Value) (x : Value × Nat) => cs.setIfInBounds (0 + x.2) x.1) cs)[e]? = if k ≤ e ∧ e < k + l.length then l[e - k]? else cs[e]?
  | [], k, cs, _, e => by
    rw [if_neg (by simp)]
    rfl
  | v :: l, k, cs, h, e => by
    rw [List.zipIdx_cons, List.foldl_cons, fold_set l (k + 1) _ (by rw [Array.size_setIfInBounds]; simp only [List.length_cons] at h; omega) e]
    simp only [List.length_cons] at h ⊢
    by_cases h1 : k + 1 ≤ e ∧ e < k + 1 + l.length
    · rw [if_pos h1, if_pos (by omega), show e - k = e - (k + 1) + 1 from by omega, List.getElem?_cons_succ]
    · rw [if_neg h1]
      by_cases h2 : e = k
      · subst h2
        rw [if_pos (by omega), Nat.sub_self, List.getElem?_cons_zero, Nat.zero_add, Array.getElem?_setIfInBounds, if_pos rfl, if_pos (by omega)]
      · rw [if_neg (by omega), Nat.zero_add, Array.getElem?_setIfInBounds, if_neg (by omega)]
theorem fill_all (place : Nat → Option (Nat × Nat)) (cs W : Array Value) (n : Nat) (hp : place 0 = some (0, n)) (hW : W.size = n) (hc : cs.size = n) : Instr.fill place cs [(0, .agg W)] = some W := by
  unfold Instr.fill
  rw [hp]
  have hv : (Value.agg W).cells.size = n := hW
  have hcond : ¬ ((decide ((Value.agg W).cells.size ≠ n) || decide (0 + (Value.agg W).cells.size > cs.size)) = true) := by
    rw [hv]
    simp
    omega
  simp only [hcond]
  show some (Array.foldl (fun (cs : Array Value) (x : Value × Nat) => cs.setIfInBounds (0 + x.2) x.1) cs W.zipIdx) = some W
  congr 1
  rw [← Array.foldl_toList, Array.toList_zipIdx]
  apply Array.ext_getElem?
  intro e
  have := fold_set W.toList 0 cs (by simp; omega) e
  rw [this]
  by_cases h : e < W.size
  · rw [if_pos (by simp; omega), Nat.sub_zero, Array.getElem?_toList]
  · rw [if_neg (by simp; omega), Array.getElem?_eq_none (by omega), Array.getElem?_eq_none (by omega)]

/-- An operation that yields the same in whatever world is taken first; its slot is written out. -/
theorem takeW {P : Program} {md : Region.Mode} {ops : Array Oper} {Q : Exit → Act → World → Prop} (i d : Nat) {oi : Oper} {v : Value} {fuel : Nat} {listed : Array Bool} {a : Act} {w : World} (hi : ops[i]? = some oi) (hd : oi.dst = some d)
    (hs : Region.noSelect ops = true) (hf : Region.free md ops listed i = true) (hr : (Region.ready md ops listed).contains i = true)
    (hQ : ∀ c a w, Q (.panic c) (a.put oi.dst v) w → Q (.panic c) a w) (hy : Yields P ops oi v a)
    (h : wpAny P md ops Q fuel (listed.setIfInBounds i true) { tmps := a.tmps.setIfInBounds d v, defers := a.defers } w) : wpAny P md ops Q (fuel + 1) listed a w := by
  refine wpAny_take hi hs hf hr hQ hy ?_
  rw [hd]
  exact h
/-- An operation without a guard, by its own law. -/
theorem step_of_wp {P : Program} {ops : Array Oper} {o : Oper} {a : Act} {w : World} {K : Act → World → Prop} {Q : Exit → Act → World → Prop} {E : Prop} (hg : o.guard = none) (h : Oper.wp P o a w K Q) : if Region.wanted o (yielded ops a.tmps) = true then Oper.wp P o a w K Q else E := by
  rw [if_pos (by simp [Region.wanted, hg])]
  exact h
/-- One more write is appended, and the head holds the new row. -/
theorem PAt.appended {u V w2 : World} {p : Nat} {vS vL vL' : Value} {x : Int} {st : St} {y : Nat × ByteArray} (h : PAt u p vS vL x st) (hV : Below u.heap.size u V)
    (hown : w2.ownsRow 0 78 257 vL' (st.loose.length + 1) (lc st.loose ++ wc y)) (hg : V.grownBy w2 vL.ownBlock) (hat : ∀ k, vL'.ownBlock = some k → vL.ownBlock = some k ∨ u.heap.size ≤ k) :
    PAt (w2.setCell ⟨p, 1, none⟩ vL') p vS vL' x ⟨st.sure, st.loose ++ [y], st.left⟩ ∧ Loc (DF p vS vL) (DF p vS vL') u (w2.setCell ⟨p, 1, none⟩ vL') := by
  have hp : p < u.heap.size := h.lt p (Or.inl rfl)
  have e1 : w2.heap[p]? = some (.cells #[vS, vL, .int .i64 x] 55 (0, 0)) :=
    (hg.block p (Nat.lt_of_lt_of_le hp hV.size) (fun e => h.ne1 e.symm)).trans ((hV.block p hp).trans h.head)
  have hS : w2.ownsRow 0 72 256 vS st.sure.length (sc st.sure) := own_same h.sure (fun g hgS => by
    have hlt := own_lt h.sure hgS
    exact (hg.block g (Nat.lt_of_lt_of_le hlt hV.size) (fun e => h.ne2 hgS e.symm)).trans (hV.block g hlt))
  have hL : w2.ownsRow 0 78 257 vL' (st.loose ++ [y]).length (lc (st.loose ++ [y])) := by
    rw [lc_snoc, List.length_append]; exact hown
  have nL : vL'.ownBlock ≠ some p := fun e => by
    obtain ⟨cur, hc⟩ := row_type hL e
    rw [e1] at hc
    cases hc
  refine ⟨⟨?_, ?_, ?_, h.left, h.fit⟩, ?_⟩
  · rw [heap_set3 e1]; rfl
  · exact own_same hS (fun g hgS => Below.heap_setCell w2 ⟨p, 1, none⟩ vL' g (fun e => h.ne0 (by rw [← show g = p from e]; exact hgS)))
  · exact own_same hL (fun g hgL => Below.heap_setCell w2 ⟨p, 1, none⟩ vL' g (fun e => nL (by rw [← show g = p from e]; exact hgL)))
  · have l1 : Loc (DF p vS vL) (DF p vS vL) u V := Loc.of_below _ hV
    have l2 : Loc (DF p vS vL) (DF p vS vL') u w2 := ⟨hg.os.trans hV.os, hg.tape.trans hV.tape, hg.output.trans hV.output, Nat.le_trans hV.size hg.size, fun k hk hF => (hg.block k (Nat.lt_of_lt_of_le hk hV.size) (fun e => hF (Or.inr (Or.inr e.symm)))).trans (hV.block k hk), fun k hk => by
      rcases hk with h1 | h1 | h1
      · exact Or.inl (Or.inl h1)
      · exact Or.inl (Or.inr (Or.inl h1))
      · rcases hat k h1 with h2 | h2
        · exact Or.inl (Or.inr (Or.inr h2))
        · exact Or.inr h2⟩
    exact l2.trans (Loc.setCell w2 ⟨p, 1, none⟩ vL' (Or.inl rfl))
theorem PAt.headIn {u V w2 : World} {p : Nat} {vS vL : Value} {x : Int} {st : St} (h : PAt u p vS vL x st) (hV : Below u.heap.size u V) (hg : V.grownBy w2 vL.ownBlock) : w2.cell? ⟨p, 1, none⟩ = some vL ∧ w2.frozen? ⟨p, 1, none⟩ = false := by
  have hp : p < u.heap.size := h.lt p (Or.inl rfl)
  have e1 : w2.heap[p]? = some (.cells #[vS, vL, .int .i64 x] 55 (0, 0)) :=
    (hg.block p (Nat.lt_of_lt_of_le hp hV.size) (fun e => h.ne1 e.symm)).trans ((hV.block p hp).trans h.head)
  exact ⟨by simp [World.cell?, e1], by simp [World.frozen?, e1]⟩
/-- A row of one write. -/
theorem wp_build58 {o : Oper} {a : Act} {w : World} {K : Act → World → Prop} {Q : Exit → Act → World → Prop} (x : Operand) (W : Array Value) (ho : o.op = .buildSlice 53 1 #[(0, x)]) (hx : a.eval x = .agg W) (hW : W.size = 257)
    (h : K (a.put o.dst (.slice (some ⟨w.heap.size, 0, none⟩) 1 1)) (w.alloc (.cells W 78))) : o.wp Tryd.prog a w K Q := by
  obtain ⟨i0, hi, hz0, hz1, hz2⟩ := info_parts info71
  refine wp_buildSlice 53 78 1 #[(0, x)] ho W i0 _ Tryd.underlying53 hi hz0 (by rw [hz1]; decide) (by rw [hz1]; decide) ?_ h
  have hp : ((#[(0, x)] : Array (Nat × Operand)).map fun (i, x) => (i, a.eval x)).toList = [(0, a.eval x)] := by simp
  rw [hp, hx]
  exact fill_all _ _ W 257 (by rw [hz1]) hW (by rw [Array.size_map, Array.size_range, hz1])
theorem K_put {K : Act → World → Prop} {o : Oper} {a : Act} {v : Value} {w : World} (d : Nat) (hd : o.dst = some d) (h : K { tmps := a.tmps.setIfInBounds d v, defers := a.defers } w) : K (a.put o.dst v) w := by
  rw [hd]
  exact h
set_option maxRecDepth 10000 in
set_option maxHeartbeats 1000000 in
theorem pWrite_in (p : Nat) (vS vL : Value) (x : Int) (st : St) (m : Nat) (d : ByteArray) (w : World) (h : PAt w p vS vL x st) (hok : st.Ok) (h0 : st.left ≠ 0) (hm : m < st.sure.length) (hd : d.size = 256) (hl : st.loose.length ≤ 10000) :
    Calls Tryd.prog 25 #[.pointer (some ⟨p, 0, none⟩), .int .i64 (m : Int), .string d] w fun e w' => e = .returned (.int .i64 0) ∧ ∃ vL' y, PAt w' p vS vL' y ⟨st.sure, st.loose ++ [(m, d)], counted st.left⟩ ∧ Loc (DF p vS vL) (DF p vS vL') w w' := by
  have KF := hide (pFaultAt p vS vL x st (m : Int) w h hok)
  have hf : faultAtOf st (m : Int) = 0 := by unfold faultAtOf; rw [if_neg h0, if_neg (fun hh => hh ⟨by omega, by omega⟩)]
  rw [hf] at KF
  have H := hide h
  have HOk := hide hok
  have hz : (d.size : Int) = 256 := by omega
  have HD := hide hd
  have hzv := zv71
  have hcp := copy71 w m d hd
  have HZ0 := hide (w0_size 0)
  have HZ1 := hide (w0_size (m : Int))
  have HO1 := hide (w0_one (m : Int))
  have HBu : Hid (Tryd.prog.built 78 [(0, .int .i64 (m : Int))] = some (w0 (m : Int))) := built71 (m : Int)
  have HA1 := hide (heap_alloc_last w (.cells (w0 0) 78))
  have HA2 := hide (World.setRow_alloc_new w (w0 0) (w0 (m : Int)) 78)
  clear h hok hf h0 hd
  obtain ⟨i0, hi, hz0, hz1, hz2⟩ := info_parts info71
  have HI := hide (And.intro hi (And.intro hz0 (And.intro hz1 hz2)))
  clear hi hz0 hz1 hz2
  have HW1 : Hid ((wc (m, d)).toArray.size = 257) := by unfold Hid; rw [List.size_toArray, wc_length _ HD.out]
  have HWo : Hid (∀ v ∈ (wc (m, d)).toArray.toList, v.oneCell' = true) := fun v hv => wc_one (m, d) v (by simpa using hv)
  have HWl : Hid ((wc (m, d)).toArray.toList = wc (m, d)) := rfl
  generalize hW : (wc (m, d)).toArray = W at *
  clear hW
  generalize w0 0 = Z0 at *
  generalize w0 (m : Int) = Z1 at *
  go_enter Tryd.func25, Tryd.ntmps25
  go_wp2_with fail
  refine KF.out.mono ?_
  rintro e w1 ⟨rfl, hw1⟩
  obtain rfl := hw1.symm
  go_upto_region 7 with (first
    | (with_reducible refine wpList_built (by with_unfolding_all rfl) 78 _ (by with_unfolding_all rfl) Z1 (by with_unfolding_all exact HBu.out) ?_)
    | (with_reducible refine wpList_store_row (by with_unfolding_all rfl) 78 (.tmp 8) (.tmp 19) (by with_unfolding_all rfl) w.heap.size Z1 (by with_unfolding_all rfl) (by with_unfolding_all rfl) 78 Z0 HA1.out (by rw [HZ1.out]; exact size71) (by rw [HZ1.out, HZ0.out]) HO1.out ?_))
  rw [HA2.out]
  go_wp2_with fail
  have hU : Below w.heap.size w (w.alloc (.cells W 78)) := (Below.refl _ _).alloc (Nat.le_refl _) _
  have HP := hide (H.out.below hU)
  have L0 : Hid (Loc (DF p vS vL) (DF p vS vL) w (w.alloc (.cells W 78))) := Loc.of_below _ hU
  have HG := hide (heap_alloc_last w (.cells W 78))
  clear KF hcp HA1 HA2 HBu hU H
  generalize w.alloc (.cells W 78) = U at *
  generalize w.heap.size = g at *
  have hc1 := HP.out.cell1
  have hf1 := HP.out.free 1
  have HV : Hid (Below U.heap.size U (U.drew.alloc (.cells W 78))) := ((Below.refl _ _).drew).alloc (Nat.le_refl _) _
  have HV2 : Hid (U.heap.size ≤ (U.drew.alloc (.cells W 78)).heap.size) := HV.out.size
  have HG2 : Hid (U.drew.heap[g]? = some (.cells W 78 (0, 0))) := HG.out
  have hc2 : (U.alloc (.cells W 78)).cell? ⟨p, 1, none⟩ = some vL := (HP.out.below HV.out).cell1
  refine wp_region_any (by kernel_rfl) ?_
  change wpAny _ _ _ _ _ _ _ (World.drew _)
  refine takeW 0 24 (v := ?v0) rfl rfl (by kernel_rfl) (by kernel_rfl) (by kernel_rfl) (fun _ _ _ h => h) (Or.inl ⟨by rfl, ?hy0⟩) ?_
  case hy0 => (intro w; go_simp; first | done | with_reducible rfl)
  simp only [List.setIfInBounds_toArray, List.set_cons_succ, List.set_cons_zero]
  refine takeW 1 25 (v := ?v1) rfl rfl (by kernel_rfl) (by kernel_rfl) (by kernel_rfl) (fun _ _ _ h => h) (Or.inl ⟨by rfl, ?hy1⟩) ?_
  case hy1 => (intro w; go_simp; first | done | with_reducible rfl)
  simp only [List.setIfInBounds_toArray, List.set_cons_succ, List.set_cons_zero]
  refine takeW 2 26 (v := ?v2) rfl rfl (by kernel_rfl) (by kernel_rfl) (by kernel_rfl) (fun _ _ _ h => h) (Or.inl ⟨by rfl, ?hy2⟩) ?_
  case hy2 => (intro w; go_simp; first | done | with_reducible rfl)
  simp only [List.setIfInBounds_toArray, List.set_cons_succ, List.set_cons_zero]
  refine takeW 3 27 (v := ?v3) rfl rfl (by kernel_rfl) (by kernel_rfl) (by kernel_rfl) (fun _ _ _ h => h) (Or.inl ⟨by rfl, ?hy3⟩) ?_
  case hy3 => (intro w; go_simp; first | done | with_reducible rfl)
  simp only [List.setIfInBounds_toArray, List.set_cons_succ, List.set_cons_zero]
  refine wpAny_ready (rs := [4, 5]) (by kernel_rfl) (by simp) ?_
  refine AllReady.cons rfl (fun K hK => ?_) (AllReady.cons rfl (fun K hK => ?_) AllReady.nil)
  · go_simp
    refine hK _ _ ?_
    clear hK K
    refine wpAny_ready (rs := [5]) (by kernel_rfl) (by simp) ?_
    refine AllReady.cons rfl (fun K hK => ?_) AllReady.nil
    refine step_of_wp rfl (wp_load_row 78 (.tmp 8) rfl g rfl 78 W (0, 0) _ HG2.out Tryd.underlying78 rfl (by rw [HW1.out]; exact size71) ?_)
    refine K_put (K := K) 29 rfl ?_
    refine hK _ _ ?_
    clear hK K
    simp only [List.setIfInBounds_toArray, List.set_cons_succ, List.set_cons_zero]
    refine wpAny_ready (rs := [6]) (by kernel_rfl) (by simp) ?_
    refine AllReady.cons rfl (fun K hK => ?_) AllReady.nil
    refine step_of_wp rfl (wp_build58 (.tmp 29) W rfl rfl HW1.out ?_)
    refine K_put (K := K) 30 rfl ?_
    refine hK _ _ ?_
    clear hK K
    simp only [List.setIfInBounds_toArray, List.set_cons_succ, List.set_cons_zero]
    refine wpAny_ready (rs := [7]) (by kernel_rfl) (by simp) ?_
    refine AllReady.cons rfl (fun K hK => ?_) AllReady.nil
    refine step_append_lies _ (by rfl) _ _ _ (by rfl) 0 78 i0 _ 257 264 Tryd.underlying53 HI.out.1 HI.out.2.1 HI.out.2.2.1 HI.out.2.2.2 rfl (by decide) vL st.loose.length _ (by rfl) (World.ownsRow.alloc HP.out.drew.loose _) ⟨U.heap.size, 0, none⟩ 1 1 W.toList (by rfl) (by rw [Array.length_toList, HW1.out]) (World.news_of_block (heap_alloc_last U.drew _)) HWo.out (by decide) (by unfold maxLen; omega) (by omega) (by omega) _ rfl ?_
    intro gN cN w2 hown hgrow hat hlt2
    obtain ⟨hcw, hfw⟩ := HP.out.headIn HV.out hgrow
    refine K_put (K := K) 31 rfl ?_
    refine hK _ _ ?_
    clear hK K
    simp only [List.setIfInBounds_toArray, List.set_cons_succ, List.set_cons_zero]
    refine takeW 8 32 (v := ?v8) rfl rfl (by kernel_rfl) (by kernel_rfl) (by kernel_rfl) (fun _ _ _ h => h) (Or.inl ⟨by rfl, ?hy8⟩) ?_
    case hy8 => (intro w; go_simp; first | done | with_reducible rfl)
    simp only [List.setIfInBounds_toArray, List.set_cons_succ, List.set_cons_zero]
    refine takeW 9 33 (v := ?v9) rfl rfl (by kernel_rfl) (by kernel_rfl) (by kernel_rfl) (fun _ _ _ h => h) (Or.inl ⟨by rfl, ?hy9⟩) ?_
    case hy9 => (intro w; go_simp; first | done | with_reducible rfl)
    simp only [List.setIfInBounds_toArray, List.set_cons_succ, List.set_cons_zero]
    refine wpAny_ready (rs := [10]) (by kernel_rfl) (by simp) ?_
    refine AllReady.cons rfl (fun K hK => ?_) AllReady.nil
    go_simp
    refine hK _ _ ?_
    clear hK K
    refine wpAny_done (by kernel_rfl) ?_ _
    obtain ⟨ha1, ha2⟩ := HP.out.appended (y := (m, d)) HV.out (by rw [← HWl.out]; exact hown) hgrow (fun k hk => by
      cases hk
      rcases hat with h3 | h3
      · exact Or.inl h3
      · exact Or.inr (by rw [h3]; exact HV2.out))
    have HA := hide (And.intro ha1 (L0.out.trans ha2))
    clear ha1 ha2 hown hgrow hat hcw hfw hlt2
    generalize w2.setCell ⟨p, 1, none⟩ (.slice (some ⟨gN, 0, none⟩) (st.loose.length + 1) cN) = w3 at *
    go_wp2_with fail
    refine (pBurn p vS _ x _ w3 HA.out.1).mono ?_
    rintro e w4 ⟨⟨v4, rfl⟩, ⟨y4, h4⟩, l4⟩
    have HE := hide (And.intro h4 (HA.out.2.trans l4))
    clear h4 l4
    go_wp2
    go_ret
    exact ⟨rfl, _, y4, HE.out.1, HE.out.2⟩
  · refine step_of_wp rfl (wp_load_row 78 (.tmp 8) rfl g rfl 78 W (0, 0) _ HG2.out Tryd.underlying78 rfl (by rw [HW1.out]; exact size71) ?_)
    refine K_put (K := K) 29 rfl ?_
    refine hK _ _ ?_
    clear hK K
    simp only [List.setIfInBounds_toArray, List.set_cons_succ, List.set_cons_zero]
    refine wpAny_ready (rs := [4, 6]) (by kernel_rfl) (by simp) ?_
    refine AllReady.cons rfl (fun K hK => ?_) (AllReady.cons rfl (fun K hK => ?_) AllReady.nil)
    · go_simp
      refine hK _ _ ?_
      clear hK K
      refine wpAny_ready (rs := [6]) (by kernel_rfl) (by simp) ?_
      refine AllReady.cons rfl (fun K hK => ?_) AllReady.nil
      refine step_of_wp rfl (wp_build58 (.tmp 29) W rfl rfl HW1.out ?_)
      refine K_put (K := K) 30 rfl ?_
      refine hK _ _ ?_
      clear hK K
      simp only [List.setIfInBounds_toArray, List.set_cons_succ, List.set_cons_zero]
      refine wpAny_ready (rs := [7]) (by kernel_rfl) (by simp) ?_
      refine AllReady.cons rfl (fun K hK => ?_) AllReady.nil
      refine step_append_lies _ (by rfl) _ _ _ (by rfl) 0 78 i0 _ 257 264 Tryd.underlying53 HI.out.1 HI.out.2.1 HI.out.2.2.1 HI.out.2.2.2 rfl (by decide) vL st.loose.length _ (by rfl) (World.ownsRow.alloc HP.out.drew.loose _) ⟨U.heap.size, 0, none⟩ 1 1 W.toList (by rfl) (by rw [Array.length_toList, HW1.out]) (World.news_of_block (heap_alloc_last U.drew _)) HWo.out (by decide) (by unfold maxLen; omega) (by omega) (by omega) _ rfl ?_
      intro gN cN w2 hown hgrow hat hlt2
      obtain ⟨hcw, hfw⟩ := HP.out.headIn HV.out hgrow
      refine K_put (K := K) 31 rfl ?_
      refine hK _ _ ?_
      clear hK K
      simp only [List.setIfInBounds_toArray, List.set_cons_succ, List.set_cons_zero]
      refine takeW 8 32 (v := ?v8) rfl rfl (by kernel_rfl) (by kernel_rfl) (by kernel_rfl) (fun _ _ _ h => h) (Or.inl ⟨by rfl, ?hy8⟩) ?_
      case hy8 => (intro w; go_simp; first | done | with_reducible rfl)
      simp only [List.setIfInBounds_toArray, List.set_cons_succ, List.set_cons_zero]
      refine takeW 9 33 (v := ?v9) rfl rfl (by kernel_rfl) (by kernel_rfl) (by kernel_rfl) (fun _ _ _ h => h) (Or.inl ⟨by rfl, ?hy9⟩) ?_
      case hy9 => (intro w; go_simp; first | done | with_reducible rfl)
      simp only [List.setIfInBounds_toArray, List.set_cons_succ, List.set_cons_zero]
      refine wpAny_ready (rs := [10]) (by kernel_rfl) (by simp) ?_
      refine AllReady.cons rfl (fun K hK => ?_) AllReady.nil
      go_simp
      refine hK _ _ ?_
      clear hK K
      refine wpAny_done (by kernel_rfl) ?_ _
      obtain ⟨ha1, ha2⟩ := HP.out.appended (y := (m, d)) HV.out (by rw [← HWl.out]; exact hown) hgrow (fun k hk => by
        cases hk
        rcases hat with h3 | h3
        · exact Or.inl h3
        · exact Or.inr (by rw [h3]; exact HV2.out))
      have HA := hide (And.intro ha1 (L0.out.trans ha2))
      clear ha1 ha2 hown hgrow hat hcw hfw hlt2
      generalize w2.setCell ⟨p, 1, none⟩ (.slice (some ⟨gN, 0, none⟩) (st.loose.length + 1) cN) = w3 at *
      go_wp2_with fail
      refine (pBurn p vS _ x _ w3 HA.out.1).mono ?_
      rintro e w4 ⟨⟨v4, rfl⟩, ⟨y4, h4⟩, l4⟩
      have HE := hide (And.intro h4 (HA.out.2.trans l4))
      clear h4 l4
      go_wp2
      go_ret
      exact ⟨rfl, _, y4, HE.out.1, HE.out.2⟩
    · refine step_of_wp rfl (wp_build58 (.tmp 29) W rfl rfl HW1.out ?_)
      refine K_put (K := K) 30 rfl ?_
      refine hK _ _ ?_
      clear hK K
      simp only [List.setIfInBounds_toArray, List.set_cons_succ, List.set_cons_zero]
      refine wpAny_ready (rs := [4]) (by kernel_rfl) (by simp) ?_
      refine AllReady.cons rfl (fun K hK => ?_) AllReady.nil
      go_simp
      refine hK _ _ ?_
      clear hK K
      refine wpAny_ready (rs := [7]) (by kernel_rfl) (by simp) ?_
      refine AllReady.cons rfl (fun K hK => ?_) AllReady.nil
      refine step_append_lies _ (by rfl) _ _ _ (by rfl) 0 78 i0 _ 257 264 Tryd.underlying53 HI.out.1 HI.out.2.1 HI.out.2.2.1 HI.out.2.2.2 rfl (by decide) vL st.loose.length _ (by rfl) (World.ownsRow.alloc HP.out.drew.loose _) ⟨U.heap.size, 0, none⟩ 1 1 W.toList (by rfl) (by rw [Array.length_toList, HW1.out]) (World.news_of_block (heap_alloc_last U.drew _)) HWo.out (by decide) (by unfold maxLen; omega) (by omega) (by omega) _ rfl ?_
      intro gN cN w2 hown hgrow hat hlt2
      obtain ⟨hcw, hfw⟩ := HP.out.headIn HV.out hgrow
      refine K_put (K := K) 31 rfl ?_
      refine hK _ _ ?_
      clear hK K
      simp only [List.setIfInBounds_toArray, List.set_cons_succ, List.set_cons_zero]
      refine takeW 8 32 (v := ?v8) rfl rfl (by kernel_rfl) (by kernel_rfl) (by kernel_rfl) (fun _ _ _ h => h) (Or.inl ⟨by rfl, ?hy8⟩) ?_
      case hy8 => (intro w; go_simp; first | done | with_reducible rfl)
      simp only [List.setIfInBounds_toArray, List.set_cons_succ, List.set_cons_zero]
      refine takeW 9 33 (v := ?v9) rfl rfl (by kernel_rfl) (by kernel_rfl) (by kernel_rfl) (fun _ _ _ h => h) (Or.inl ⟨by rfl, ?hy9⟩) ?_
      case hy9 => (intro w; go_simp; first | done | with_reducible rfl)
      simp only [List.setIfInBounds_toArray, List.set_cons_succ, List.set_cons_zero]
      refine wpAny_ready (rs := [10]) (by kernel_rfl) (by simp) ?_
      refine AllReady.cons rfl (fun K hK => ?_) AllReady.nil
      go_simp
      refine hK _ _ ?_
      clear hK K
      refine wpAny_done (by kernel_rfl) ?_ _
      obtain ⟨ha1, ha2⟩ := HP.out.appended (y := (m, d)) HV.out (by rw [← HWl.out]; exact hown) hgrow (fun k hk => by
        cases hk
        rcases hat with h3 | h3
        · exact Or.inl h3
        · exact Or.inr (by rw [h3]; exact HV2.out))
      have HA := hide (And.intro ha1 (L0.out.trans ha2))
      clear ha1 ha2 hown hgrow hat hcw hfw hlt2
      generalize w2.setCell ⟨p, 1, none⟩ (.slice (some ⟨gN, 0, none⟩) (st.loose.length + 1) cN) = w3 at *
      go_wp2_with fail
      refine (pBurn p vS _ x _ w3 HA.out.1).mono ?_
      rintro e w4 ⟨⟨v4, rfl⟩, ⟨y4, h4⟩, l4⟩
      have HE := hide (And.intro h4 (HA.out.2.trans l4))
      clear h4 l4
      go_wp2
      go_ret
      exact ⟨rfl, _, y4, HE.out.1, HE.out.2⟩
set_option maxHeartbeats 400000 in
theorem pWrite (p : Nat) (vS vL : Value) (x : Int) (st : St) (b : Int) (d : ByteArray) (w : World) (h : PAt w p vS vL x st) (hok : st.Ok) (hl : st.loose.length ≤ 10000) :
    Calls Tryd.prog 25 #[.pointer (some ⟨p, 0, none⟩), .int .i64 b, .string d] w fun e w' => e = .returned (.int .i64 (((st.write b d).1 : Nat) : Int)) ∧ ∃ vL' y, PAt w' p vS vL' y (st.write b d).2 ∧ Loc (DF p vS vL) (DF p vS vL') w w' := by
  have KF := hide (pFaultAt p vS vL x st b w h hok)
  by_cases h0 : st.left = 0
  · have hw : st.write b d = (50, st) := by unfold St.write; rw [if_pos h0]
    have hf : faultAtOf st b = 50 := by unfold faultAtOf; rw [if_pos h0]
    rw [hw]
    rw [hf] at KF
    have H := hide h
    clear hw hf h0 h hok
    go_enter Tryd.func25, Tryd.ntmps25
    go_wp2_with fail
    refine KF.out.mono ?_
    rintro e w1 ⟨rfl, hw1⟩
    obtain rfl := hw1.symm
    go_wp2
    go_ret
    exact ⟨rfl, vL, x, H.out, Loc.refl _ _⟩
  · by_cases h1 : 0 ≤ b ∧ b < (st.sure.length : Int)
    · by_cases h2 : d.size = 256
      · have hw : st.write b d = (0, ⟨st.sure, st.loose ++ [(b.toNat, d)], counted st.left⟩) := by unfold St.write; rw [if_neg h0, if_neg (fun h => h h1), if_neg (fun h => h h2)]
        rw [hw]
        obtain ⟨m, hm⟩ : ∃ m : Nat, b = (m : Int) := ⟨b.toNat, by omega⟩
        subst hm
        rw [Int.toNat_natCast]
        exact pWrite_in p vS vL x st m d w h hok h0 (by omega) h2 hl
      · have hw : st.write b d = (2, st) := by unfold St.write; rw [if_neg h0, if_neg (fun h => h h1), if_pos h2]
        have hf : faultAtOf st b = 0 := by unfold faultAtOf; rw [if_neg h0, if_neg (fun hh => hh h1)]
        rw [hw]
        rw [hf] at KF
        have hz : ¬ ((d.size : Int) = 256) := by omega
        have H := hide h
        clear hw hf h0 h1 h2 h hok
        go_enter Tryd.func25, Tryd.ntmps25
        go_wp2_with fail
        refine KF.out.mono ?_
        rintro e w1 ⟨rfl, hw1⟩
        obtain rfl := hw1.symm
        go_wp2
        go_ret
        exact ⟨rfl, vL, x, H.out, Loc.refl _ _⟩
    · have hw : st.write b d = (5, st) := by unfold St.write; rw [if_neg h0, if_pos h1]
      have hf : faultAtOf st b = 5 := by unfold faultAtOf; rw [if_neg h0, if_pos h1]
      rw [hw]
      rw [hf] at KF
      have H := hide h
      clear hw hf h0 h1 h hok
      go_enter Tryd.func25, Tryd.ntmps25
      go_wp2_with fail
      refine KF.out.mono ?_
      rintro e w1 ⟨rfl, hw1⟩
      obtain rfl := hw1.symm
      go_wp2
      go_ret
      exact ⟨rfl, vL, x, H.out, Loc.refl _ _⟩
set_option maxHeartbeats 400000 in
theorem nWrite (b : Int) (s : ByteArray) (w : World) : Calls Tryd.prog 25 #[.pointer none, .int .i64 b, .string s] w fun e w' => e = .returned (.int .i64 1) ∧ w' = w := by
  go_enter Tryd.func25, Tryd.ntmps25
  go_wp2_with fail
  refine (nFaultAt b w).mono ?_
  rintro e w1 ⟨rfl, hw1⟩
  obtain rfl := hw1.symm
  go_wp2
  go_ret
  exact ⟨rfl, rfl⟩
end Go.Proofs.YtiebhdgpnloieaaDoor
