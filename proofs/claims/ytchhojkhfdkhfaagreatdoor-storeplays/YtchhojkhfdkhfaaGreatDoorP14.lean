/- Joined texts. -/
import Derived.Test.YtchhojkhfdkhfaaGreatDoorP13
import Derived.Deep.RegionLaw
import Derived.Deep.AppendLies
import Derived.Great.BuildSlice
namespace Go.Proofs.YtchhojkhfdkhfaaGreatDoor
set_option maxRecDepth 20000
open Go Go.RowKit
theorem info71 : (Tryz.prog.info? 96).map (fun i => (i.zero,i.size,i.bytes)) = some (some (.agg (.int .i64 0 :: List.replicate 256 (.int .u8 0)).toArray),257,264) := by kernel_rfl
theorem zero71 : (Tryz.prog.info? 96).map (fun i => (i.zero,i.size)) = some (some (.agg (.int .i64 0 :: List.replicate 256 (.int .u8 0)).toArray),257) := by kernel_rfl
theorem built71 (b : Int) : Tryz.prog.built 96 [(0,.int .i64 b)] = some (.int .i64 b :: List.replicate 256 (.int .u8 0)).toArray := by kernel_rfl
theorem size71 : (Tryz.prog.info? 96).map (·.size) = some 257 := (zero_of_info zero71).2
theorem size5 : (Tryz.prog.info? 5).map (·.size) = some 1 := by kernel_rfl
def w0 (b : Int) : Array Value := (.int .i64 b :: List.replicate 256 (.int .u8 0)).toArray
theorem w0_size (b : Int) : (w0 b).size = 257 := by unfold w0; rw [List.size_toArray,List.length_cons,List.length_replicate]
theorem w0_one (b : Int) : (w0 b).all (·.oneCell') = true := all_oneCell_toArray (fun v hv => by
 rcases List.mem_cons.1 hv with rfl | h
 · rfl
 · rw [List.eq_of_mem_replicate h]; rfl)
theorem zv71 (w : World) : (zeroValue 96).run Tryz.prog w = .ok (.agg (w0 0)) w := (zero_of_info zero71).1 w
theorem wpList_built {P : Program} {ops : Array Oper} {rest : List Oper} {o : Oper} {a : Act} {w : World} {Q : Exit -> Act -> World -> Prop} (hg : o.guard = none) (t : TypeId) (parts : Array (Nat × Operand)) (ho : o.op = .build t parts)
   (cells : Array Value) (hb : P.built t (parts.map fun (i,x) => (i,a.eval x)).toList = some cells) (h : wpList P ops Q rest (a.put o.dst (.agg cells)) w) : wpList P ops Q (o :: rest) a w :=
 wpList_build hg t parts ho (by rw [hb]; rfl) (by rw [hb]; exact h)
theorem copy71 (w : World) (m : Nat) (d : ByteArray) (hd : d.size = 256) (ty : TypeId) : (Builtin.copy_ #[77,9] ty #[.slice (some ⟨w.heap.size,1,none⟩) 256 256,.string d]).run Tryz.prog (w.alloc (.cells (w0 (m : Int)) 96)) = .ok (goInt 256) (w.alloc (.cells (wc (m,d)).toArray 96)) := by
 have h := Lib.run_copy_row_string (P := Tryz.prog) (w.alloc (.cells (w0 (m : Int)) 96)) 77 9 ty 5 w.heap.size 1 256 256 d (w0 (m : Int)) 96 Tryz.underlying77 size5 (heap_alloc_last w _) (by omega) (by rw [w0_size]; omega)
 rw [World.setRow_alloc_new,hd] at h
 rw [h]
 congr 3
 unfold w0 wc tc
 rw [List.take_succ_cons,List.take_zero,List.drop_eq_nil_of_le (by rw [List.length_cons,List.length_replicate]; omega),List.append_nil]
 rfl
theorem fold_set : ∀ (l : List Value) (k : Nat) (cs : Array Value),k + l.length <= cs.size -> ∀ e,((l.zipIdx k).foldl (fun (cs : Array Value) (x : Value × Nat) => cs.setIfInBounds (0 + x.2) x.1) cs)[e]? = if k <= e /\ e < k + l.length then l[e - k]? else cs[e]?
 | [],k,cs,_,e => by
   rw [if_neg (by simp)]
   rfl
 | v :: l,k,cs,h,e => by
   rw [List.zipIdx_cons,List.foldl_cons,fold_set l (k + 1) _ (by rw [Array.size_setIfInBounds]; simp only [List.length_cons] at h; omega) e]
   simp only [List.length_cons] at h ⊢
   by_cases h1 : k + 1 <= e /\ e < k + 1 + l.length
   · rw [if_pos h1,if_pos (by omega),show e - k = e - (k + 1) + 1 from by omega,List.getElem?_cons_succ]
   · rw [if_neg h1]
     by_cases h2 : e = k
     · subst h2
       rw [if_pos (by omega),Nat.sub_self,List.getElem?_cons_zero,Nat.zero_add,Array.getElem?_setIfInBounds,if_pos rfl,if_pos (by omega)]
     · rw [if_neg (by omega),Nat.zero_add,Array.getElem?_setIfInBounds,if_neg (by omega)]
theorem fill_all (place : Nat -> Option (Nat × Nat)) (cs W : Array Value) (n : Nat) (hp : place 0 = some (0,n)) (hW : W.size = n) (hc : cs.size = n) : Instr.fill place cs [(0,.agg W)] = some W := by
 unfold Instr.fill
 rw [hp]
 have hv : (Value.agg W).cells.size = n := hW
 have hcond : ¬ ((decide ((Value.agg W).cells.size ≠ n) || decide (0 + (Value.agg W).cells.size > cs.size)) = true) := by
   rw [hv]
   simp
   omega
 simp only [hcond]
 show some (Array.foldl (fun (cs : Array Value) (x : Value × Nat) => cs.setIfInBounds (0 + x.2) x.1) cs W.zipIdx) = some W
 congr 1
 rw [<- Array.foldl_toList,Array.toList_zipIdx]
 apply Array.ext_getElem?
 intro e
 have := fold_set W.toList 0 cs (by simp; omega) e
 rw [this]
 by_cases h : e < W.size
 · rw [if_pos (by simp; omega),Nat.sub_zero,Array.getElem?_toList]
 · rw [if_neg (by simp; omega),Array.getElem?_eq_none (by omega),Array.getElem?_eq_none (by omega)]

theorem takeW {P : Program} {md : Region.Mode} {ops : Array Oper} {Q : Exit -> Act -> World -> Prop} (i d : Nat) {oi : Oper} {v : Value} {fuel : Nat} {listed : Array Bool} {a : Act} {w : World} (hi : ops[i]? = some oi) (hd : oi.dst = some d)
   (hs : Region.noSelect ops = true) (hf : Region.free md ops listed i = true) (hr : (Region.ready md ops listed).contains i = true)
   (hQ : ∀ c a w,Q (.panic c) (a.put oi.dst v) w -> Q (.panic c) a w) (hy : Yields P ops oi v a)
   (h : wpAny P md ops Q fuel (listed.setIfInBounds i true) { tmps := a.tmps.setIfInBounds d v,defers := a.defers } w) : wpAny P md ops Q (fuel + 1) listed a w := by
 refine wpAny_take hi hs hf hr hQ hy ?_
 rw [hd]
 exact h
theorem step_of_wp {P : Program} {ops : Array Oper} {o : Oper} {a : Act} {w : World} {K : Act -> World -> Prop} {Q : Exit -> Act -> World -> Prop} {E : Prop} (hg : o.guard = none) (h : Oper.wp P o a w K Q) : if Region.wanted o (yielded ops a.tmps) = true then Oper.wp P o a w K Q else E := by
 rw [if_pos (by simp [Region.wanted,hg])]
 exact h
theorem PAt.appended {u V w2 : World} {p : Nat} {vS vL vL' : Value} {x : Int} {st : St} {y : Nat × ByteArray} (h : PAt u p vS vL x st) (hV : Below u.heap.size u V)
   (hown : w2.ownsRow 0 96 257 vL' (st.loose.length + 1) (lc st.loose ++ wc y)) (hg : V.grownBy w2 vL.ownBlock) (hat : ∀ k,vL'.ownBlock = some k -> vL.ownBlock = some k \/ u.heap.size <= k) :
   PAt (w2.setCell ⟨p,1,none⟩ vL') p vS vL' x ⟨st.sure,st.loose ++ [y],st.left⟩ /\ Loc (DF p vS vL) (DF p vS vL') u (w2.setCell ⟨p,1,none⟩ vL') := by
 have hp : p < u.heap.size := h.lt p (Or.inl rfl)
 have e1 : w2.heap[p]? = some (.cells #[vS,vL,.int .i64 x] 76 (0,0)) :=
   (hg.block p (Nat.lt_of_lt_of_le hp hV.size) (fun e => h.ne1 e.symm)).trans ((hV.block p hp).trans h.head)
 have hS : w2.ownsRow 0 90 256 vS st.sure.length (sc st.sure) := own_same h.sure (fun g hgS => by
   have hlt := own_lt h.sure hgS
   exact (hg.block g (Nat.lt_of_lt_of_le hlt hV.size) (fun e => h.ne2 hgS e.symm)).trans (hV.block g hlt))
 have hL : w2.ownsRow 0 96 257 vL' (st.loose ++ [y]).length (lc (st.loose ++ [y])) := by
   rw [lc_snoc,List.length_append]; exact hown
 have nL : vL'.ownBlock ≠ some p := fun e => by
   obtain ⟨cur,hc⟩ := row_type hL e
   rw [e1] at hc
   cases hc
 refine ⟨⟨?_,?_,?_,h.left,h.fit⟩,?_⟩
 · rw [heap_set3 e1]; rfl
 · exact own_same hS (fun g hgS => Below.heap_setCell w2 ⟨p,1,none⟩ vL' g (fun e => h.ne0 (by rw [<- show g = p from e]; exact hgS)))
 · exact own_same hL (fun g hgL => Below.heap_setCell w2 ⟨p,1,none⟩ vL' g (fun e => nL (by rw [<- show g = p from e]; exact hgL)))
 · have l1 : Loc (DF p vS vL) (DF p vS vL) u V := Loc.of_below _ hV
   have l2 : Loc (DF p vS vL) (DF p vS vL') u w2 := ⟨hg.os.trans hV.os,hg.tape.trans hV.tape,hg.output.trans hV.output,Nat.le_trans hV.size hg.size,fun k hk hF => (hg.block k (Nat.lt_of_lt_of_le hk hV.size) (fun e => hF (Or.inr (Or.inr e.symm)))).trans (hV.block k hk),fun k hk => by
     rcases hk with h1 | h1 | h1
     · exact Or.inl (Or.inl h1)
     · exact Or.inl (Or.inr (Or.inl h1))
     · rcases hat k h1 with h2 | h2
       · exact Or.inl (Or.inr (Or.inr h2))
       · exact Or.inr h2⟩
   exact l2.trans (Loc.setCell w2 ⟨p,1,none⟩ vL' (Or.inl rfl))
theorem PAt.headIn {u V w2 : World} {p : Nat} {vS vL : Value} {x : Int} {st : St} (h : PAt u p vS vL x st) (hV : Below u.heap.size u V) (hg : V.grownBy w2 vL.ownBlock) : w2.cell? ⟨p,1,none⟩ = some vL /\ w2.frozen? ⟨p,1,none⟩ = false := by
 have hp : p < u.heap.size := h.lt p (Or.inl rfl)
 have e1 : w2.heap[p]? = some (.cells #[vS,vL,.int .i64 x] 76 (0,0)) :=
   (hg.block p (Nat.lt_of_lt_of_le hp hV.size) (fun e => h.ne1 e.symm)).trans ((hV.block p hp).trans h.head)
 exact ⟨by simp [World.cell?,e1],by simp [World.frozen?,e1]⟩
theorem wp_build58 {o : Oper} {a : Act} {w : World} {K : Act -> World -> Prop} {Q : Exit -> Act -> World -> Prop} (x : Operand) (W : Array Value) (ho : o.op = .buildSlice 74 1 #[(0,x)]) (hx : a.eval x = .agg W) (hW : W.size = 257)
   (h : K (a.put o.dst (.slice (some ⟨w.heap.size,0,none⟩) 1 1)) (w.alloc (.cells W 96))) : o.wp Tryz.prog a w K Q := by
 obtain ⟨i0,hi,hz0,hz1,hz2⟩ := info_parts info71
 refine wp_buildSlice 74 96 1 #[(0,x)] ho W i0 _ Tryz.underlying74 hi hz0 (by rw [hz1]; decide) (by rw [hz1]; decide) ?_ h
 have hp : ((#[(0,x)] : Array (Nat × Operand)).map fun (i,x) => (i,a.eval x)).toList = [(0,a.eval x)] := by simp
 rw [hp,hx]
 exact fill_all _ _ W 257 (by rw [hz1]) hW (by rw [Array.size_map,Array.size_range,hz1])
theorem K_put {K : Act -> World -> Prop} {o : Oper} {a : Act} {v : Value} {w : World} (d : Nat) (hd : o.dst = some d) (h : K { tmps := a.tmps.setIfInBounds d v,defers := a.defers } w) : K (a.put o.dst v) w := by
 rw [hd]
 exact h
set_option maxRecDepth 10000 in
set_option maxHeartbeats 1000000 in
theorem pWrite_in (p : Nat) (vS vL : Value) (x : Int) (st : St) (m : Nat) (d : ByteArray) (w : World) (h : PAt w p vS vL x st) (hok : st.Ok) (h0 : st.left ≠ 0) (hm : m < st.sure.length) (hd : d.size = 256) (hl : st.loose.length <= 10000) :
   Calls Tryz.prog 34 #[.pointer (some ⟨p,0,none⟩),.int .i64 (m : Int),.string d] w fun e w' => e = .returned (.int .i64 0) /\ ∃ vL' y,PAt w' p vS vL' y ⟨st.sure,st.loose ++ [(m,d)],counted st.left⟩ /\ Loc (DF p vS vL) (DF p vS vL') w w' := by
 have KF := hide (pFaultAt p vS vL x st (m : Int) w h hok)
 have hf : faultAtOf st (m : Int) = 0 := by unfold faultAtOf; rw [if_neg h0,if_neg (fun hh => hh ⟨by omega,by omega⟩)]
 rw [hf] at KF
 have H := hide h
 have HOk := hide hok
 have hz : (d.size : Int) = 256 := by omega
 have HD := hide hd
 have hzv := zv71
 have hcp := copy71 w m d hd
 have HZ0 := hide (w0_size 0)
 have HZ1 := hide (w0_size (m : Int))
 have HO1 := hide (w0_one (m : Int))
 have HBu : Hid (Tryz.prog.built 96 [(0,.int .i64 (m : Int))] = some (w0 (m : Int))) := built71 (m : Int)
 have HA1 := hide (heap_alloc_last w (.cells (w0 0) 96))
 have HA2 := hide (World.setRow_alloc_new w (w0 0) (w0 (m : Int)) 96)
 clear h hok hf h0 hd
 obtain ⟨i0,hi,hz0,hz1,hz2⟩ := info_parts info71
 have HI := hide (And.intro hi (And.intro hz0 (And.intro hz1 hz2)))
 clear hi hz0 hz1 hz2
 have HW1 : Hid ((wc (m,d)).toArray.size = 257) := by unfold Hid; rw [List.size_toArray,wc_length _ HD.out]
 have HWo : Hid (∀ v ∈ (wc (m,d)).toArray.toList,v.oneCell' = true) := fun v hv => wc_one (m,d) v (by simpa using hv)
 have HWl : Hid ((wc (m,d)).toArray.toList = wc (m,d)) := rfl
 generalize hW : (wc (m,d)).toArray = W at *
 clear hW
 generalize w0 0 = Z0 at *
 generalize w0 (m : Int) = Z1 at *
 go_enter Tryz.func34,Tryz.ntmps34
 go_wp2_with fail
 refine KF.out.mono ?_
 rintro e w1 ⟨rfl,hw1⟩
 obtain rfl := hw1.symm
 go_upto_region 7 with (first
   | (with_reducible refine wpList_built (by with_unfolding_all rfl) 96 _ (by with_unfolding_all rfl) Z1 (by with_unfolding_all exact HBu.out) ?_)
   | (with_reducible refine wpList_store_row (by with_unfolding_all rfl) 96 (.tmp 8) (.tmp 19) (by with_unfolding_all rfl) w.heap.size Z1 (by with_unfolding_all rfl) (by with_unfolding_all rfl) 96 Z0 HA1.out (by rw [HZ1.out]; exact size71) (by rw [HZ1.out,HZ0.out]) HO1.out ?_))
 rw [HA2.out]
 go_wp2_with fail
 have hU : Below w.heap.size w (w.alloc (.cells W 96)) := (Below.refl _ _).alloc (Nat.le_refl _) _
 have HP := hide (H.out.below hU)
 have L0 : Hid (Loc (DF p vS vL) (DF p vS vL) w (w.alloc (.cells W 96))) := Loc.of_below _ hU
 have HG := hide (heap_alloc_last w (.cells W 96))
 clear KF hcp HA1 HA2 HBu hU H
 generalize w.alloc (.cells W 96) = U at *
 generalize w.heap.size = g at *
 have hc1 := HP.out.cell1
 have hf1 := HP.out.free 1
 have HV : Hid (Below U.heap.size U (U.drew.alloc (.cells W 96))) := ((Below.refl _ _).drew).alloc (Nat.le_refl _) _
 have HV2 : Hid (U.heap.size <= (U.drew.alloc (.cells W 96)).heap.size) := HV.out.size
 have HG2 : Hid (U.drew.heap[g]? = some (.cells W 96 (0,0))) := HG.out
 have hc2 : (U.alloc (.cells W 96)).cell? ⟨p,1,none⟩ = some vL := (HP.out.below HV.out).cell1
 refine wp_region_any (by kernel_rfl) ?_
 change wpAny _ _ _ _ _ _ _ (World.drew _)
 refine takeW 0 24 (v := ?v0) rfl rfl (by kernel_rfl) (by kernel_rfl) (by kernel_rfl) (fun _ _ _ h => h) (Or.inl ⟨by rfl,?hy0⟩) ?_
 case hy0 => (intro w; go_simp; first | done | with_reducible rfl)
 simp only [List.setIfInBounds_toArray,List.set_cons_succ,List.set_cons_zero]
 refine takeW 1 25 (v := ?v1) rfl rfl (by kernel_rfl) (by kernel_rfl) (by kernel_rfl) (fun _ _ _ h => h) (Or.inl ⟨by rfl,?hy1⟩) ?_
 case hy1 => (intro w; go_simp; first | done | with_reducible rfl)
 simp only [List.setIfInBounds_toArray,List.set_cons_succ,List.set_cons_zero]
 refine takeW 2 26 (v := ?v2) rfl rfl (by kernel_rfl) (by kernel_rfl) (by kernel_rfl) (fun _ _ _ h => h) (Or.inl ⟨by rfl,?hy2⟩) ?_
 case hy2 => (intro w; go_simp; first | done | with_reducible rfl)
 simp only [List.setIfInBounds_toArray,List.set_cons_succ,List.set_cons_zero]
 refine takeW 3 27 (v := ?v3) rfl rfl (by kernel_rfl) (by kernel_rfl) (by kernel_rfl) (fun _ _ _ h => h) (Or.inl ⟨by rfl,?hy3⟩) ?_
 case hy3 => (intro w; go_simp; first | done | with_reducible rfl)
 simp only [List.setIfInBounds_toArray,List.set_cons_succ,List.set_cons_zero]
 refine wpAny_ready (rs := [4,5]) (by kernel_rfl) (by simp) ?_
 refine AllReady.cons rfl (fun K hK => ?_) (AllReady.cons rfl (fun K hK => ?_) AllReady.nil)
 · go_simp
   refine hK _ _ ?_
   clear hK K
   refine wpAny_ready (rs := [5]) (by kernel_rfl) (by simp) ?_
   refine AllReady.cons rfl (fun K hK => ?_) AllReady.nil
   refine step_of_wp rfl (wp_load_row 96 (.tmp 8) rfl g rfl 96 W (0,0) _ HG2.out Tryz.underlying96 rfl (by rw [HW1.out]; exact size71) ?_)
   refine K_put (K := K) 29 rfl ?_
   refine hK _ _ ?_
   clear hK K
   simp only [List.setIfInBounds_toArray,List.set_cons_succ,List.set_cons_zero]
   refine wpAny_ready (rs := [6]) (by kernel_rfl) (by simp) ?_
   refine AllReady.cons rfl (fun K hK => ?_) AllReady.nil
   refine step_of_wp rfl (wp_build58 (.tmp 29) W rfl rfl HW1.out ?_)
   refine K_put (K := K) 30 rfl ?_
   refine hK _ _ ?_
   clear hK K
   simp only [List.setIfInBounds_toArray,List.set_cons_succ,List.set_cons_zero]
   refine wpAny_ready (rs := [7]) (by kernel_rfl) (by simp) ?_
   refine AllReady.cons rfl (fun K hK => ?_) AllReady.nil
   refine step_append_lies _ (by rfl) _ _ _ (by rfl) 0 96 i0 _ 257 264 Tryz.underlying74 HI.out.1 HI.out.2.1 HI.out.2.2.1 HI.out.2.2.2 rfl (by decide) vL st.loose.length _ (by rfl) (World.ownsRow.alloc HP.out.drew.loose _) ⟨U.heap.size,0,none⟩ 1 1 W.toList (by rfl) (by rw [Array.length_toList,HW1.out]) (World.news_of_block (heap_alloc_last U.drew _)) HWo.out (by decide) (by unfold maxLen; omega) (by omega) (by omega) _ rfl ?_
   intro gN cN w2 hown hgrow hat hlt2
   obtain ⟨hcw,hfw⟩ := HP.out.headIn HV.out hgrow
   refine K_put (K := K) 31 rfl ?_
   refine hK _ _ ?_
   clear hK K
   simp only [List.setIfInBounds_toArray,List.set_cons_succ,List.set_cons_zero]
   refine takeW 8 32 (v := ?v8) rfl rfl (by kernel_rfl) (by kernel_rfl) (by kernel_rfl) (fun _ _ _ h => h) (Or.inl ⟨by rfl,?hy8⟩) ?_
   case hy8 => (intro w; go_simp; first | done | with_reducible rfl)
   simp only [List.setIfInBounds_toArray,List.set_cons_succ,List.set_cons_zero]
   refine takeW 9 33 (v := ?v9) rfl rfl (by kernel_rfl) (by kernel_rfl) (by kernel_rfl) (fun _ _ _ h => h) (Or.inl ⟨by rfl,?hy9⟩) ?_
   case hy9 => (intro w; go_simp; first | done | with_reducible rfl)
   simp only [List.setIfInBounds_toArray,List.set_cons_succ,List.set_cons_zero]
   refine wpAny_ready (rs := [10]) (by kernel_rfl) (by simp) ?_
   refine AllReady.cons rfl (fun K hK => ?_) AllReady.nil
   go_simp
   refine hK _ _ ?_
   clear hK K
   refine wpAny_done (by kernel_rfl) ?_ _
   obtain ⟨ha1,ha2⟩ := HP.out.appended (y := (m,d)) HV.out (by rw [<- HWl.out]; exact hown) hgrow (fun k hk => by
     cases hk
     rcases hat with h3 | h3
     · exact Or.inl h3
     · exact Or.inr (by rw [h3]; exact HV2.out))
   have HA := hide (And.intro ha1 (L0.out.trans ha2))
   clear ha1 ha2 hown hgrow hat hcw hfw hlt2
   generalize w2.setCell ⟨p,1,none⟩ (.slice (some ⟨gN,0,none⟩) (st.loose.length + 1) cN) = w3 at *
   go_wp2_with fail
   refine (pBurn p vS _ x _ w3 HA.out.1).mono ?_
   rintro e w4 ⟨⟨v4,rfl⟩,⟨y4,h4⟩,l4⟩
   have HE := hide (And.intro h4 (HA.out.2.trans l4))
   clear h4 l4
   go_wp2
   go_ret
   exact ⟨rfl,_,y4,HE.out.1,HE.out.2⟩
 · refine step_of_wp rfl (wp_load_row 96 (.tmp 8) rfl g rfl 96 W (0,0) _ HG2.out Tryz.underlying96 rfl (by rw [HW1.out]; exact size71) ?_)
   refine K_put (K := K) 29 rfl ?_
   refine hK _ _ ?_
   clear hK K
   simp only [List.setIfInBounds_toArray,List.set_cons_succ,List.set_cons_zero]
   refine wpAny_ready (rs := [4,6]) (by kernel_rfl) (by simp) ?_
   refine AllReady.cons rfl (fun K hK => ?_) (AllReady.cons rfl (fun K hK => ?_) AllReady.nil)
   · go_simp
     refine hK _ _ ?_
     clear hK K
     refine wpAny_ready (rs := [6]) (by kernel_rfl) (by simp) ?_
     refine AllReady.cons rfl (fun K hK => ?_) AllReady.nil
     refine step_of_wp rfl (wp_build58 (.tmp 29) W rfl rfl HW1.out ?_)
     refine K_put (K := K) 30 rfl ?_
     refine hK _ _ ?_
     clear hK K
     simp only [List.setIfInBounds_toArray,List.set_cons_succ,List.set_cons_zero]
     refine wpAny_ready (rs := [7]) (by kernel_rfl) (by simp) ?_
     refine AllReady.cons rfl (fun K hK => ?_) AllReady.nil
     refine step_append_lies _ (by rfl) _ _ _ (by rfl) 0 96 i0 _ 257 264 Tryz.underlying74 HI.out.1 HI.out.2.1 HI.out.2.2.1 HI.out.2.2.2 rfl (by decide) vL st.loose.length _ (by rfl) (World.ownsRow.alloc HP.out.drew.loose _) ⟨U.heap.size,0,none⟩ 1 1 W.toList (by rfl) (by rw [Array.length_toList,HW1.out]) (World.news_of_block (heap_alloc_last U.drew _)) HWo.out (by decide) (by unfold maxLen; omega) (by omega) (by omega) _ rfl ?_
     intro gN cN w2 hown hgrow hat hlt2
     obtain ⟨hcw,hfw⟩ := HP.out.headIn HV.out hgrow
     refine K_put (K := K) 31 rfl ?_
     refine hK _ _ ?_
     clear hK K
     simp only [List.setIfInBounds_toArray,List.set_cons_succ,List.set_cons_zero]
     refine takeW 8 32 (v := ?v8) rfl rfl (by kernel_rfl) (by kernel_rfl) (by kernel_rfl) (fun _ _ _ h => h) (Or.inl ⟨by rfl,?hy8⟩) ?_
     case hy8 => (intro w; go_simp; first | done | with_reducible rfl)
     simp only [List.setIfInBounds_toArray,List.set_cons_succ,List.set_cons_zero]
     refine takeW 9 33 (v := ?v9) rfl rfl (by kernel_rfl) (by kernel_rfl) (by kernel_rfl) (fun _ _ _ h => h) (Or.inl ⟨by rfl,?hy9⟩) ?_
     case hy9 => (intro w; go_simp; first | done | with_reducible rfl)
     simp only [List.setIfInBounds_toArray,List.set_cons_succ,List.set_cons_zero]
     refine wpAny_ready (rs := [10]) (by kernel_rfl) (by simp) ?_
     refine AllReady.cons rfl (fun K hK => ?_) AllReady.nil
     go_simp
     refine hK _ _ ?_
     clear hK K
     refine wpAny_done (by kernel_rfl) ?_ _
     obtain ⟨ha1,ha2⟩ := HP.out.appended (y := (m,d)) HV.out (by rw [<- HWl.out]; exact hown) hgrow (fun k hk => by
       cases hk
       rcases hat with h3 | h3
       · exact Or.inl h3
       · exact Or.inr (by rw [h3]; exact HV2.out))
     have HA := hide (And.intro ha1 (L0.out.trans ha2))
     clear ha1 ha2 hown hgrow hat hcw hfw hlt2
     generalize w2.setCell ⟨p,1,none⟩ (.slice (some ⟨gN,0,none⟩) (st.loose.length + 1) cN) = w3 at *
     go_wp2_with fail
     refine (pBurn p vS _ x _ w3 HA.out.1).mono ?_
     rintro e w4 ⟨⟨v4,rfl⟩,⟨y4,h4⟩,l4⟩
     have HE := hide (And.intro h4 (HA.out.2.trans l4))
     clear h4 l4
     go_wp2
     go_ret
     exact ⟨rfl,_,y4,HE.out.1,HE.out.2⟩
   · refine step_of_wp rfl (wp_build58 (.tmp 29) W rfl rfl HW1.out ?_)
     refine K_put (K := K) 30 rfl ?_
     refine hK _ _ ?_
     clear hK K
     simp only [List.setIfInBounds_toArray,List.set_cons_succ,List.set_cons_zero]
     refine wpAny_ready (rs := [4]) (by kernel_rfl) (by simp) ?_
     refine AllReady.cons rfl (fun K hK => ?_) AllReady.nil
     go_simp
     refine hK _ _ ?_
     clear hK K
     refine wpAny_ready (rs := [7]) (by kernel_rfl) (by simp) ?_
     refine AllReady.cons rfl (fun K hK => ?_) AllReady.nil
     refine step_append_lies _ (by rfl) _ _ _ (by rfl) 0 96 i0 _ 257 264 Tryz.underlying74 HI.out.1 HI.out.2.1 HI.out.2.2.1 HI.out.2.2.2 rfl (by decide) vL st.loose.length _ (by rfl) (World.ownsRow.alloc HP.out.drew.loose _) ⟨U.heap.size,0,none⟩ 1 1 W.toList (by rfl) (by rw [Array.length_toList,HW1.out]) (World.news_of_block (heap_alloc_last U.drew _)) HWo.out (by decide) (by unfold maxLen; omega) (by omega) (by omega) _ rfl ?_
     intro gN cN w2 hown hgrow hat hlt2
     obtain ⟨hcw,hfw⟩ := HP.out.headIn HV.out hgrow
     refine K_put (K := K) 31 rfl ?_
     refine hK _ _ ?_
     clear hK K
     simp only [List.setIfInBounds_toArray,List.set_cons_succ,List.set_cons_zero]
     refine takeW 8 32 (v := ?v8) rfl rfl (by kernel_rfl) (by kernel_rfl) (by kernel_rfl) (fun _ _ _ h => h) (Or.inl ⟨by rfl,?hy8⟩) ?_
     case hy8 => (intro w; go_simp; first | done | with_reducible rfl)
     simp only [List.setIfInBounds_toArray,List.set_cons_succ,List.set_cons_zero]
     refine takeW 9 33 (v := ?v9) rfl rfl (by kernel_rfl) (by kernel_rfl) (by kernel_rfl) (fun _ _ _ h => h) (Or.inl ⟨by rfl,?hy9⟩) ?_
     case hy9 => (intro w; go_simp; first | done | with_reducible rfl)
     simp only [List.setIfInBounds_toArray,List.set_cons_succ,List.set_cons_zero]
     refine wpAny_ready (rs := [10]) (by kernel_rfl) (by simp) ?_
     refine AllReady.cons rfl (fun K hK => ?_) AllReady.nil
     go_simp
     refine hK _ _ ?_
     clear hK K
     refine wpAny_done (by kernel_rfl) ?_ _
     obtain ⟨ha1,ha2⟩ := HP.out.appended (y := (m,d)) HV.out (by rw [<- HWl.out]; exact hown) hgrow (fun k hk => by
       cases hk
       rcases hat with h3 | h3
       · exact Or.inl h3
       · exact Or.inr (by rw [h3]; exact HV2.out))
     have HA := hide (And.intro ha1 (L0.out.trans ha2))
     clear ha1 ha2 hown hgrow hat hcw hfw hlt2
     generalize w2.setCell ⟨p,1,none⟩ (.slice (some ⟨gN,0,none⟩) (st.loose.length + 1) cN) = w3 at *
     go_wp2_with fail
     refine (pBurn p vS _ x _ w3 HA.out.1).mono ?_
     rintro e w4 ⟨⟨v4,rfl⟩,⟨y4,h4⟩,l4⟩
     have HE := hide (And.intro h4 (HA.out.2.trans l4))
     clear h4 l4
     go_wp2
     go_ret
     exact ⟨rfl,_,y4,HE.out.1,HE.out.2⟩
set_option maxHeartbeats 400000 in
theorem pWrite (p : Nat) (vS vL : Value) (x : Int) (st : St) (b : Int) (d : ByteArray) (w : World) (h : PAt w p vS vL x st) (hok : st.Ok) (hl : st.loose.length <= 10000) :
   Calls Tryz.prog 34 #[.pointer (some ⟨p,0,none⟩),.int .i64 b,.string d] w fun e w' => e = .returned (.int .i64 (((st.write b d).1 : Nat) : Int)) /\ ∃ vL' y,PAt w' p vS vL' y (st.write b d).2 /\ Loc (DF p vS vL) (DF p vS vL') w w' := by
 have KF := hide (pFaultAt p vS vL x st b w h hok)
 by_cases h0 : st.left = 0
 · have hw : st.write b d = (50,st) := by unfold St.write; rw [if_pos h0]
   have hf : faultAtOf st b = 50 := by unfold faultAtOf; rw [if_pos h0]
   rw [hw]
   rw [hf] at KF
   have H := hide h
   clear hw hf h0 h hok
   go_enter Tryz.func34,Tryz.ntmps34
   go_wp2_with fail
   refine KF.out.mono ?_
   rintro e w1 ⟨rfl,hw1⟩
   obtain rfl := hw1.symm
   go_wp2
   go_ret
   exact ⟨rfl,vL,x,H.out,Loc.refl _ _⟩
 · by_cases h1 : 0 <= b /\ b < (st.sure.length : Int)
   · by_cases h2 : d.size = 256
     · have hw : st.write b d = (0,⟨st.sure,st.loose ++ [(b.toNat,d)],counted st.left⟩) := by unfold St.write; rw [if_neg h0,if_neg (fun h => h h1),if_neg (fun h => h h2)]
       rw [hw]
       obtain ⟨m,hm⟩ : ∃ m : Nat,b = (m : Int) := ⟨b.toNat,by omega⟩
       subst hm
       rw [Int.toNat_natCast]
       exact pWrite_in p vS vL x st m d w h hok h0 (by omega) h2 hl
     · have hw : st.write b d = (2,st) := by unfold St.write; rw [if_neg h0,if_neg (fun h => h h1),if_pos h2]
       have hf : faultAtOf st b = 0 := by unfold faultAtOf; rw [if_neg h0,if_neg (fun hh => hh h1)]
       rw [hw]
       rw [hf] at KF
       have hz : ¬ ((d.size : Int) = 256) := by omega
       have H := hide h
       clear hw hf h0 h1 h2 h hok
       go_enter Tryz.func34,Tryz.ntmps34
       go_wp2_with fail
       refine KF.out.mono ?_
       rintro e w1 ⟨rfl,hw1⟩
       obtain rfl := hw1.symm
       go_wp2
       go_ret
       exact ⟨rfl,vL,x,H.out,Loc.refl _ _⟩
   · have hw : st.write b d = (5,st) := by unfold St.write; rw [if_neg h0,if_pos h1]
     have hf : faultAtOf st b = 5 := by unfold faultAtOf; rw [if_neg h0,if_pos h1]
     rw [hw]
     rw [hf] at KF
     have H := hide h
     clear hw hf h0 h1 h hok
     go_enter Tryz.func34,Tryz.ntmps34
     go_wp2_with fail
     refine KF.out.mono ?_
     rintro e w1 ⟨rfl,hw1⟩
     obtain rfl := hw1.symm
     go_wp2
     go_ret
     exact ⟨rfl,vL,x,H.out,Loc.refl _ _⟩
end Go.Proofs.YtchhojkhfdkhfaaGreatDoor
namespace Go.Proofs.YtchhojkhfdkhfaaGreatDoor
set_option maxRecDepth 20000
open Go Go.RowKit
theorem own_copy {w : World} {e : TypeId} {size n g c : Nat} {xs cs : List Value} {cur : Array Value} {i : Nat} (h : w.ownsRow 0 e size (.slice (some ⟨g,0,none⟩) n c) n xs) (hg : w.heap[g]? = some (.cells cur e (0,0))) (hi : i + cs.length <= n * size) :
   (w.setRow g (cur.toList.take i ++ cs ++ cur.toList.drop (i + cs.length)).toArray).ownsRow 0 e size (.slice (some ⟨g,0,none⟩) n c) n (xs.take i ++ cs ++ xs.drop (i + cs.length)) := by
 have hl := h.1
 rcases h.2 with ⟨h1,_⟩ | ⟨g',cap,cur',h1,h2,h3,h4,h5,h6,h7⟩
 · cases h1
 · cases h1
   rw [hg] at h3
   cases h3
   have hle : n * size <= cur.size := by rw [h6]; exact Nat.mul_le_mul_right _ h4
   refine ⟨?_,Or.inr ⟨g,c,_,rfl,Nat.zero_le _,setRow_heap w g _ _ _ _ hg,h4,h5,?_,?_⟩⟩
   · simp only [List.length_append,List.length_take,List.length_drop]
     omega
   · simp only [List.size_toArray,List.length_append,List.length_take,List.length_drop,Array.length_toList]
     omega
   · have ht : (cur.toList.take i).length = i := by rw [List.length_take,Array.length_toList]; omega
     show (cur.toList.take i ++ cs ++ cur.toList.drop (i + cs.length)).take (n * size) = _
     rw [<- h7,List.take_append,List.take_append,ht,List.length_append,ht,List.take_take,List.take_take,List.drop_take,List.take_of_length_le (l := cs) (by omega)]
     congr 2
     rw [show min (n * size) i = i from by omega,show min i (n * size) = i from by omega]
theorem own_block {w : World} {e : TypeId} {size n g c : Nat} {xs : List Value} (h : w.ownsRow 0 e size (.slice (some ⟨g,0,none⟩) n c) n xs) : ∃ cur,w.heap[g]? = some (.cells cur e (0,0)) /\ n * size <= cur.size := by
 rcases h.2 with ⟨h1,_⟩ | ⟨g',cap,cur',h1,h2,h3,h4,h5,h6,h7⟩
 · cases h1
 · cases h1
   exact ⟨cur',h3,by rw [h6]; exact Nat.mul_le_mul_right _ h4⟩
theorem Loc.setRow {F : Nat -> Prop} (u : World) (g : Nat) (cs : Array Value) (hg : F g) : Loc F F u (u.setRow g cs) :=
 ⟨rfl,rfl,rfl,by rw [setRow_size]; exact Nat.le_refl _,fun k _ hF => setRow_other u g k cs (fun e => hF (e ▸ hg)),fun _ h => Or.inl h⟩
theorem PAt.settled {u : World} {p gS n c : Nat} {vL : Value} {x : Int} {st : St} {cur : Array Value} (h : PAt u p (.slice (some ⟨gS,0,none⟩) n c) vL x st) (hn : n = st.sure.length) (hs : ∀ s ∈ st.sure,s.size = 256) (hg : u.heap[gS]? = some (.cells cur 90 (0,0))) (b : Nat) (d : ByteArray) (y : Int) (q : Nat) (hb : b < st.sure.length) (hd : d.size = 256) (hq : max (min y 256) 0 = (q : Int)) :
   PAt (u.setRow gS (cur.toList.take (b * 256) ++ (tc d).take q ++ cur.toList.drop (b * 256 + ((tc d).take q).length)).toArray) p (.slice (some ⟨gS,0,none⟩) n c) vL x ⟨st.sure.set b (torn (st.sure.getD b noText) d y),st.loose,st.left⟩ := by
 subst hn
 have n0 : gS ≠ p := fun e => h.ne0 (by rw [e]; rfl)
 have n2 : vL.ownBlock ≠ some gS := h.ne2 rfl
 have hql : ((tc d).take q).length = q := by rw [List.length_take,tc_length]; omega
 refine ⟨(setRow_other u gS p _ (fun e => n0 e.symm)).trans h.head,?_,own_same h.loose (fun k hk => setRow_other u gS k _ (fun e => n2 (e ▸ hk))),h.left,h.fit⟩
 show World.ownsRow _ 0 90 256 _ (st.sure.set b (torn (st.sure.getD b noText) d y)).length (sc (st.sure.set b (torn (st.sure.getD b noText) d y)))
 rw [List.length_set, <- sc_copy st.sure hs b hb d y q hq]
 have := own_copy (cs := (tc d).take q) (i := b * 256) h.sure hg (by rw [hql]; omega)
 rw [hql] at this ⊢
 exact this
theorem copy61 (u : World) (gS b g : Nat) (cur : Array Value) (m : Nat) (d : ByteArray) (q : Nat) (hd : d.size = 256) (hq : q <= 256) (hg : u.heap[gS]? = some (.cells cur 90 (0,0))) (hc : b * 256 + 256 <= cur.size) (hw : u.heap[g]? = some (.cells (wc (m,d)).toArray 96 (0,0))) (ty : TypeId) :
   (Builtin.copy_ #[77,77] ty #[.slice (some ⟨gS,b * 256,none⟩) 256 256,.slice (some ⟨g,1,none⟩) q 256]).run Tryz.prog u = .ok (goInt q) (u.setRow gS (cur.toList.take (b * 256) ++ (tc d).take q ++ cur.toList.drop (b * 256 + ((tc d).take q).length)).toArray) := by
 have hql : ((tc d).take q).length = q := by rw [List.length_take,tc_length]; omega
 have h := run_copy_row (P := Tryz.prog) u 77 77 ty 5 gS (b * 256) 256 256 ⟨g,1,none⟩ q 256 cur 90 ((tc d).take q) Tryz.underlying77 size5 hg (by rw [hql]; exact (Nat.min_eq_left hq).symm) (fun j v hv => by
   rw [Addr.add_mid,cell_of_row _ _ _ _ _ _ hw,List.getElem?_toArray,Nat.add_comm]
   show (wc (m,d))[j + 1]? = some v
   have hj : j < ((tc d).take q).length := (List.getElem?_eq_some_iff.1 hv).1
   rw [List.getElem?_take_of_lt (by omega)] at hv
   exact hv) (by rw [hql]; omega) (fun v hv => tc_one d v (List.mem_of_mem_take hv))
 rw [h]
 congr 2
 rw [hql]
set_option maxRecDepth 10000 in
set_option maxHeartbeats 1000000 in
theorem pSettle (p : Nat) (vS vL : Value) (x : Int) (st : St) (b : Nat) (d : ByteArray) (y : Int) (w : World) (h : PAt w p vS vL x st) (hs : ∀ s ∈ st.sure,s.size = 256) (hf : st.sure.length <= 4096) (hb : b < st.sure.length) (hd : d.size = 256) (hy : -9223372036854775808 <= y /\ y <= 9223372036854775807) :
   Calls Tryz.prog 59 #[.pointer (some ⟨p,0,none⟩),.agg (wc (b,d)).toArray,.int .i64 y] w fun e w' => (∃ v,e = .returned v) /\ PAt w' p vS vL x ⟨st.sure.set b (torn (st.sure.getD b noText) d y),st.loose,st.left⟩ /\ Loc (DF p vS vL) (DF p vS vL) w w' := by
 obtain ⟨q,hq⟩ : ∃ q : Nat,max (min y 256) 0 = (q : Int) := ⟨(max (min y 256) 0).toNat,by omega⟩
 obtain ⟨aS,cS,rfl,_⟩ := slice_of h.sure
 obtain ⟨gS,rfl,hxS⟩ := row_cell h.sure (by omega)
 clear hxS
 have hU : Below w.heap.size w (w.alloc (.cells (wc (b,d)).toArray 96)) := (Below.refl _ _).alloc (Nat.le_refl _) _
 have hP := h.below hU
 obtain ⟨cur,hg,hcs⟩ := own_block hP.sure
 have hG : (w.alloc (.cells (wc (b,d)).toArray 96)).heap[w.heap.size]? = some (.cells (wc (b,d)).toArray 96 (0,0)) := heap_alloc_last w _
 have hcp := copy61 (w.alloc (.cells (wc (b,d)).toArray 96)).drew gS b w.heap.size cur b d q hd (by omega) hg (by omega) hG
 have HS := hide (hP.drew.settled rfl hs hg b d y q hb hd hq)
 have L0 : Hid (Loc (DF p (.slice (some ⟨gS,0,none⟩) st.sure.length cS) vL) (DF p (.slice (some ⟨gS,0,none⟩) st.sure.length cS) vL) w (w.alloc (.cells (wc (b,d)).toArray 96)).drew) := (Loc.of_below _ hU).drew
 have hc0 := hP.cell0
 have hcb : (w.alloc (.cells (wc (b,d)).toArray 96)).cell? ⟨w.heap.size,0,none⟩ = some (.int .i64 (b : Int)) := by rw [cell_of_row _ _ _ _ _ _ hG]; rfl
 clear h hP hU hG hg
 generalize hW : (wc (b,d)).toArray = W at *
 clear hW
 have HNew := hide (Loc.setRow (F := DF p (.slice (some ⟨gS,0,none⟩) st.sure.length cS) vL) (w.alloc (.cells W 96)).drew gS (cur.toList.take (b * 256) ++ (tc d).take q ++ cur.toList.drop (b * 256 + ((tc d).take q).length)).toArray (Or.inr (Or.inl rfl)))
 generalize (cur.toList.take (b * 256) ++ (tc d).take q ++ cur.toList.drop (b * 256 + ((tc d).take q).length)).toArray = N at *
 have hbz : (b : Int) < (st.sure.length : Int) := by omega
 go_enter Tryz.func59,Tryz.ntmps59
 go_upto_region 1 with fail
 generalize w.alloc (.cells W 96) = U at *
 generalize w.heap.size = g at *
 by_cases h0 : y < 0
 · have hq0 : q = 0 := by omega
   subst hq0
   have hy2 : ¬ (0 <= y) := by omega
   clear hq hy
   go_wp2_with fail
   go_region
   all_goals
     go_wp2
     go_end0
     exact ⟨⟨_,rfl⟩,HS.out,L0.out.trans HNew.out⟩
 · by_cases h1 : y <= 256
   · have hqy : y = (q : Int) := by omega
     subst hqy
     have hq2 : (q : Int) <= 256 := by omega
     have hq1 : (0 : Int) <= (q : Int) := by omega
     clear hq h0
     go_wp2_with fail
     go_region
     all_goals
       go_wp2
       go_end0
       exact ⟨⟨_,rfl⟩,HS.out,L0.out.trans HNew.out⟩
   · have hq0 : q = 256 := by omega
     subst hq0
     have hy2 : (256 : Int) < y := by omega
     have hy3 : (0 : Int) <= y := by omega
     clear hq hy
     go_wp2_with fail
     go_region
     all_goals
       go_wp2
       go_end0
       exact ⟨⟨_,rfl⟩,HS.out,L0.out.trans HNew.out⟩
theorem torn_256 {old new : ByteArray} (ho : old.size = 256) (hn : new.size = 256) : torn old new 256 = new := by
 rw [<- torn_full (x := 256) ho rfl]
 apply ByteArray.ext
 have h2 : new.data.size = 256 := hn
 rw [ByteArray.data_extract, <- h2,Array.extract_size]
theorem wcs (y : Nat × ByteArray) (h : y.2.size = 256) : (wc y).toArray.size = 257 := by rw [List.size_toArray,wc_length y h]
theorem wcone (y : Nat × ByteArray) : (wc y).toArray.all (·.oneCell') = true := all_oneCell_toArray (wc_one y)
set_option maxRecDepth 10000 in
set_option maxHeartbeats 2000000 in
theorem pSync (p : Nat) (vS vL : Value) (x : Int) (st : St) (w : World) (h : PAt w p vS vL x st) (hok : st.Ok) (hl : st.loose.length <= 10000) :
   Calls Tryz.prog 54 #[.pointer (some ⟨p,0,none⟩)] w fun e w' => e = .returned (.int .i64 ((st.sync.1 : Nat) : Int)) /\ ∃ vL' y,PAt w' p vS vL' y st.sync.2 /\ Loc (DF p vS vL) (DF p vS vL') w w' := by
 have KF := hide (pFault p vS vL x st w h hok)
 have H := hide h
 have HOk := hide hok
 by_cases h0 : st.left = 0
 · have hw : st.sync = (50,st) := by unfold St.sync; rw [if_pos h0]
   have hf : faultOf st.left = 50 := by unfold faultOf; rw [if_pos h0]
   rw [hw]
   rw [hf] at KF
   clear hw hf h0 h hok
   go_enter Tryz.func54,Tryz.ntmps54
   go_wp2_with fail
   refine KF.out.mono ?_
   rintro e w1 ⟨rfl,hw1⟩
   obtain rfl := hw1.symm
   go_wp2
   go_ret
   exact ⟨rfl,vL,x,H.out,Loc.refl _ _⟩
 · have hw : st.sync = (0,⟨laid st.sure st.loose,[],counted st.left⟩) := by unfold St.sync; rw [if_neg h0]
   have hf : faultOf st.left = 0 := by unfold faultOf; rw [if_neg h0]
   rw [hw]
   rw [hf] at KF
   have hc1 := h.cell1
   obtain ⟨aL,cL,rfl,_⟩ := slice_of h.loose
   clear hw hf h0 h hok
   have hzv := zv71
   have HZ0 := hide (w0_size 0)
   generalize w0 0 = Z0 at *
   go_enter Tryz.func54,Tryz.ntmps54
   go_wp2_with fail
   refine KF.out.mono ?_
   rintro e w1 ⟨rfl,hw1⟩
   obtain rfl := hw1.symm
   go_wp2_with fail
   clear hc1
   go_loopw [16] (fun i wr => ∃ k : Nat,k <= st.loose.length /\ i = .int .i64 (k : Int) /\ PAt wr p vS (.slice aL st.loose.length cL) x ⟨laid st.sure (st.loose.take k),st.loose,st.left⟩ /\ Loc (DF p vS (.slice aL st.loose.length cL)) (DF p vS (.slice aL st.loose.length cL)) w wr) (fun i _ => st.loose.length - (intOf i).toNat)
   case atStart => exact ⟨0,Nat.zero_le _,rfl,H.out,Loc.refl _ _⟩
   case round =>
     obtain ⟨k,hk,rfl,hR,hLoc⟩ := hrel
     have HR := hide hR
     have HL := hide hLoc
     clear hLoc
     by_cases hlt : k < st.loose.length
     · obtain ⟨gL,rfl,hxL⟩ := row_cell hR.loose (by show 0 < st.loose.length; omega)
       clear hxL
       have hsz : ∀ w ∈ st.loose,w.2.size = 256 := fun w hw => (HOk.out.there w hw).2
       have HRg := hide (hR.write rfl hsz k hlt)
       have hth := HOk.out.there _ (List.getElem_mem hlt)
       have hWs : (wc st.loose[k]).length = 257 := wc_length _ hth.2
       have HWl : Hid ((Tryz.prog.info? 96).map (·.size) = some (wc st.loose[k]).length) := by unfold Hid; rw [hWs]; exact size71
       have HWs := hide (wcs st.loose[k] hth.2)
       have HWo := hide (wcone st.loose[k])
       have hU : Below wr.heap.size wr (wr.alloc (.cells (wc st.loose[k]).toArray 96)) := (Below.refl _ _).alloc (Nat.le_refl _) _
       have hll : (laid st.sure (st.loose.take k)).length = st.sure.length := laid_length _ _
       have hfull : ∀ s ∈ laid st.sure (st.loose.take k),s.size = 256 := laid_full _ _ HOk.out.full (fun y hy => hsz y (List.mem_of_mem_take hy))
       have HNext : Hid (laid st.sure (st.loose.take (k + 1)) = (laid st.sure (st.loose.take k)).set st.loose[k].1 (torn ((laid st.sure (st.loose.take k)).getD st.loose[k].1 noText) st.loose[k].2 256)) := by
         unfold Hid
         rw [torn_256 (getD_size hfull _ (by omega)) hth.2]
         exact laid_take _ _ _ hlt
       have KS := hide (pSettle p vS (.slice (some ⟨gL,0,none⟩) st.loose.length cL) x ⟨laid st.sure (st.loose.take k),st.loose,st.left⟩ st.loose[k].1 st.loose[k].2 256 _ (hR.below hU) hfull (by show (laid _ _).length <= _; rw [hll]; exact HOk.out.few) (by show _ < (laid _ _).length; rw [hll]; exact hth.1) hth.2 (by decide))
       have L1 : Hid (Loc (DF p vS (.slice (some ⟨gL,0,none⟩) st.loose.length cL)) (DF p vS (.slice (some ⟨gL,0,none⟩) st.loose.length cL)) w (wr.alloc (.cells (wc st.loose[k]).toArray 96))) := HL.out.trans (Loc.of_below _ hU)
       have HA1 := hide (heap_alloc_last wr (.cells Z0 96))
       have HA2 := hide (World.setRow_alloc_new wr Z0 (wc st.loose[k]).toArray 96)
       have HG := hide (heap_alloc_last wr (.cells (wc st.loose[k]).toArray 96))
       clear hR hsz hth hWs hU hll hfull
       generalize hY : st.loose[k] = Y at *
       clear hY
       have hkz : (k : Int) < (st.loose.length : Int) := by omega
       go_upto_region 7 with (first
         | (with_reducible refine wpList_load_mid (by with_unfolding_all rfl) 96 (.tmp 18) (by with_unfolding_all rfl) gL (k * 257) (by with_unfolding_all rfl) (wc Y) _ HRg.out Tryz.underlying96 (by with_unfolding_all rfl) HWl.out ?_)
         | (with_reducible refine wpList_store_row (by with_unfolding_all rfl) 96 (.tmp 5) (.tmp 19) (by with_unfolding_all rfl) wr.heap.size (wc Y).toArray (by with_unfolding_all rfl) (by with_unfolding_all rfl) 96 Z0 HA1.out (by rw [HWs.out]; exact size71) (by rw [HWs.out,HZ0.out]) HWo.out ?_))
       rw [HA2.out]
       clear HA1 HA2 HRg HL HR
       generalize wr.alloc (.cells (wc Y).toArray 96) = U at *
       generalize wr.heap.size = g at *
       generalize hV : (wc (Y.1,Y.2)).toArray = V at *
       have hV2 : (wc Y).toArray = V := hV
       rw [hV2] at *
       clear hV hV2
       go_wp2_with (with_reducible refine wpList_load_row (by with_unfolding_all rfl) 96 (.tmp 5) (by with_unfolding_all rfl) g (by with_unfolding_all rfl) 96 V (0,0) _ HG.out Tryz.underlying96 (by with_unfolding_all rfl) (by rw [HWs.out]; exact size71) ?_)
       refine KS.out.mono ?_
       rintro e w2 ⟨⟨v2,rfl⟩,h2,l2⟩
       have HE := hide (And.intro h2 (L1.out.trans l2))
       clear h2 l2
       go_wp2
       go_roundw
       case rel => exact ⟨k + 1,hlt,by go_num,by rw [HNext.out]; exact HE.out.1,HE.out.2⟩
       case measure => simp [intOf]; omega
     · have hke : k = st.loose.length := by omega
       subst hke
       rw [List.take_length] at hR HR
       have hf1 := hR.free 1
       have hc1 := hR.cell1
       clear hR
       have HN := hide HR.out.nothing
       go_wp2_with fail
       refine (pBurn p vS _ x _ _ HN.out.1).mono ?_
       rintro e w4 ⟨⟨v4,rfl⟩,⟨y4,h4⟩,l4⟩
       have HE := hide (And.intro h4 ((HL.out.trans HN.out.2).trans l4))
       clear h4 l4
       go_wp2
       go_ret
       exact ⟨rfl,_,y4,HE.out.1,HE.out.2⟩
theorem crashed_append (picks : List Int) : ∀ (l1 l2 : List (Nat × ByteArray)) (i : Nat) (s : List ByteArray),crashed s picks i (l1 ++ l2) = crashed (crashed s picks i l1) picks (i + l1.length) l2
 | [],_,_,_ => rfl
 | w :: l1,l2,i,s => by
   show crashed (s.set w.1 _) picks (i + 1) (l1 ++ l2) = _
   rw [crashed_append picks l1 l2,List.length_cons,show i + 1 + l1.length = i + (l1.length + 1) from by omega]
   rfl
theorem crashed_beyond (picks : List Int) : ∀ (l : List (Nat × ByteArray)) (i : Nat) (s : List ByteArray),picks.length <= i -> (∀ t ∈ s,t.size = 256) -> (∀ w ∈ l,w.1 < s.length /\ w.2.size = 256) -> crashed s picks i l = s
 | [],_,_,_,_,_ => rfl
 | w :: l,i,s,hi,h,hl => by
   have hw := hl w (by simp)
   have ho := getD_size h w.1 hw.1
   unfold crashed
   have e : s.set w.1 (torn (s.getD w.1 noText) w.2 (picks.getD i 0)) = s := by
     have e1 : torn (s.getD w.1 noText) w.2 (picks.getD i 0) = s.getD w.1 noText := by
       rw [List.getD_eq_getElem?_getD (l := picks),List.getElem?_eq_none hi]
       show torn (s.getD w.1 noText) w.2 0 = _
       unfold torn
       show w.2.extract 0 0 ++ (s.getD w.1 noText).extract 0 _ = _
       apply ByteArray.ext
       rw [ByteArray.data_append,ByteArray.data_extract,ByteArray.data_extract]
       simp
     rw [e1,List.getD_eq_getElem?_getD,List.getElem?_eq_getElem hw.1,Option.getD_some,List.set_getElem_self]
   rw [e]
   exact crashed_beyond picks l (i + 1) s (by omega) h (fun x hx => hl x (List.mem_cons_of_mem _ hx))
theorem crashed_min (picks : List Int) (l : List (Nat × ByteArray)) (s : List ByteArray) (h : ∀ t ∈ s,t.size = 256) (hl : ∀ w ∈ l,w.1 < s.length /\ w.2.size = 256) (m : Nat) (hm : m = l.length \/ (m = picks.length /\ m <= l.length)) : crashed s picks 0 (l.take m) = crashed s picks 0 l := by
 rcases hm with h1 | ⟨h1,h2⟩
 · rw [h1,List.take_length]
 · have e := crashed_append picks (l.take m) (l.drop m) 0 s
   rw [List.take_append_drop,List.length_take,Nat.zero_add,Nat.min_eq_left h2] at e
   rw [e,crashed_beyond picks (l.drop m) m _ (by omega) (crashed_full picks _ _ _ h (fun x hx => hl x (List.mem_of_mem_take hx))) (fun x hx => by rw [crashed_length]; exact hl x (List.mem_of_mem_drop hx))]
set_option maxRecDepth 10000 in
set_option maxHeartbeats 2000000 in
theorem pCrash (p : Nat) (vS vL : Value) (x : Int) (st : St) (aP : Option Addr) (cP : Nat) (picks : List Int) (w : World) (h : PAt w p vS vL x st) (hok : st.Ok) (hl : st.loose.length <= 10000) (hP : IntsAt w aP picks) (hap : Apart aP picks (DF p vS vL)) (hpl : picks.length <= 140737488351232) (hpi : ∀ y ∈ picks, -9223372036854775808 <= y /\ y <= 9223372036854775807) :
   Calls Tryz.prog 26 #[.pointer (some ⟨p,0,none⟩),.slice aP picks.length cP] w fun e w' => e = .returned (.int .i64 0) /\ ∃ vL' y,PAt w' p vS vL' y (st.crash picks) /\ Loc (DF p vS vL) (DF p vS vL') w w' := by
 have KZ := hide (pSize p vS vL x st w h)
 have h1 := hok.some
 have hz : ¬ ((st.sure.length : Int) = 0) := by omega
 have H := hide h
 have HOk := hide hok
 have HP := hide hP
 have HAp := hide hap
 have HPi := hide hpi
 have hc1 := h.cell1
 obtain ⟨aL,cL,rfl,hcL⟩ := slice_of h.loose
 have hzb : ((st.sure.length : Int) == 0) = false := by simpa using hz
 clear hz
 have hzv := zv71
 have HZ0 := hide (w0_size 0)
 generalize w0 0 = Z0 at *
 clear h hok hP hap hpi h1
 by_cases hem : st.loose.length <= picks.length
 · have hez : ((st.loose.length : Int) <= (picks.length : Int)) := by omega
   have hcz : ((st.loose.length : Int) <= (cL : Int)) := by omega
   go_enter Tryz.func26,Tryz.ntmps26
   go_wp2_with fail
   refine KZ.out.mono ?_
   rintro e w1 ⟨rfl,hw1⟩
   obtain rfl := hw1.symm
   go_wp2_with fail
   go_region
   all_goals
     clear hc1
     have HPd := hide H.out.drew
     go_wp2_with fail
     go_loopw [24] (fun i wr => ∃ k : Nat,k <= st.loose.length /\ i = .int .i64 (k : Int) /\ PAt wr p vS (.slice aL st.loose.length cL) x ⟨crashed st.sure picks 0 (st.loose.take k),st.loose,st.left⟩ /\ Loc (DF p vS (.slice aL st.loose.length cL)) (DF p vS (.slice aL st.loose.length cL)) w wr) (fun i _ => st.loose.length - (intOf i).toNat)
     case atStart => exact ⟨0,Nat.zero_le _,rfl,HPd.out,(Loc.refl _ _).drew⟩
     case round =>
       obtain ⟨k,hk,rfl,hR,hLoc⟩ := hrel
       have HR := hide hR
       have HL := hide hLoc
       clear hLoc
       by_cases hlt : k < st.loose.length
       · have hll0 : k < st.loose.length := by omega
         have hpp0 : k < picks.length := by omega
         obtain ⟨gL,rfl,hxL⟩ := row_cell hR.loose (by show 0 < st.loose.length; omega)
         clear hxL
         have hsz : ∀ w ∈ st.loose,w.2.size = 256 := fun w hw => (HOk.out.there w hw).2
         have HRg := hide (hR.write rfl hsz k hll0)
         have hth := HOk.out.there _ (List.getElem_mem hll0)
         have hWs : (wc st.loose[k]).length = 257 := wc_length _ hth.2
         have HWl : Hid ((Tryz.prog.info? 96).map (·.size) = some (wc st.loose[k]).length) := by unfold Hid; rw [hWs]; exact size71
         have HWs := hide (wcs st.loose[k] hth.2)
         have HWo := hide (wcone st.loose[k])
         have hU : Below wr.heap.size wr (wr.alloc (.cells (wc st.loose[k]).toArray 96)) := (Below.refl _ _).alloc (Nat.le_refl _) _
         have hcl : (crashed st.sure picks 0 (st.loose.take k)).length = st.sure.length := crashed_length _ _ _ _
         have hfull : ∀ s ∈ crashed st.sure picks 0 (st.loose.take k),s.size = 256 := crashed_full picks _ _ _ HOk.out.full (fun y hy => HOk.out.there y (List.mem_of_mem_take hy))
         have hpk : picks.getD k 0 = picks[k] := by rw [List.getD_eq_getElem?_getD,List.getElem?_eq_getElem hpp0,Option.getD_some]
         have HNext := hide (crashed_take picks st.loose st.sure k hll0)
         rw [hpk] at HNext
         have KS := hide (pSettle p vS (.slice (some ⟨gL,0,none⟩) st.loose.length cL) x ⟨crashed st.sure picks 0 (st.loose.take k),st.loose,st.left⟩ st.loose[k].1 st.loose[k].2 picks[k] _ (hR.below hU).drew hfull (by show (crashed _ _ _ _).length <= _; rw [hcl]; exact HOk.out.few) (by show _ < (crashed _ _ _ _).length; rw [hcl]; exact hth.1) hth.2 (HPi.out _ (List.getElem_mem hpp0)))
         have L1 : Hid (Loc (DF p vS (.slice (some ⟨gL,0,none⟩) st.loose.length cL)) (DF p vS (.slice (some ⟨gL,0,none⟩) st.loose.length cL)) w (wr.alloc (.cells (wc st.loose[k]).toArray 96)).drew) := (HL.out.trans (Loc.of_below _ hU)).drew
         have HA1 := hide (heap_alloc_last wr (.cells Z0 96))
         have HA2 := hide (World.setRow_alloc_new wr Z0 (wc st.loose[k]).toArray 96)
         have HG : Hid ((wr.alloc (.cells (wc st.loose[k]).toArray 96)).drew.heap[wr.heap.size]? = some (.cells (wc st.loose[k]).toArray 96 (0,0))) := heap_alloc_last wr (.cells (wc st.loose[k]).toArray 96)
         obtain ⟨bP,oP,rfl,hcP⟩ : ∃ b off,aP = some ⟨b,off,none⟩ /\ ∀ j (hj : j < picks.length),(wr.alloc (.cells (wc st.loose[k]).toArray 96)).cell? ⟨b,off + j,none⟩ = some (.int .i64 picks[j]) := by
           rcases (HP.out.loc HL.out HAp.out) with h1 | ⟨b,off,h1,h2⟩
           · rw [h1] at hpp0; exact absurd hpp0 (by simp)
           · exact ⟨b,off,h1,fun j hj => (hU.cell (p := ⟨b,off + j,none⟩) (World.block_lt_of_cell? _ _ (h2 j hj))).trans (h2 j hj)⟩
         have e5 := hcP k hpp0
         clear hR hsz hth hWs hU hcl hfull hcP hpk
         generalize hY : st.loose[k] = Y at *
         clear hY
         generalize picks[k] = y at *
         have hkz : (k : Int) < (st.loose.length : Int) := by omega
         have hkp : (k : Int) < (picks.length : Int) := by omega
         go_upto_region 6 with (first
           | (with_reducible refine wpList_load_mid (by with_unfolding_all rfl) 96 (.tmp 27) (by with_unfolding_all rfl) gL (k * 257) (by with_unfolding_all rfl) (wc Y) _ HRg.out Tryz.underlying96 (by with_unfolding_all rfl) HWl.out ?_)
           | (with_reducible refine wpList_store_row (by with_unfolding_all rfl) 96 (.tmp 6) (.tmp 28) (by with_unfolding_all rfl) wr.heap.size (wc Y).toArray (by with_unfolding_all rfl) (by with_unfolding_all rfl) 96 Z0 HA1.out (by rw [HWs.out]; exact size71) (by rw [HWs.out,HZ0.out]) HWo.out ?_))
         rw [HA2.out]
         simp only [Act.put]
         clear HA1 HA2 HRg HL HR HWl
         generalize wr.alloc (.cells (wc Y).toArray 96) = U at *
         generalize wr.heap.size = g at *
         generalize hV : (wc (Y.1,Y.2)).toArray = V at *
         have hV2 : (wc Y).toArray = V := hV
         rw [hV2] at *
         clear hV hV2
         refine wp_region_any (by kernel_rfl) ?_
         change wpAny _ _ _ _ _ _ _ (World.drew _)
         refine takeW 0 29 (v := ?v0_1) rfl rfl (by kernel_rfl) (by kernel_rfl) (by kernel_rfl) (fun _ _ _ h => h) (Or.inl ⟨by rfl,?hy0_1⟩) ?_
         case hy0_1 => (intro w; go_simp; first | done | with_reducible rfl)
         simp only [List.setIfInBounds_toArray,List.set_cons_succ,List.set_cons_zero]
         refine takeW 2 31 (v := ?v2_2) rfl rfl (by kernel_rfl) (by kernel_rfl) (by kernel_rfl) (fun _ _ _ h => h) (Or.inl ⟨by rfl,?hy2_2⟩) ?_
         case hy2_2 => (intro w; go_simp; first | done | with_reducible rfl)
         simp only [List.setIfInBounds_toArray,List.set_cons_succ,List.set_cons_zero]
         refine takeW 3 32 (v := ?v3_3) rfl rfl (by kernel_rfl) (by kernel_rfl) (by kernel_rfl) (fun _ _ _ h => h) (Or.inl ⟨by rfl,?hy3_3⟩) ?_
         case hy3_3 => (intro w; go_simp; first | done | with_reducible rfl)
         simp only [List.setIfInBounds_toArray,List.set_cons_succ,List.set_cons_zero]
         refine takeW 4 33 (v := ?v4_4) rfl rfl (by kernel_rfl) (by kernel_rfl) (by kernel_rfl) (fun _ _ _ h => h) (Or.inl ⟨by rfl,?hy4_4⟩) ?_
         case hy4_4 => (intro w; go_simp; first | done | with_reducible rfl)
         simp only [List.setIfInBounds_toArray,List.set_cons_succ,List.set_cons_zero]
         refine wpAny_ready (rs := [1,5]) (by kernel_rfl) (by simp) ?_
         refine AllReady.cons rfl (fun K hK => ?_) (AllReady.cons rfl (fun K hK => ?_) AllReady.nil)
         · refine step_of_wp rfl (wp_load_row 96 (.tmp 6) rfl g rfl 96 V (0,0) _ HG.out Tryz.underlying96 rfl (by rw [HWs.out]; exact size71) ?_)
           refine K_put (K := K) 30 rfl ?_
           refine hK _ _ ?_
           clear hK K
           simp only [List.setIfInBounds_toArray,List.set_cons_succ,List.set_cons_zero]
           refine wpAny_ready (rs := [5]) (by kernel_rfl) (by simp) ?_
           refine AllReady.cons rfl (fun K hK => ?_) AllReady.nil
           go_simp
           refine hK _ _ ?_
           clear hK K
           refine wpAny_ready (rs := [6]) (by kernel_rfl) (by simp) ?_
           refine AllReady.cons rfl (fun K hK => ?_) AllReady.nil
           go_simp
           refine KS.out.mono ?_
           rintro e w2 ⟨⟨v2,rfl⟩,h2,l2⟩
           have HE := hide (And.intro h2 (L1.out.trans l2))
           clear h2 l2
           go_wp2_with fail
           refine wpAny_done (by kernel_rfl) ?_ _
           go_wp2
           go_roundw
           case rel => exact ⟨k + 1,hlt,by go_num,by rw [HNext.out]; exact HE.out.1,HE.out.2⟩
           case measure => simp [intOf]; omega
         · go_simp
           refine hK _ _ ?_
           clear hK K
           refine wpAny_ready (rs := [1]) (by kernel_rfl) (by simp) ?_
           refine AllReady.cons rfl (fun K hK => ?_) AllReady.nil
           refine step_of_wp rfl (wp_load_row 96 (.tmp 6) rfl g rfl 96 V (0,0) _ HG.out Tryz.underlying96 rfl (by rw [HWs.out]; exact size71) ?_)
           refine K_put (K := K) 30 rfl ?_
           refine hK _ _ ?_
           clear hK K
           simp only [List.setIfInBounds_toArray,List.set_cons_succ,List.set_cons_zero]
           refine wpAny_ready (rs := [6]) (by kernel_rfl) (by simp) ?_
           refine AllReady.cons rfl (fun K hK => ?_) AllReady.nil
           go_simp
           refine KS.out.mono ?_
           rintro e w2 ⟨⟨v2,rfl⟩,h2,l2⟩
           have HE := hide (And.intro h2 (L1.out.trans l2))
           clear h2 l2
           go_wp2_with fail
           refine wpAny_done (by kernel_rfl) ?_ _
           go_wp2
           go_roundw
           case rel => exact ⟨k + 1,hlt,by go_num,by rw [HNext.out]; exact HE.out.1,HE.out.2⟩
           case measure => simp [intOf]; omega
       · have hke : k = st.loose.length := by omega
         subst hke
         have hR2 := HR.out
         rw [crashed_min picks st.loose st.sure HOk.out.full HOk.out.there _ (Or.inl rfl)] at hR2
         have HR2 := hide hR2
         have hf1 := hR2.free 1
         have hc1 := hR2.cell1
         have hf2 := hR2.free 2
         have hc2 := hR2.cell2
         clear hR hR2
         have h1 := hide HR2.out.nothing
         have HE := hide (h1.out.1.setLeft (-1) (by decide))
         have HLE := hide ((HL.out.trans h1.out.2).trans (Loc.setCell _ ⟨p,2,none⟩ (.int .i64 (-1)) (Or.inl rfl)))
         go_wp2
         go_ret
         exact ⟨rfl,_,⟨_,HE.out⟩,HLE.out⟩
 · have hez : ¬ ((st.loose.length : Int) <= (picks.length : Int)) := by omega
   have hcz : ((picks.length : Int) <= (cL : Int)) := by omega
   go_enter Tryz.func26,Tryz.ntmps26
   go_wp2_with fail
   refine KZ.out.mono ?_
   rintro e w1 ⟨rfl,hw1⟩
   obtain rfl := hw1.symm
   go_wp2_with fail
   go_region
   all_goals
     clear hc1
     have HPd := hide H.out.drew
     go_wp2_with fail
     go_loopw [24] (fun i wr => ∃ k : Nat,k <= picks.length /\ i = .int .i64 (k : Int) /\ PAt wr p vS (.slice aL st.loose.length cL) x ⟨crashed st.sure picks 0 (st.loose.take k),st.loose,st.left⟩ /\ Loc (DF p vS (.slice aL st.loose.length cL)) (DF p vS (.slice aL st.loose.length cL)) w wr) (fun i _ => picks.length - (intOf i).toNat)
     case atStart => exact ⟨0,Nat.zero_le _,rfl,HPd.out,(Loc.refl _ _).drew⟩
     case round =>
       obtain ⟨k,hk,rfl,hR,hLoc⟩ := hrel
       have HR := hide hR
       have HL := hide hLoc
       clear hLoc
       by_cases hlt : k < picks.length
       · have hll0 : k < st.loose.length := by omega
         have hpp0 : k < picks.length := by omega
         obtain ⟨gL,rfl,hxL⟩ := row_cell hR.loose (by show 0 < st.loose.length; omega)
         clear hxL
         have hsz : ∀ w ∈ st.loose,w.2.size = 256 := fun w hw => (HOk.out.there w hw).2
         have HRg := hide (hR.write rfl hsz k hll0)
         have hth := HOk.out.there _ (List.getElem_mem hll0)
         have hWs : (wc st.loose[k]).length = 257 := wc_length _ hth.2
         have HWl : Hid ((Tryz.prog.info? 96).map (·.size) = some (wc st.loose[k]).length) := by unfold Hid; rw [hWs]; exact size71
         have HWs := hide (wcs st.loose[k] hth.2)
         have HWo := hide (wcone st.loose[k])
         have hU : Below wr.heap.size wr (wr.alloc (.cells (wc st.loose[k]).toArray 96)) := (Below.refl _ _).alloc (Nat.le_refl _) _
         have hcl : (crashed st.sure picks 0 (st.loose.take k)).length = st.sure.length := crashed_length _ _ _ _
         have hfull : ∀ s ∈ crashed st.sure picks 0 (st.loose.take k),s.size = 256 := crashed_full picks _ _ _ HOk.out.full (fun y hy => HOk.out.there y (List.mem_of_mem_take hy))
         have hpk : picks.getD k 0 = picks[k] := by rw [List.getD_eq_getElem?_getD,List.getElem?_eq_getElem hpp0,Option.getD_some]
         have HNext := hide (crashed_take picks st.loose st.sure k hll0)
         rw [hpk] at HNext
         have KS := hide (pSettle p vS (.slice (some ⟨gL,0,none⟩) st.loose.length cL) x ⟨crashed st.sure picks 0 (st.loose.take k),st.loose,st.left⟩ st.loose[k].1 st.loose[k].2 picks[k] _ (hR.below hU).drew hfull (by show (crashed _ _ _ _).length <= _; rw [hcl]; exact HOk.out.few) (by show _ < (crashed _ _ _ _).length; rw [hcl]; exact hth.1) hth.2 (HPi.out _ (List.getElem_mem hpp0)))
         have L1 : Hid (Loc (DF p vS (.slice (some ⟨gL,0,none⟩) st.loose.length cL)) (DF p vS (.slice (some ⟨gL,0,none⟩) st.loose.length cL)) w (wr.alloc (.cells (wc st.loose[k]).toArray 96)).drew) := (HL.out.trans (Loc.of_below _ hU)).drew
         have HA1 := hide (heap_alloc_last wr (.cells Z0 96))
         have HA2 := hide (World.setRow_alloc_new wr Z0 (wc st.loose[k]).toArray 96)
         have HG : Hid ((wr.alloc (.cells (wc st.loose[k]).toArray 96)).drew.heap[wr.heap.size]? = some (.cells (wc st.loose[k]).toArray 96 (0,0))) := heap_alloc_last wr (.cells (wc st.loose[k]).toArray 96)
         obtain ⟨bP,oP,rfl,hcP⟩ : ∃ b off,aP = some ⟨b,off,none⟩ /\ ∀ j (hj : j < picks.length),(wr.alloc (.cells (wc st.loose[k]).toArray 96)).cell? ⟨b,off + j,none⟩ = some (.int .i64 picks[j]) := by
           rcases (HP.out.loc HL.out HAp.out) with h1 | ⟨b,off,h1,h2⟩
           · rw [h1] at hpp0; exact absurd hpp0 (by simp)
           · exact ⟨b,off,h1,fun j hj => (hU.cell (p := ⟨b,off + j,none⟩) (World.block_lt_of_cell? _ _ (h2 j hj))).trans (h2 j hj)⟩
         have e5 := hcP k hpp0
         clear hR hsz hth hWs hU hcl hfull hcP hpk
         generalize hY : st.loose[k] = Y at *
         clear hY
         generalize picks[k] = y at *
         have hkz : (k : Int) < (picks.length : Int) := by omega
         have hkp : (k : Int) < (picks.length : Int) := by omega
         go_upto_region 6 with (first
           | (with_reducible refine wpList_load_mid (by with_unfolding_all rfl) 96 (.tmp 27) (by with_unfolding_all rfl) gL (k * 257) (by with_unfolding_all rfl) (wc Y) _ HRg.out Tryz.underlying96 (by with_unfolding_all rfl) HWl.out ?_)
           | (with_reducible refine wpList_store_row (by with_unfolding_all rfl) 96 (.tmp 6) (.tmp 28) (by with_unfolding_all rfl) wr.heap.size (wc Y).toArray (by with_unfolding_all rfl) (by with_unfolding_all rfl) 96 Z0 HA1.out (by rw [HWs.out]; exact size71) (by rw [HWs.out,HZ0.out]) HWo.out ?_))
         rw [HA2.out]
         simp only [Act.put]
         clear HA1 HA2 HRg HL HR HWl
         generalize wr.alloc (.cells (wc Y).toArray 96) = U at *
         generalize wr.heap.size = g at *
         generalize hV : (wc (Y.1,Y.2)).toArray = V at *
         have hV2 : (wc Y).toArray = V := hV
         rw [hV2] at *
         clear hV hV2
         refine wp_region_any (by kernel_rfl) ?_
         change wpAny _ _ _ _ _ _ _ (World.drew _)
         refine takeW 0 29 (v := ?v0_5) rfl rfl (by kernel_rfl) (by kernel_rfl) (by kernel_rfl) (fun _ _ _ h => h) (Or.inl ⟨by rfl,?hy0_5⟩) ?_
         case hy0_5 => (intro w; go_simp; first | done | with_reducible rfl)
         simp only [List.setIfInBounds_toArray,List.set_cons_succ,List.set_cons_zero]
         refine takeW 2 31 (v := ?v2_6) rfl rfl (by kernel_rfl) (by kernel_rfl) (by kernel_rfl) (fun _ _ _ h => h) (Or.inl ⟨by rfl,?hy2_6⟩) ?_
         case hy2_6 => (intro w; go_simp; first | done | with_reducible rfl)
         simp only [List.setIfInBounds_toArray,List.set_cons_succ,List.set_cons_zero]
         refine takeW 3 32 (v := ?v3_7) rfl rfl (by kernel_rfl) (by kernel_rfl) (by kernel_rfl) (fun _ _ _ h => h) (Or.inl ⟨by rfl,?hy3_7⟩) ?_
         case hy3_7 => (intro w; go_simp; first | done | with_reducible rfl)
         simp only [List.setIfInBounds_toArray,List.set_cons_succ,List.set_cons_zero]
         refine takeW 4 33 (v := ?v4_8) rfl rfl (by kernel_rfl) (by kernel_rfl) (by kernel_rfl) (fun _ _ _ h => h) (Or.inl ⟨by rfl,?hy4_8⟩) ?_
         case hy4_8 => (intro w; go_simp; first | done | with_reducible rfl)
         simp only [List.setIfInBounds_toArray,List.set_cons_succ,List.set_cons_zero]
         refine wpAny_ready (rs := [1,5]) (by kernel_rfl) (by simp) ?_
         refine AllReady.cons rfl (fun K hK => ?_) (AllReady.cons rfl (fun K hK => ?_) AllReady.nil)
         · refine step_of_wp rfl (wp_load_row 96 (.tmp 6) rfl g rfl 96 V (0,0) _ HG.out Tryz.underlying96 rfl (by rw [HWs.out]; exact size71) ?_)
           refine K_put (K := K) 30 rfl ?_
           refine hK _ _ ?_
           clear hK K
           simp only [List.setIfInBounds_toArray,List.set_cons_succ,List.set_cons_zero]
           refine wpAny_ready (rs := [5]) (by kernel_rfl) (by simp) ?_
           refine AllReady.cons rfl (fun K hK => ?_) AllReady.nil
           go_simp
           refine hK _ _ ?_
           clear hK K
           refine wpAny_ready (rs := [6]) (by kernel_rfl) (by simp) ?_
           refine AllReady.cons rfl (fun K hK => ?_) AllReady.nil
           go_simp
           refine KS.out.mono ?_
           rintro e w2 ⟨⟨v2,rfl⟩,h2,l2⟩
           have HE := hide (And.intro h2 (L1.out.trans l2))
           clear h2 l2
           go_wp2_with fail
           refine wpAny_done (by kernel_rfl) ?_ _
           go_wp2
           go_roundw
           case rel => exact ⟨k + 1,hlt,by go_num,by rw [HNext.out]; exact HE.out.1,HE.out.2⟩
           case measure => simp [intOf]; omega
         · go_simp
           refine hK _ _ ?_
           clear hK K
           refine wpAny_ready (rs := [1]) (by kernel_rfl) (by simp) ?_
           refine AllReady.cons rfl (fun K hK => ?_) AllReady.nil
           refine step_of_wp rfl (wp_load_row 96 (.tmp 6) rfl g rfl 96 V (0,0) _ HG.out Tryz.underlying96 rfl (by rw [HWs.out]; exact size71) ?_)
           refine K_put (K := K) 30 rfl ?_
           refine hK _ _ ?_
           clear hK K
           simp only [List.setIfInBounds_toArray,List.set_cons_succ,List.set_cons_zero]
           refine wpAny_ready (rs := [6]) (by kernel_rfl) (by simp) ?_
           refine AllReady.cons rfl (fun K hK => ?_) AllReady.nil
           go_simp
           refine KS.out.mono ?_
           rintro e w2 ⟨⟨v2,rfl⟩,h2,l2⟩
           have HE := hide (And.intro h2 (L1.out.trans l2))
           clear h2 l2
           go_wp2_with fail
           refine wpAny_done (by kernel_rfl) ?_ _
           go_wp2
           go_roundw
           case rel => exact ⟨k + 1,hlt,by go_num,by rw [HNext.out]; exact HE.out.1,HE.out.2⟩
           case measure => simp [intOf]; omega
       · have hke : k = picks.length := by omega
         subst hke
         have hR2 := HR.out
         rw [crashed_min picks st.loose st.sure HOk.out.full HOk.out.there _ (Or.inr ⟨rfl,by omega⟩)] at hR2
         have HR2 := hide hR2
         have hf1 := hR2.free 1
         have hc1 := hR2.cell1
         have hf2 := hR2.free 2
         have hc2 := hR2.cell2
         clear hR hR2
         have h1 := hide HR2.out.nothing
         have HE := hide (h1.out.1.setLeft (-1) (by decide))
         have HLE := hide ((HL.out.trans h1.out.2).trans (Loc.setCell _ ⟨p,2,none⟩ (.int .i64 (-1)) (Or.inl rfl)))
         go_wp2
         go_ret
         exact ⟨rfl,_,⟨_,HE.out⟩,HLE.out⟩
end Go.Proofs.YtchhojkhfdkhfaaGreatDoor
