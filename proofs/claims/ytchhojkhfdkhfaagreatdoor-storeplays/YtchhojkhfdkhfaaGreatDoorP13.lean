/- Joined texts. -/
import Derived.Test.YtchhojkhfdkhfaaGreatDoorP12
import Derived.Deep.Cut
import Derived.WalkMore
namespace Go.Proofs.YtchhojkhfdkhfaaGreatDoor
open Go Go.RowKit
theorem zero69 : (Tryz.prog.info? 90).map (fun i => (i.zero,i.size)) = some (some (.agg (Array.replicate 256 (.int .u8 0))),256) := by kernel_rfl
def zrow1 : Array Value := Array.replicate 256 (.int .u8 0)
theorem zrow1_size : zrow1.size = 256 := Array.size_replicate
theorem zv69 (w : World) : (zeroValue 90).run Tryz.prog w = .ok (.agg zrow1) w := (zero_of_info zero69).1 w
theorem size69 : (Tryz.prog.info? 90).map (·.size) = some 256 := (zero_of_info zero69).2
theorem tsize (s : ByteArray) (h : s.size = 256) : (tc s).toArray.size = 256 := by rw [List.size_toArray,tc_length,h]
theorem tone (s : ByteArray) : (tc s).toArray.all (·.oneCell') = true := all_oneCell_toArray (tc_one s)
structure Looks (w u : World) (p : Nat) (vS vL : Value) (x : Int) (st : St) (r s : Nat) (T : ByteArray) : Prop where
 d : PAt u p vS vL x st
 res : u.heap[r]? = some (.cells zrow1 90 (0,0))
 now : u.heap[s]? = some (.cells (tc T).toArray 90 (0,0))
 below : Below w.heap.size w u
 hr : w.heap.size <= r
 hs : w.heap.size <= s
 ne : r ≠ s
theorem Looks.start {w : World} {p : Nat} {vS vL : Value} {x : Int} {st : St} (h : PAt w p vS vL x st) (T : ByteArray) : Looks w ((w.alloc (.cells zrow1 90)).alloc (.cells (tc T).toArray 90)) p vS vL x st w.heap.size (w.alloc (.cells zrow1 90)).heap.size T := by
 have hb : Below w.heap.size w ((w.alloc (.cells zrow1 90)).alloc (.cells (tc T).toArray 90)) := ((Below.refl _ _).alloc (Nat.le_refl _) _).alloc (by simp) _
 exact ⟨h.below hb,(Below.heap_alloc _ _ _ (by simp)).trans (heap_alloc_last w _),heap_alloc_last _ _,hb,Nat.le_refl _,by simp,by simp⟩
theorem Looks.set {w u : World} {p : Nat} {vS vL : Value} {x : Int} {st : St} {r s : Nat} {T : ByteArray} (h : Looks w u p vS vL x st r s T) (hp : ∀ k,DF p vS vL k -> k < w.heap.size) (T' : ByteArray) : Looks w (u.setRow s (tc T').toArray) p vS vL x st r s T' :=
 ⟨h.d.same (fun k hk => setRow_other u _ k _ (by have := hp k hk; have := h.hs; omega)),(setRow_other u _ _ _ h.ne).trans h.res,setRow_heap u _ _ _ _ _ h.now,
   ⟨h.below.os,h.below.tape,h.below.output,by rw [setRow_size]; exact h.below.size,fun k hk => (setRow_other u _ k _ (by have := h.hs; omega)).trans (h.below.block k hk)⟩,h.hr,h.hs,h.ne⟩
theorem Looks.out {w u : World} {p : Nat} {vS vL : Value} {x : Int} {st : St} {r s : Nat} {T : ByteArray} (h : Looks w u p vS vL x st r s T) : (u.setRow r (tc T).toArray).heap[r]? = some (.cells (tc T).toArray 90 (0,0)) /\ Below w.heap.size w (u.setRow r (tc T).toArray) :=
 ⟨setRow_heap u _ _ _ _ _ h.res,⟨h.below.os,h.below.tape,h.below.output,by rw [setRow_size]; exact h.below.size,fun k hk => (setRow_other u _ k _ (by have := h.hr; omega)).trans (h.below.block k hk)⟩⟩
theorem stands_size {s : List ByteArray} {b : Nat} (hs : ∀ t ∈ s,t.size = 256) (hb : b < s.length) : ∀ (l : List (Nat × ByteArray)),(∀ w ∈ l,w.2.size = 256) -> (stands s b l).size = 256
 | [],_ => getD_size hs b hb
 | w :: l,h => by
   unfold stands
   split
   · exact h w (by simp)
   · exact stands_size hs hb l (fun x hx => h x (List.mem_cons_of_mem _ hx))
set_option maxRecDepth 10000 in
set_option maxHeartbeats 1000000 in
theorem pStanding (p : Nat) (vS vL : Value) (x : Int) (st : St) (b : Nat) (w : World) (h : PAt w p vS vL x st) (hok : st.Ok) (hb : b < st.sure.length) (hl : st.loose.length <= 10000) :
   Calls Tryz.prog 134 #[.pointer (some ⟨p,0,none⟩),.int .i64 (b : Int)] w fun e w' => e = .returned (.agg (tc (stands st.sure b st.loose.reverse)).toArray) /\ Below w.heap.size w w' := by
 obtain ⟨aS,cS,rfl,_⟩ := slice_of h.sure
 obtain ⟨aL,cL,rfl,_⟩ := slice_of h.loose
 obtain ⟨gS,rfl,hxS⟩ := row_cell h.sure hok.some
 clear hxS
 have H := hide h
 have HOk := hide hok
 have hfew := hok.few
 have hz := zv69
 have hb1 : Below w.heap.size w (w.alloc (.cells zrow1 90)) := (Below.refl _ _).alloc (Nat.le_refl _) _
 have hW := h.below hb1
 have hc0 := hW.cell0
 have HB := hide (hW.block rfl hok.full b hb)
 have hT : (tc st.sure[b]).length = 256 := by rw [tc_length,hok.full _ (List.getElem_mem hb)]
 have HS69 : Hid ((Tryz.prog.info? 90).map (·.size) = some (tc st.sure[b]).length) := by unfold Hid; rw [hT]; exact size69
 have HLk := hide (Looks.start h st.sure[b])
 have HSt : Hid (st.sure.getD b noText = st.sure[b]) := by unfold Hid; rw [List.getD_eq_getElem?_getD,List.getElem?_eq_getElem hb,Option.getD_some]
 have HTs : Hid ((tc st.sure[b]).toArray.size = 256) := tsize _ (hok.full _ (List.getElem_mem hb))
 have HRs := hide (stands_size hok.full hb st.loose.reverse (fun w hw => (hok.there w (List.mem_reverse.1 hw)).2))
 clear h hok hW hb1 hT
 generalize hR : stands st.sure b st.loose.reverse = R at *
 have HR := hide hR
 clear hR
 go_enter Tryz.func134,Tryz.ntmps134
 go_upto_region 1 with fail
 go_step3
 go_upto_region 1 with fail
 have HA1 := hide (heap_alloc_last (w.alloc (.cells zrow1 90)) (.cells zrow1 90))
 have HA2 := hide (World.setRow_alloc_new (w.alloc (.cells zrow1 90)) zrow1 (tc st.sure[b]).toArray 90)
 have HZ1 := hide zrow1_size
 have HT1 := hide (tone st.sure[b])
 generalize hTT : st.sure[b] = T at *
 clear hTT
 generalize hZ : zrow1 = Z at *
 generalize w.alloc (.cells Z 90) = W at *
 apply wp_region_lit
 go_upto_region 2 with (first
   | (with_reducible refine wpList_load_mid (by with_unfolding_all rfl) 90 (.tmp 12) (by with_unfolding_all rfl) gS (b * 256) (by with_unfolding_all rfl) (tc T) _ HB.out Tryz.underlying90 (by with_unfolding_all rfl) HS69.out ?_)
   | (with_reducible refine wpList_store_row (by with_unfolding_all rfl) 90 (.tmp 5) (.tmp 13) (by with_unfolding_all rfl) W.heap.size (tc T).toArray (by with_unfolding_all rfl) (by with_unfolding_all rfl) 90 Z HA1.out (by rw [HTs.out]; exact size69) (by rw [HTs.out,HZ1.out]) HT1.out ?_))
 rw [HA2.out]
 clear HA1 HA2 hc0 HB HT1 HTs HS69
 generalize W.alloc (.cells (tc T).toArray 90) = U at *
 go_step3
 go_upto_region 2 with fail
 have hc1 := HLk.out.d.cell1
 generalize w.heap.size = r at *
 generalize W.heap.size = s at *
 subst hZ
 have HD0 : Hid (∀ k,DF p (.slice (some ⟨gS,0,none⟩) st.sure.length cS) (.slice aL st.loose.length cL) k -> k < w.heap.size) := H.out.lt
 have HTT : Hid ((tc T).toArray.size = 256) := by unfold Hid; rw [<- HSt.out]; exact tsize _ (getD_size HOk.out.full b hb)
 go_wp2_with fail
 go_loop [6] (fun i => ∃ k : Nat,k <= st.loose.length /\ i = .int .i64 ((k : Int) - 1) /\ stands st.sure b (st.loose.take k).reverse = R) (fun i => (intOf i + 1).toNat)
 case atStart => exact ⟨st.loose.length,Nat.le_refl _,rfl,by rw [List.take_length]; exact HR.out⟩
 case round =>
   obtain ⟨k,hk,rfl,hst⟩ := hrel
   have HS := hide hst
   clear hst
   cases k with
   | zero =>
     have hT : T = R := by rw [<- HSt.out]; exact HS.out
     subst hT
     have HO := hide HLk.out.out
     have HN := hide HLk.out.now
     have HRz := hide HLk.out.res
     have HT1 := hide (tone T)
     have HBS : Hid ((Tryz.prog.info? 90).map (·.size) = some (tc T).toArray.size) := by unfold Hid; rw [HTT.out]; exact size69
     go_wp2_with (first
       | (with_reducible refine wpList_load_row (by with_unfolding_all rfl) 90 (.tmp 5) (by with_unfolding_all rfl) s (by with_unfolding_all rfl) 90 (tc T).toArray (0,0) _ HN.out Tryz.underlying90 (by with_unfolding_all rfl) HBS.out ?_)
       | (with_reducible refine wpList_store_row (by with_unfolding_all rfl) 90 (.tmp 4) (.tmp 42) (by with_unfolding_all rfl) r (tc T).toArray (by with_unfolding_all rfl) (by with_unfolding_all rfl) 90 zrow1 HRz.out HBS.out (by rw [HTT.out,HZ1.out]) HT1.out ?_))
     exact bodyPost_ret (results_cell_row Tryz.results134 _ _ r 90 (tc T).toArray (0,0) _ rfl HO.out.1 Tryz.underlying90 rfl HBS.out) rfl ⟨rfl,HO.out.2⟩
   | succ k =>
     have hkl : k < st.loose.length := hk
     obtain ⟨gL,rfl,hxL⟩ := row_cell HLk.out.d.loose (by omega)
     clear hxL
     have hsz : ∀ w ∈ st.loose,w.2.size = 256 := fun w hw => (HOk.out.there w hw).2
     have hrg := HLk.out.d.write rfl hsz k hkl
     have e1 : U.cell? ⟨gL,k * 257,none⟩ = some (.int .i64 ((st.loose[k].1 : Nat) : Int)) := hrg 0 _ rfl
     have HRg : Hid (U.rangeAt gL (k * 257 + 1) (tc st.loose[k].2)) := fun j v hv => by
       have := hrg (j + 1) v hv
       rw [show k * 257 + 1 + j = k * 257 + (j + 1) from by omega]
       exact this
     have hs2 := HS.out
     rw [rev_take _ _ hkl] at hs2
     unfold stands at hs2
     have HS2 := hide hs2
     have HD2 : Hid (st.loose[k].2.size = 256) := hsz _ (List.getElem_mem hkl)
     have hki : (((k + 1 : Nat) : Int) - 1) = (k : Int) := by omega
     rw [hki]
     clear hs2 hrg hki HS hsz
     by_cases heq : st.loose[k].1 = b
     · have hs3 := HS2.out
       rw [if_pos heq] at hs3
       rw [heq] at e1
       clear HS2
       rw [hs3] at HRg HD2
       clear hs3
       have HTT : Hid ((tc R).toArray.size = 256) := tsize _ HRs.out
       have HLk2 := hide (HLk.out.set HD0.out R)
       have HO := hide HLk2.out.out
       have HN := hide HLk.out.now
       have HN2 := hide HLk2.out.now
       have HRz := hide HLk2.out.res
       have HT1 := hide (tone R)
       have HBS : Hid ((Tryz.prog.info? 90).map (·.size) = some (tc R).toArray.size) := by unfold Hid; rw [HTT.out]; exact size69
       have HBL : Hid ((Tryz.prog.info? 90).map (·.size) = some (tc R).length) := by unfold Hid; rw [tc_length,HRs.out]; exact size69
       have HTo : Hid ((tc T).toArray.size = (tc R).toArray.size) := by unfold Hid; rw [HTT.out]; rw [<- HSt.out]; exact tsize _ (getD_size HOk.out.full b hb)
       go_wp2_with (first
         | (with_reducible refine wpList_load_mid (by with_unfolding_all rfl) 90 (.tmp 40) (by with_unfolding_all rfl) gL (k * 257 + 1) (by with_unfolding_all rfl) (tc R) _ HRg.out Tryz.underlying90 (by with_unfolding_all rfl) HBL.out ?_)
         | (with_reducible refine wpList_store_row (by with_unfolding_all rfl) 90 (.tmp 5) (.tmp 41) (by with_unfolding_all rfl) s (tc R).toArray (by with_unfolding_all rfl) (by with_unfolding_all rfl) 90 _ HN.out HBS.out HTo.out HT1.out ?_)
         | (with_reducible refine wpList_load_row (by with_unfolding_all rfl) 90 (.tmp 5) (by with_unfolding_all rfl) s (by with_unfolding_all rfl) 90 (tc R).toArray (0,0) _ HN2.out Tryz.underlying90 (by with_unfolding_all rfl) HBS.out ?_)
         | (with_reducible refine wpList_store_row (by with_unfolding_all rfl) 90 (.tmp 4) (.tmp 42) (by with_unfolding_all rfl) r (tc R).toArray (by with_unfolding_all rfl) (by with_unfolding_all rfl) 90 zrow1 HRz.out HBS.out (by rw [HTT.out,HZ1.out]) HT1.out ?_))
       exact bodyPost_ret (results_cell_row Tryz.results134 _ _ r 90 (tc R).toArray (0,0) _ rfl HO.out.1 Tryz.underlying90 rfl HBS.out) rfl ⟨rfl,HO.out.2⟩
     · have hs3 := HS2.out
       rw [if_neg heq] at hs3
       have HS3 := hide hs3
       have hez : ¬ (((st.loose[k].1 : Nat) : Int) = (b : Int)) := by omega
       clear hs3 HS2
       generalize hq : st.loose[k].1 = y at *
       clear hq
       go_wp2
       go_round
       case rel => exact ⟨k,by omega,rfl,HS3.out⟩
       case measure => simp [intOf]
theorem text_of (T : ByteArray) (g : Nat) (u : World) (h : u.heap[g]? = some (.cells (tc T).toArray 90 (0,0))) (hT : T.size = 256) : (convert 77 9 (.slice (some ⟨g,0,none⟩) 256 256)).run Tryz.prog u = .ok (.string T) u := by
 have key := run_convert_bytes_back (P := Tryz.prog) u 77 9 5 ⟨g,0,none⟩ 256 T.data.toList Tryz.underlying77 Tryz.underlying5 Tryz.underlying9 (fun j hj => by
   rw [add_at,cell_of_row _ _ _ _ _ _ h]
   unfold tc Lib.byteCells
   rw [List.getElem?_toArray,List.getElem?_map,List.getElem?_eq_getElem hj]
   rfl)
 rw [show T.data.toList.length = 256 from by rw [<- Lib.size_eq]; exact hT] at key
 exact key
set_option maxRecDepth 10000 in
set_option maxHeartbeats 1000000 in
theorem pRead (p : Nat) (vS vL : Value) (x : Int) (st : St) (b : Int) (w : World) (h : PAt w p vS vL x st) (hok : st.Ok) (hl : st.loose.length <= 10000) :
   Calls Tryz.prog 112 #[.pointer (some ⟨p,0,none⟩),.int .i64 b] w fun e w' => e = .returned (.tuple #[.string (st.read b).1,.int .i64 (((st.read b).2 : Nat) : Int)]) /\ Below w.heap.size w w' := by
 have KF := hide (pFaultAt p vS vL x st b w h hok)
 have H := hide h
 have HOk := hide hok
 by_cases h0 : st.left = 0
 · have hw : st.read b = (noText,50) := by unfold St.read; rw [if_pos h0]
   have hf : faultAtOf st b = 50 := by unfold faultAtOf; rw [if_pos h0]
   rw [hw]
   rw [hf] at KF
   clear hw hf h0 h hok
   go_enter Tryz.func112,Tryz.ntmps112
   go_wp2_with fail
   refine KF.out.mono ?_
   rintro e w1 ⟨rfl,hw1⟩
   obtain rfl := hw1.symm
   go_wp2
   go_ret2
   exact ⟨rfl,Below.refl _ _⟩
 · by_cases h1 : 0 <= b /\ b < (st.sure.length : Int)
   · have hw : st.read b = (stands st.sure b.toNat st.loose.reverse,0) := by unfold St.read; rw [if_neg h0,if_neg (fun h => h h1)]
     have hf : faultAtOf st b = 0 := by unfold faultAtOf; rw [if_neg h0,if_neg (fun hh => hh h1)]
     rw [hw]
     rw [hf] at KF
     obtain ⟨m,hm⟩ : ∃ m : Nat,b = (m : Int) := ⟨b.toNat,by omega⟩
     subst hm
     have hms : m < st.sure.length := by omega
     have KS := hide (pStanding p vS vL x st m w h hok hms hl)
     have HRs := hide (stands_size hok.full hms st.loose.reverse (fun w hw => (hok.there w (List.mem_reverse.1 hw)).2))
     rw [show ((m : Int)).toNat = m from by omega]
     generalize stands st.sure m st.loose.reverse = T at *
     have hz := zv69
     have HZ1 := hide zrow1_size
     have HT1 := hide (tone T)
     have HTs : Hid ((tc T).toArray.size = 256) := tsize _ HRs.out
     clear hw hf h0 h1 h hok
     go_enter Tryz.func112,Tryz.ntmps112
     go_wp2_with fail
     refine KF.out.mono ?_
     rintro e w1 ⟨rfl,hw1⟩
     obtain rfl := hw1.symm
     go_wp2_with fail
     refine KS.out.mono ?_
     rintro e w2 ⟨rfl,hb2⟩
     have HB2 := hide hb2
     have HA1 := hide (heap_alloc_last w2 (.cells zrow1 90))
     have HA2 := hide (World.setRow_alloc_new w2 zrow1 (tc T).toArray 90)
     have HCv := hide (text_of T w2.heap.size _ (heap_alloc_last w2 (.cells (tc T).toArray 90)) HRs.out)
     have HBl := hide (bnext hb2 ((Below.refl _ _).alloc (Nat.le_refl _) (.cells (tc T).toArray 90)))
     clear hb2
     generalize zrow1 = Z at *
     go_upto_region 5 with (with_reducible refine wpList_store_row (by with_unfolding_all rfl) 90 (.tmp 7) (.tmp 16) (by with_unfolding_all rfl) w2.heap.size (tc T).toArray (by with_unfolding_all rfl) (by with_unfolding_all rfl) 90 Z HA1.out (by rw [HTs.out]; exact size69) (by rw [HTs.out,HZ1.out]) HT1.out ?_)
     rw [HA2.out]
     have hcv := HCv.out
     clear HA1 HA2 hz HCv
     generalize w2.alloc (.cells (tc T).toArray 90) = U at *
     generalize w2.heap.size = g at *
     go_wp2
     go_ret2
     exact ⟨rfl,HBl.out⟩
   · have hw : st.read b = (noText,5) := by unfold St.read; rw [if_neg h0,if_pos h1]
     have hf : faultAtOf st b = 5 := by unfold faultAtOf; rw [if_neg h0,if_pos h1]
     rw [hw]
     rw [hf] at KF
     clear hw hf h0 h1 h hok
     go_enter Tryz.func112,Tryz.ntmps112
     go_wp2_with fail
     refine KF.out.mono ?_
     rintro e w1 ⟨rfl,hw1⟩
     obtain rfl := hw1.symm
     go_wp2
     go_ret2
     exact ⟨rfl,Below.refl _ _⟩
end Go.Proofs.YtchhojkhfdkhfaaGreatDoor
