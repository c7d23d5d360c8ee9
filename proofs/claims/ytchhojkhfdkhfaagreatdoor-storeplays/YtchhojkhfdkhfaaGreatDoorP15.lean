/- Joined texts. -/
import Derived.Test.YtchhojkhfdkhfaaGreatDoorP13
import Derived.Shelf.Strings.Builder2
namespace Go.Proofs.YtchhojkhfdkhfaaGreatDoor
open Go Go.RowKit Go.Shelf

def bldRen : Ren := ⟨fun x => if x = 165 then 37 else if x = 169 then 39 else if x = 240 then 74 else if x = 241 then 75 else if x = 276 then 103 else if x = 277 then 104 else x,fun t => if t = 72 then 88 else if t = 70 then 86 else if t = 37 then 77 else if t = 164 then 159 else if t = 127 then 128 else t,fun g => g⟩
theorem lays165 : Lays.n165 Tryz.prog bldRen := by
 constructor <;> first | kernel_rfl | (intro w; kernel_rfl)
theorem lays169 : Lays.n169 Tryz.prog bldRen := by
 constructor <;> first | kernel_rfl | (intro w; kernel_rfl)
theorem lays240 : Lays.n240 Tryz.prog bldRen := by
 constructor <;> first | kernel_rfl | (intro w; kernel_rfl)
theorem bldX : Builder.Extra Tryz.prog bldRen := by
 constructor
 · constructor <;> kernel_rfl
 all_goals first | kernel_rfl | (intro w; kernel_rfl) | decide
theorem bGrow (b n : Nat) (w : World) (hbk : w.heap[b]? = some (.cells #[.pointer none,.slice none 0 0] 88 (0,0))) (hBw : b <= w.heap.size) (hn : n <= 281474976710656) :
   Calls Tryz.prog 37 #[.pointer (some ⟨b,0,none⟩),.int .i64 (n : Int)] w fun e w' => e = .returned (.tuple #[]) /\ (Lib.BuilderAt 88 5 b b (.pointer (some ⟨b,0,none⟩)) [] w' /\ Below b w w') := Any.Builder_Grow_fresh lays165 bldX b b n w (Nat.le_refl _) hbk hBw hn
theorem bString (b : Nat) (l : List UInt8) (w : World) (h : Lib.BuilderAt 88 5 b b (.pointer (some ⟨b,0,none⟩)) (Lib.byteCells l) w) (hBw : b <= w.heap.size) :
   Calls Tryz.prog 39 #[.pointer (some ⟨b,0,none⟩)] w fun e w' => e = .returned (.string ⟨l.toArray⟩) /\ Below b w w' := Any.Builder_String_any lays169 bldX b b l w (Or.inr h) hBw
theorem bCheck (b : Nat) (w : World) (h0 : w.cell? ⟨b,0,none⟩ = some (.pointer (some ⟨b,0,none⟩))) :
   Calls Tryz.prog 74 #[.pointer (some ⟨b,0,none⟩)] w fun e w' => e = .returned (.tuple #[]) /\ w' = w := Any.Builder_copyCheck_used lays240 bldX.toX72 b w h0
theorem news_of_block69 {w : World} {c : Nat} {T : ByteArray} (h : w.heap[c]? = some (.cells (tc T).toArray 90 (0,0))) : ∀ (j : Nat) (u : Value),(tc T)[j]? = some u -> w.cell? ((⟨c,0,none⟩ : Addr).add j) = some u := fun j u hj => by
 rw [add_at,cell_of_row _ _ _ _ _ _ h,List.getElem?_toArray]
 exact hj
set_option maxRecDepth 10000 in
set_option maxHeartbeats 1000000 in
theorem bWrite (b c : Nat) (bs : List Value) (T : ByteArray) (w : World) (h : Lib.BuilderAt 88 5 b b (.pointer (some ⟨b,0,none⟩)) bs w) (hc : w.heap[c]? = some (.cells (tc T).toArray 90 (0,0))) (hT : T.size = 256) (hlen : bs.length <= 100000000) (hBw : b <= w.heap.size) :
   Calls Tryz.prog 38 #[.pointer (some ⟨b,0,none⟩),.slice (some ⟨c,0,none⟩) 256 256] w fun e w' => (∃ v,e = .returned v) /\ Lib.BuilderAt 88 5 b b (.pointer (some ⟨b,0,none⟩)) (bs ++ tc T) w' /\ Below b w w' := by
 obtain ⟨i0,hi,hz0,hz1,hz2⟩ := info_parts info5
 have HI := hide (And.intro hi (And.intro hz0 (And.intro hz1 hz2)))
 have KC := hide (bCheck b w h.cell0)
 obtain ⟨_,v,hbk,hown,hne⟩ := h
 have c1 : w.cell? ⟨b,1,none⟩ = some v := by rw [Lib.cell_of_heap hbk]; rfl
 have HC := hide (news_of_block69 hc)
 have HL : Hid ((tc T).length = 256 * 1) := by unfold Hid; rw [tc_length,hT]
 have HOwn := hide hown
 have HBk := hide hbk
 have HNe := hide hne
 have HO := hide (tc_one T)
 have HBl : Hid (b < w.heap.size) := (Array.getElem?_eq_some_iff.1 hbk).1
 clear hi hz0 hz1 hz2 hbk hown hne hc hT
 go_enter Tryz.func38,Tryz.ntmps38
 go_wp2_with fail
 refine KC.out.mono ?_
 rintro e w1 ⟨rfl,hw1⟩
 obtain rfl := hw1.symm
 go_wp2_with (at_builtin; refine wpList_append_own _ rfl _ _ 77 rfl b 5 i0 (.int .u8 0) 1 1 Tryz.underlying77 HI.out.1 HI.out.2.1 HI.out.2.2.1 HI.out.2.2.2 rfl (by decide) _ _ _ rfl HOwn.out ⟨c,0,none⟩ 256 256 (tc T) rfl HL.out HC.out HO.out ?c3 ?c4 hBw ?_)
 case c3 => unfold maxLen; omega
 case c4 => omega
 · intro v1 w1 hown1 hgrow1 _
   have hb2 : w1.heap[b]? = some (.cells #[.pointer (some ⟨b,0,none⟩),v] 88 (0,0)) := (hgrow1.block b HBl.out (fun e => HNe.out e.symm)).trans HBk.out
   have d1 : w1.cell? ⟨b,1,none⟩ = some v := by rw [Lib.cell_of_heap hb2]; rfl
   have f1 : w1.frozen? ⟨b,1,none⟩ = false := Lib.frozen_of_heap hb2 1
   have HE : Hid (Lib.BuilderAt 88 5 b b (.pointer (some ⟨b,0,none⟩)) (bs ++ tc T) (w1.setCell ⟨b,1,none⟩ v1)) := Lib.BuilderAt.put (T := 88) (e := 5) (Nat.le_refl _) hb2 (bs' := bs ++ tc T) (by rw [List.length_append,HL.out]; exact hown1) (by decide)
   have HB : Hid (Below b w (w1.setCell ⟨b,1,none⟩ v1)) := ((Below.refl b w).grown hgrow1 hBw (fun k hk => (World.ownsRow.lt HOwn.out k hk).1)).setCell (p := ⟨b,1,none⟩) (Nat.le_refl _) _
   obtain ⟨a',c',rfl,_⟩ := slice_of hown1
   clear hown1 hgrow1 hb2
   go_wp2
   go_ret2
   exact ⟨⟨_,rfl⟩,HE.out,HB.out⟩
theorem sc_take (l : List ByteArray) (k : Nat) (h : k < l.length) : sc (l.take (k + 1)) = sc (l.take k) ++ tc l[k] := by
 unfold sc
 rw [List.take_succ_eq_append_getElem h,List.flatMap_append]
 simp
set_option maxRecDepth 10000 in
set_option maxHeartbeats 2000000 in
theorem pSure (p : Nat) (vS vL : Value) (x : Int) (st : St) (w : World) (h : PAt w p vS vL x st) (hok : st.Ok) :
   Calls Tryz.prog 14 #[.pointer (some ⟨p,0,none⟩)] w fun e w' => e = .returned (.string st.text) /\ Below w.heap.size w w' := by
 have hfew := hok.few
 have hb0 : Below w.heap.size w (w.alloc (.cells #[.pointer none,.slice none 0 0] 88)) := (Below.refl _ _).alloc (Nat.le_refl _) _
 have KG := hide (bGrow w.heap.size (st.sure.length * 256) (w.alloc (.cells #[.pointer none,.slice none 0 0] 88)) (heap_alloc_last w _) hb0.size (by omega))
 rw [show ((st.sure.length * 256 : Nat) : Int) = (st.sure.length : Int) * 256 from by omega] at KG
 have hc0 := (h.below hb0).cell0
 have HB0 := hide hb0
 have H := hide h
 have HOk := hide hok
 obtain ⟨aS,cS,rfl,_⟩ := slice_of h.sure
 obtain ⟨gS,rfl,hxS⟩ := row_cell h.sure hok.some
 have hz := zv69
 have HZ1 := hide zrow1_size
 generalize zrow1 = Z at *
 clear hxS h hok hb0
 go_enter Tryz.func14,Tryz.ntmps14
 go_wp2_with fail
 refine KG.out.mono ?_
 rintro e w1 ⟨rfl,hB1,hb1⟩
 have hbw := HB0.out.trans hb1
 have HI1 : Hid (Lib.BuilderAt 88 5 w.heap.size w.heap.size (.pointer (some ⟨w.heap.size,0,none⟩)) (sc (st.sure.take 0)) w1 /\ Below w.heap.size w w1) := ⟨hB1,hbw⟩
 have hc1 := (H.out.below hbw).cell0
 clear hB1 hb1 hbw hc0 KG HB0
 go_wp2_with fail
 clear hc1
 go_loopw [20] (fun i wr => ∃ k : Nat,k <= st.sure.length /\ i = .int .i64 (k : Int) /\ Lib.BuilderAt 88 5 w.heap.size w.heap.size (.pointer (some ⟨w.heap.size,0,none⟩)) (sc (st.sure.take k)) wr /\ Below w.heap.size w wr) (fun i _ => st.sure.length - (intOf i).toNat)
 case atStart => exact ⟨0,Nat.zero_le _,rfl,HI1.out.1,HI1.out.2⟩
 case round =>
   obtain ⟨k,hk,rfl,hBd,hbl⟩ := hrel
   have HBd := hide hBd
   have HBl := hide hbl
   clear hBd hbl
   by_cases hlt : k < st.sure.length
   · have HRg := hide ((H.out.below HBl.out).block rfl HOk.out.full k hlt)
     have hT := HOk.out.full _ (List.getElem_mem hlt)
     have HT := hide hT
     have HS69 : Hid ((Tryz.prog.info? 90).map (·.size) = some (tc st.sure[k]).length) := by unfold Hid; rw [tc_length,hT]; exact size69
     have HTs : Hid ((tc st.sure[k]).toArray.size = 256) := tsize _ hT
     have HTo := hide (tone st.sure[k])
     have HA1 := hide (heap_alloc_last wr (.cells Z 90))
     have HA2 := hide (World.setRow_alloc_new wr Z (tc st.sure[k]).toArray 90)
     have hU : Below wr.heap.size wr (wr.alloc (.cells (tc st.sure[k]).toArray 90)) := (Below.refl _ _).alloc (Nat.le_refl _) _
     have HG := hide (heap_alloc_last wr (.cells (tc st.sure[k]).toArray 90))
     have HNext := hide (sc_take st.sure k hlt)
     have HLen : Hid ((sc (st.sure.take k)).length <= 100000000) := by
       unfold Hid
       rw [sc_length _ (fun s hs => HOk.out.full s (List.mem_of_mem_take hs)),List.length_take]
       omega
     have HBU : Hid (Lib.BuilderAt 88 5 w.heap.size w.heap.size (.pointer (some ⟨w.heap.size,0,none⟩)) (sc (st.sure.take k)) (wr.alloc (.cells (tc st.sure[k]).toArray 90))) := by
       obtain ⟨h1,v,h2,h3,h4⟩ := HBd.out
       exact ⟨h1,v,(hU.block _ (Array.getElem?_eq_some_iff.1 h2).1).trans h2,World.ownsRow.alloc h3 _,h4⟩
     have HBl2 := hide (HBl.out.trans (hU.mono HBl.out.size))
     clear hU hT HBd HBl
     generalize st.sure[k] = T at *
     have hkz : (k : Int) < (st.sure.length : Int) := by omega
     go_upto_region 8 with (first
       | (with_reducible refine wpList_load_mid (by with_unfolding_all rfl) 90 (.tmp 22) (by with_unfolding_all rfl) gS (k * 256) (by with_unfolding_all rfl) (tc T) _ HRg.out Tryz.underlying90 (by with_unfolding_all rfl) HS69.out ?_)
       | (with_reducible refine wpList_store_row (by with_unfolding_all rfl) 90 (.tmp 5) (.tmp 23) (by with_unfolding_all rfl) wr.heap.size (tc T).toArray (by with_unfolding_all rfl) (by with_unfolding_all rfl) 90 Z HA1.out (by rw [HTs.out]; exact size69) (by rw [HTs.out,HZ1.out]) HTo.out ?_))
     rw [HA2.out]
     simp only [Act.put]
     clear HA1 HA2 HRg HS69
     generalize wr.alloc (.cells (tc T).toArray 90) = U at *
     generalize wr.heap.size = g at *
     have KW := hide (bWrite w.heap.size g (sc (st.sure.take k)) T U HBU.out HG.out HT.out HLen.out HBl2.out.size)
     go_wp2_with fail
     refine KW.out.mono ?_
     rintro e w2 ⟨⟨v2,rfl⟩,h2,hb2⟩
     have HE : Hid (Lib.BuilderAt 88 5 w.heap.size w.heap.size (.pointer (some ⟨w.heap.size,0,none⟩)) (sc (st.sure.take (k + 1))) w2 /\ Below w.heap.size w w2) := ⟨by rw [HNext.out]; exact h2,HBl2.out.trans hb2⟩
     clear h2 hb2
     go_wp2
     go_roundw
     case rel => exact ⟨k + 1,hlt,by go_num,HE.out.1,HE.out.2⟩
     case measure => simp [intOf]; omega
   · have hke : k = st.sure.length := by omega
     subst hke
     have hBd := HBd.out
     rw [List.take_length, <- sc_joined] at hBd
     have KS := hide (bString w.heap.size st.text.data.toList wr hBd HBl.out.size)
     clear hBd
     have hX : (⟨st.text.data.toList.toArray⟩ : ByteArray) = st.text := by rw [Array.toArray_toList]
     rw [hX] at KS
     clear hX
     go_wp2_with fail
     refine KS.out.mono ?_
     rintro e w2 ⟨rfl,hb2⟩
     have HE := hide (HBl.out.trans hb2)
     clear hb2
     go_wp2
     go_ret
     exact ⟨rfl,HE.out⟩
end Go.Proofs.YtchhojkhfdkhfaaGreatDoor
