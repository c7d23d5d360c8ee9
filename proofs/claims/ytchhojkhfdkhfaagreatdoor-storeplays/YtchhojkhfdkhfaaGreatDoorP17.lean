/- Joined texts. -/
import Derived.Test.YtchhojkhfdkhfaaGreatDoorP14
import Derived.Test.YtchhojkhfdkhfaaGreatDoorP05
namespace Go.Proofs.YtchhojkhfdkhfaaGreatDoor
open Go Go.RowKit
def nums (l : List (Nat × ByteArray)) : List Value := (l.map fun w => (w.1 : Int)).map (Value.int .i64)
theorem nums_take (l : List (Nat × ByteArray)) (k : Nat) (h : k < l.length) : nums (l.take (k + 1)) = nums (l.take k) ++ [.int .i64 (l[k].1 : Int)] := by
 unfold nums
 rw [List.take_succ_eq_append_getElem h,List.map_append,List.map_append]
 rfl
structure Tells (w u : World) (p : Nat) (vS vL : Value) (x : Int) (st : St) (v : Value) (k : Nat) : Prop where
 d : PAt u p vS vL x st
 row : u.ownsRow w.heap.size 3 1 v k (nums (st.loose.take k))
 below : Below w.heap.size w u
set_option maxRecDepth 10000 in
set_option maxHeartbeats 2000000 in
theorem pLoose (p : Nat) (vS vL : Value) (x : Int) (st : St) (w : World) (h : PAt w p vS vL x st) (hok : st.Ok) (hl : st.loose.length <= 10000) :
   Calls Tryz.prog 16 #[.pointer (some ⟨p,0,none⟩)] w fun e w' => ∃ a c,e = .returned (.slice a st.loose.length c) /\ IntsAt w' a (st.loose.map fun w => (w.1 : Int)) /\ Below w.heap.size w w' := by
 have H := hide h
 have HOk := hide hok
 have hc1 := h.cell1
 obtain ⟨aL,cL,rfl,hcL⟩ := slice_of h.loose
 obtain ⟨i0,hi,hz0,hz1,hz2⟩ := info_parts info3
 have HI := hide (And.intro hi (And.intro hz0 (And.intro hz1 hz2)))
 have hzv := zv71
 have HZ0 := hide (w0_size 0)
 generalize w0 0 = Z0 at *
 have HT0 : Hid (Tells w w p vS (.slice aL st.loose.length cL) x st (.slice none 0 0) 0) := ⟨h,World.ownsRow_nil _ _ _ _,Below.refl _ _⟩
 clear h hok hi hz0 hz1 hz2
 go_enter Tryz.func16,Tryz.ntmps16
 go_wp2_with fail
 clear hc1
 go_loopw [3,13] (fun v i wr => ∃ k : Nat,k <= st.loose.length /\ i = .int .i64 (k : Int) /\ Tells w wr p vS (.slice aL st.loose.length cL) x st v k) (fun _ i _ => st.loose.length - (intOf i).toNat)
 case atStart => exact ⟨0,Nat.zero_le _,rfl,HT0.out⟩
 case round =>
   obtain ⟨k,hk,rfl,hT⟩ := hrel
   have HT := hide hT
   by_cases hlt : k < st.loose.length
   · obtain ⟨gL,rfl,hxL⟩ := row_cell hT.d.loose (by omega)
     clear hxL
     have hsz : ∀ w ∈ st.loose,w.2.size = 256 := fun w hw => (HOk.out.there w hw).2
     have HRg := hide (hT.d.write rfl hsz k hlt)
     have hth := HOk.out.there _ (List.getElem_mem hlt)
     have hWs : (wc st.loose[k]).length = 257 := wc_length _ hth.2
     have HWl : Hid ((Tryz.prog.info? 96).map (·.size) = some (wc st.loose[k]).length) := by unfold Hid; rw [hWs]; exact size71
     have HWs := hide (wcs st.loose[k] hth.2)
     have HWo := hide (wcone st.loose[k])
     have hU : Below wr.heap.size wr (wr.alloc (.cells (wc st.loose[k]).toArray 96)) := (Below.refl _ _).alloc (Nat.le_refl _) _
     have HD := hide (hT.d.below hU)
     have HRow := hide (World.ownsRow.alloc hT.row (.cells (wc st.loose[k]).toArray 96))
     have HB := hide (hT.below.trans (hU.mono hT.below.size))
     have HNext := hide (nums_take st.loose k hlt)
     have HA1 := hide (heap_alloc_last wr (.cells Z0 96))
     have HA2 := hide (World.setRow_alloc_new wr Z0 (wc st.loose[k]).toArray 96)
     have hG := heap_alloc_last wr (.cells (wc st.loose[k]).toArray 96)
     have hcb : (wr.alloc (.cells (wc st.loose[k]).toArray 96)).cell? ⟨wr.heap.size,0,none⟩ = some (.int .i64 ((st.loose[k].1 : Nat) : Int)) := by rw [cell_of_row _ _ _ _ _ _ hG]; rfl
     clear hT hsz hth hWs hU hG
     generalize hY : st.loose[k] = Y at *
     clear hY
     have hkz : (k : Int) < (st.loose.length : Int) := by omega
     go_upto_region 7 with (first
       | (with_reducible refine wpList_load_mid (by with_unfolding_all rfl) 96 (.tmp 15) (by with_unfolding_all rfl) gL (k * 257) (by with_unfolding_all rfl) (wc Y) _ HRg.out Tryz.underlying96 (by with_unfolding_all rfl) HWl.out ?_)
       | (with_reducible refine wpList_store_row (by with_unfolding_all rfl) 96 (.tmp 5) (.tmp 16) (by with_unfolding_all rfl) wr.heap.size (wc Y).toArray (by with_unfolding_all rfl) (by with_unfolding_all rfl) 96 Z0 HA1.out (by rw [HWs.out]; exact size71) (by rw [HWs.out,HZ0.out]) HWo.out ?_))
     rw [HA2.out]
     simp only [Act.put]
     clear HA1 HA2 HRg HT HWl
     generalize wr.alloc (.cells (wc Y).toArray 96) = U at *
     generalize wr.heap.size = g at *
     go_wp2_with (at_builtin; refine wpList_append_own _ rfl _ _ 41 rfl w.heap.size 3 i0 (.int .i64 0) 1 8 Tryz.underlying41 HI.out.1 HI.out.2.1 HI.out.2.2.1 HI.out.2.2.2 rfl (by decide) _ _ _ rfl (World.ownsRow.alloc HRow.out _) ⟨U.heap.size,0,none⟩ 1 1 [.int .i64 ((Y.1 : Nat) : Int)] rfl rfl ?c1 ?c2 ?c3 ?c4 ?c5 ?_)
     case c1 =>
       intro j u hj
       match j,hj with
       | 0,hj => simp at hj; subst hj; simp [Addr.add]
     case c2 => intro u hu; simp at hu; subst hu; rfl
     case c3 => unfold maxLen; omega
     case c4 => omega
     case c5 => have := HB.out.size; simp; omega
     · intro v1 w1 hown1 hgrow1 _
       have hb1 : Below w.heap.size w w1 := (HB.out.alloc HB.out.size _).grown hgrow1 (by have := HB.out.size; simp; omega) (fun j e => (World.ownsRow.lt HRow.out j e).1)
       have HN : Hid (Tells w w1 p vS (.slice (some ⟨gL,0,none⟩) st.loose.length cL) x st v1 (k + 1)) := ⟨H.out.below hb1,by rw [HNext.out]; exact hown1,hb1⟩
       clear hown1 hgrow1 hb1
       go_wp2
       go_roundw
       case rel => exact ⟨k + 1,hlt,by go_num,HN.out⟩
       case measure => simp [intOf]; omega
   · have hke : k = st.loose.length := by omega
     subst hke
     have hrow := hT.row
     rw [List.take_length] at hrow
     have hlen : (st.loose.map fun w => (w.1 : Int)).length = st.loose.length := List.length_map _
     obtain ⟨a,c,hv,hia,_⟩ := ints_of_own (l := st.loose.map fun w => (w.1 : Int)) (by rw [hlen]; exact hrow)
     rw [hlen] at hv
     subst hv
     have HE := hide (And.intro hia hT.below)
     clear hT HT hrow hia hlen
     go_wp2
     go_ret
     exact ⟨a,c,rfl,HE.out.1,HE.out.2⟩
end Go.Proofs.YtchhojkhfdkhfaaGreatDoor
