/- Joined texts. -/
import Derived.Test.YtchhojkhfdkhfaaGreatDoorP08
import Derived.Deep.Cut
import Derived.Test.YtchhojkhfdkhfaaGreatDoorP00
namespace Go.Proofs.YtchhojkhfdkhfaaGreatDoor.Frm
open Go Go.RowKit
theorem hide {p : Prop} (h : p) : Hid p := h
def Two (w : World) (n : Nat) (t : TypeId) (f : Nat -> Nat) (u : World) : Prop := Below w.heap.size w u /\ RowAt u w.heap.size n t (fun _ => 0) /\ RowAt u (w.heap.size + 1) n t f
theorem Two.start (w : World) (n : Nat) (t : TypeId) : Two w n t (fun _ => 0) ((w.alloc (.cells (rowN n fun _ => 0) t)).alloc (.cells (rowN n fun _ => 0) t)) := by
 refine ⟨((Below.refl _ _).alloc (Nat.le_refl _) _).alloc (by simp) _,(RowAt.new w n t _).alloc _,?_⟩
 have h := RowAt.new (w.alloc (.cells (rowN n fun _ => 0) t)) n t (fun _ => 0)
 rw [show (w.alloc (.cells (rowN n fun _ => 0) t)).heap.size = w.heap.size + 1 from by simp] at h
 exact h
theorem Two.set {w u : World} {n : Nat} {t : TypeId} {f : Nat -> Nat} (h : Two w n t f u) (i v : Nat) : Two w n t (fun e => if e = i then v else f e) (u.setCell ⟨w.heap.size + 1,i,none⟩ (.int .u32 ((v : Nat) : Int))) :=
 ⟨h.1.setCell (by show w.heap.size <= w.heap.size + 1; omega) _,h.2.1.other (by omega),h.2.2.set i v⟩
theorem Two.congr {w u : World} {n : Nat} {t : TypeId} {f g : Nat -> Nat} (h : Two w n t f u) (hf : ∀ i,i < n -> f i = g i) : Two w n t g u := ⟨h.1,h.2.1,h.2.2.congr hf⟩
def bitOf (j : Nat) : Nat := 2 ^ (8 - j) / 2
theorem bitOf_lt {j : Nat} (hj : j < 8) : bitOf j = 2 ^ (7 - j) /\ 2 * bitOf j = 2 ^ (8 - j) /\ 0 < bitOf j := by
 have h : 2 ^ (8 - j) = 2 * 2 ^ (7 - j) := by rw [show 8 - j = (7 - j) + 1 from by omega,Nat.pow_succ,Nat.mul_comm]
 have hp := Nat.two_pow_pos (7 - j)
 unfold bitOf; omega
theorem bitOf_next {j : Nat} (hj : j < 8) : bitOf j / 2 = bitOf (j + 1) := by
 have h := (bitOf_lt hj).1
 rw [h]; unfold bitOf; rw [show 8 - (j + 1) = 7 - j from by omega]
theorem bitOf_le {j : Nat} (hj : j <= 8) : bitOf j <= 128 := by
 unfold bitOf
 have : 2 ^ (8 - j) <= 2 ^ 8 := Nat.pow_le_pow_right (by decide) (by omega)
 omega

set_option maxRecDepth 10000 in
set_option maxHeartbeats 1000000 in
theorem bytesAlone_any (w : World) :
   Calls Tryz.prog 161 #[] w fun e w' => e = .returned (.agg (rowN 256 fun i => stps 8 i)) /\ Below w.heap.size w w' := by
 have hz := zv58
 go_enter Tryz.func161,Tryz.ntmps161
 go_wp2_with fail
 clear hz
 go_loopw [2,3,4] (fun m i _ wr => ∃ j : Nat,j <= 8 /\ m = .int .u32 ((stps j 1 : Nat) : Int) /\ i = .int .i64 ((bitOf j : Nat) : Int) /\ Two w 256 224 (lay j 0) wr) (fun _ i _ _ => (intOf i).toNat)
 case atStart => exact ⟨0,Nat.zero_le _,rfl,rfl,(Two.start w 256 224).congr fun i hi => (lay_start i hi).symm⟩
 case round =>
   obtain ⟨j,hj,rfl,rfl,hR⟩ := hrel
   by_cases hlt : j < 8
   · obtain ⟨hb1,hb2,hb0⟩ := bitOf_lt hlt
     have hb3 := bitOf_le hj
     have HN := hide (bitOf_next hlt)
     have hbz : (0 : Int) < ((bitOf j : Nat) : Int) := by omega
     have HS := fun u => shift_any (stps j 1) u (stps_lt j (by decide))
     rw [<- stps_succ] at HS
     have HSh : Hid (∀ u,Calls Tryz.prog 167 #[.int .u32 ((stps j 1 : Nat) : Int)] u fun e w' => e = .returned (.int .u32 ((stps (j + 1) 1 : Nat) : Int)) /\ w' = u) := HS
     have HM := hide (stps_lt (j + 1) (c := 1) (by decide))
     have HR := hide hR
     have HB := hide (And.intro hb1 hb2)
     clear hR HS hb1 hb2
     generalize hbit : bitOf j = B at *
     have HBit := hide hbit
     clear hbit
     go_wp2_with fail
     refine (HSh.out _).mono ?_
     rintro e w1 ⟨rfl,rfl⟩
     go_wp2_with fail
     generalize hg6 : decide ((0 : Int) < (B : Int)) = g6
     clear hg6
     go_loopw [4] (fun i wr2 => ∃ k : Nat,k <= 2 ^ j /\ i = .int .i64 ((k * (2 * B) : Nat) : Int) /\ Two w 256 224 (lay j k) wr2) (fun i _ => 256 - (intOf i).toNat)
     case atStart => exact ⟨0,Nat.zero_le _,by rw [Nat.zero_mul]; rfl,HR.out⟩
     case round =>
       obtain ⟨k,hk,rfl,hR2⟩ := hrel
       by_cases hk8 : k < 2 ^ j
       · have hin := lay_in j k hlt hk8
         have hmore := (lay_more j k hlt).2 hk8
         have hnew := lay_new j k hlt
         have hsucc := fun i => lay_succ j k i hlt
         rw [<- HB.out.2] at hin hmore hnew
         rw [<- HB.out.1] at hin hnew
         simp only [<- HB.out.1, <- HB.out.2] at hsucc
         have hc := hR2.2.2.cell hmore
         have hf := hR2.2.2.free (k * (2 * B) + B)
         have hxor := u32_xor (lay j k (k * (2 * B))) (stps (j + 1) 1) (lay_lt j k _ hmore) HM.out
         rw [hnew] at hxor
         have hc2 := hR2.2.2.cell hin
         have hT := (hR2.set (k * (2 * B) + B) (stps 8 (k * (2 * B) + B))).congr fun i _ => (hsucc i).symm
         have HT := hide hT
         have e1 : k * (2 * B) + 2 * B = (k + 1) * (2 * B) := by rw [Nat.add_mul,Nat.one_mul]
         clear hR2 hnew hsucc hT
         generalize hbe : k * (2 * B) = below at *
         have HBe := hide hbe
         have HE1 := hide e1
         have HK := hide hk8
         clear hbe e1 hk hk8
         go_wp2
         have e1 := HE1.out
         exact ⟨⟨k + 1,HK.out,by refine congrArg _ ?_; omega,HT.out⟩,by simp [intOf]; omega⟩
       · have hke : k = 2 ^ j := by omega
         have hstop : ¬ (k * (2 * B) < 256) := fun h => hk8 ((lay_more j k hlt).1 (by rw [<- HB.out.2]; exact h))
         have HR2 : Hid (Two w 256 224 (lay (j + 1) 0) wr) := hide (hR2.congr fun i hi => by rw [hke]; exact lay_next j i hlt hi)
         clear hR2 hke hk hk8
         generalize k * (2 * B) = below at *
         go_wp2
         go_roundw
         case rel => exact ⟨j + 1,hlt,rfl,by refine congrArg _ ?_; have := HN.out; omega,HR2.out⟩
         case measure => simp [intOf]; omega
   · have hje : j = 8 := by omega
     subst hje
     have hR2 : Two w 256 224 (fun i => stps 8 i) wr := hR.congr fun i hi => lay_end i
     clear hR
     have HR2 := hide hR2
     clear hR2
     have hb : bitOf 8 = 0 := rfl
     rw [hb]
     clear hb
     go_upto_region 11 with fail
     apply wp_region_lit
     refine wpList_load_row rfl 224 _ rfl (w.heap.size + 1) rfl 224 (rowN 256 fun i => stps 8 i) (0,0) _ HR2.out.2.2 Tryz.underlying224 rfl (by rw [rowN_size]; exact info58) ?_
     refine wpList_store_row rfl 224 _ _ rfl w.heap.size (rowN 256 fun i => stps 8 i) rfl rfl 224 _ HR2.out.2.1 (by rw [rowN_size]; exact info58) (by rw [rowN_size,rowN_size]) (rowN_one _ _) ?_
     apply wpList_nil
     have hres := HR2.out.2.1.setAll (fun i => stps 8 i)
     have hbel := below_setRow HR2.out.1 (Nat.le_refl _) (rowN 256 fun i => stps 8 i)
     have hsz : (Tryz.prog.info? 224).map (·.size) = some (rowN 256 fun i => stps 8 i).size := by rw [rowN_size]; exact info58
     unfold RowAt at hres
     generalize hrow : (rowN 256 fun i => stps 8 i) = R at *
     have HRow := hide hrow
     clear hrow
     have HRes := hide (And.intro hres (And.intro hbel hsz))
     clear hres hbel hsz
     go_wp2_with fail
     (try simp only [Exit.inBlock,Exit.then])
     exact bodyPost_ret (results_cell_row Tryz.results161 _ _ w.heap.size 224 R (0,0) _ rfl HRes.out.1 Tryz.underlying224 rfl HRes.out.2.2) rfl ⟨by rw [HRow.out],HRes.out.2.1⟩
theorem store_new58 (w : World) (f : Nat -> Nat) : (storeCells ⟨w.heap.size,0,none⟩ (rowN 256 f).toList 0).run Tryz.prog (w.alloc (.cells (rowN 256 fun _ => 0) 224)) = .ok () (w.alloc (.cells (rowN 256 f) 224)) :=
 run_storeCells_new w 224 _ _ (by rw [rowN_size]; exact info58) (by rw [rowN_size,rowN_size]) (rowN_one _ _)
set_option maxRecDepth 10000 in
set_option maxHeartbeats 1000000 in
theorem more_core (c : Nat) (s : ByteArray) (F : Nat -> Nat) (w : World) (hc : c < 4294967296) (hs : s.size <= maxLen)
   (h0 : F 0 = cpl c) (hF : ∀ k,F k < 4294967296) (hn : ∀ k (h : k < s.size),F (k + 1) = upd (F k) s[k].toNat) :
   Calls Tryz.prog 152 #[.int .u32 (c : Int),.string s] w fun e w' => e = .returned (.int .u32 ((cpl (F s.size) : Nat) : Int)) /\ Below w.heap.size w w' := by
 unfold maxLen at hs
 have H0 := hide h0
 have HF := hide hF
 have HN := hide hn
 have HC := hide hc
 clear h0 hF hn hc
 have hz := zv58
 go_enter Tryz.func152,Tryz.ntmps152
 go_wp2_with fail
 refine (bytesAlone_any _).mono ?_
 rintro e w1 ⟨rfl,hb1⟩
 have hst := store_new58 w1 (fun i => stps 8 i)
 have hR := RowAt.new w1 256 224 (fun i => stps 8 i)
 have hbel := (hb1.alloc (w := w1) hb1.size (.cells (rowN 256 fun i => stps 8 i) 224))
 have hsz := rowN_size 256 (fun i => stps 8 i)
 have HR := hide hR
 have HB := hide hbel
 clear hR hbel hb1
 generalize (rowN 256 fun _ => 0) = Z at *
 generalize (rowN 256 fun i => stps 8 i) = R at *
 go_wp2_with fail
 clear hst hsz hz
 generalize w1.alloc (.cells R 224) = W at *
 generalize w1.heap.size = g at *
 go_loop [0,6,12] (fun t _ i => ∃ k : Nat,k <= s.size /\ i = .int .i64 k /\ t = .int .u32 ((F k : Nat) : Int)) (fun _ _ i => s.size - (intOf i).toNat)
 case atStart => exact ⟨0,Nat.zero_le _,rfl,val_u32 (by rw [H0.out]; exact u32_xor c 4294967295 HC.out (by decide))⟩
 case round =>
   obtain ⟨k,hk,rfl,rfl⟩ := hrel
   by_cases hlt : k < s.size
   · have hb := s[k].toNat_lt
     have hm : F k % 256 < 256 := Nat.mod_lt _ (by decide)
     have hx8 : bits .xor .u8 ((F k : Int) % 256) ((s[k].toNat : Nat) : Int) = ((F k % 256 ^^^ s[k].toNat : Nat) : Int) := by
       have h := u8_xor_nat (F k % 256) s[k].toNat hm hb
       rw [show ((F k % 256 : Nat) : Int) = (F k : Int) % 256 from by omega] at h
       exact h
     have hi : F k % 256 ^^^ s[k].toNat < 256 := Nat.xor_lt_two_pow (n := 8) hm hb
     have hc := HR.out.cell hi
     have hx32 := u32_xor (stps 8 (F k % 256 ^^^ s[k].toNat)) (F k / 256) (stps_lt 8 (by omega)) (by have := HF.out k; omega)
     rw [upd_by (F k) _ hb, <- HN.out k hlt,show ((F k / 256 : Nat) : Int) = (F k : Int) / 256 from by omega] at hx32
     generalize F k % 256 ^^^ s[k].toNat = idx at *
     generalize stps 8 idx = sv at *
     clear hm hb
     go_wp2
     go_round
     case rel => exact ⟨k + 1,by omega,by go_num,rfl⟩
     case measure => simp [intOf]; omega
   · go_wp2_with fail
     go_ret
     have hke : k = s.size := by omega
     subst hke
     exact ⟨ret_u32 (u32_xor _ 4294967295 (HF.out _) (by decide)),HB.out⟩

theorem more_any (c : Nat) (s : ByteArray) (w : World) (hc : c < 4294967296) (hs : s.size <= maxLen) :
   Calls Tryz.prog 152 #[.int .u32 (c : Int),.string s] w fun e w' => e = .returned (.int .u32 ((more c (bytesOf s) : Nat) : Int)) /\ Below w.heap.size w w' := by
 have h := more_core c s (fun k => fold (cpl c) ((bytesOf s).take k)) w hc hs rfl
   (fun k => fold_lt _ (cpl_lt hc) (fun b hm => bytesOf_lt s b (List.mem_of_mem_take hm)))
   (fun k hk => by
     have e : (bytesOf s).take (k + 1) = (bytesOf s).take k ++ [s[k].toNat] := by
       have hk2 : k < (s.data.toList.map UInt8.toNat).length := by simpa using hk
       unfold bytesOf
       rw [List.take_succ_eq_append_getElem hk2]
       simp
       rfl
     show fold (cpl c) ((bytesOf s).take (k + 1)) = _
     rw [e,fold_append]
     rfl)
 have e : (bytesOf s).take s.size = bytesOf s := List.take_of_length_le (by rw [bytesOf_length]; exact Nat.le_refl _)
 simp only [e] at h
 exact h
set_option maxHeartbeats 400000 in
theorem of_any (s : ByteArray) (w : World) (hs : s.size <= maxLen) :
   Calls Tryz.prog 133 #[.string s] w fun e w' => e = .returned (.int .u32 ((more 0 (bytesOf s) : Nat) : Int)) /\ Below w.heap.size w w' := by
 have HM : Hid (∀ u,Calls Tryz.prog 152 #[.int .u32 0,.string s] u fun e w' => e = .returned (.int .u32 ((more 0 (bytesOf s) : Nat) : Int)) /\ Below u.heap.size u w') := fun u => more_any 0 s u (by decide) hs
 go_enter Tryz.func133,Tryz.ntmps133
 go_wp2_with fail
 refine (HM.out _).mono ?_
 rintro e w1 ⟨rfl,hb1⟩
 have HB := hide hb1
 clear hb1
 go_wp2
 go_ret
 exact ⟨rfl,HB.out⟩
end Go.Proofs.YtchhojkhfdkhfaaGreatDoor.Frm
