/- Joined texts. -/
import Derived.Test.YtchhojkhfdkhfaaGreatDoorP30
import Derived.Test.YtchhojkhfdkhfaaGreatDoorP00
import Derived.Test.YtchhojkhfdkhfaaGreatDoorP14
import Derived.Deep.RegionHeld3
import Derived.Laws.CopyRow
import Derived.Test.YtchhojkhfdkhfaaGreatDoorP09
import Derived.ChangeKeysEq
namespace Go.Proofs.YtchhojkhfdkhfaaGreatDoor
open Go Go.RowKit Frm
theorem takeAt7 {P : Program} {md : Region.Mode} {ops : Array Oper} {Q : Exit -> Act -> World -> Prop} {S : World -> Prop} (i d : Nat) {oi : Oper} {v : Value} {fuel : Nat} {listed : Array Bool} {a : Act} {w : World} (hi : ops[i]? = some oi) (hd : oi.dst = some d)
   (hs : Region.noSelect ops = true) (hf : Region.free md ops listed i = true) (hr : (Region.ready md ops listed).contains i = true)
   (hQ : ∀ c a w,Q (.panic c) (a.put oi.dst v) w -> Q (.panic c) a w) (hy : YieldsIf P ops S oi v a) (hS : S w)
   (h : wpAnyH P md ops Q S fuel (listed.setIfInBounds i true) { tmps := a.tmps.setIfInBounds d v,defers := a.defers } w) : wpAnyH P md ops Q S (fuel + 1) listed a w := by
 refine wpAnyH_take hi hs hf hr hQ hy hS ?_
 rw [hd]
 exact h
theorem exec_load_row {P : Program} {ev : Operand -> Value} {o : Oper} {w : World} (ty : TypeId) (x : Operand) (ho : o.op = .load ty x)
   (g : Nat) (hx : ev x = .pointer (some ⟨g,0,none⟩)) (t : TypeId) (cs : Array Value) (fr : Nat × Nat) (d : TypeDesc) (hg : w.heap[g]? = some (.cells cs t fr))
   (hu : P.underlying ty = some d) (hd : (match d with | .struct _ | .array _ _ => true | _ => false) = true) (hi : (P.info? ty).map (·.size) = some cs.size) :
   (execOp ev o).run P w = .ok (.value (.agg cs)) w := by
 unfold execOp
 simp only [ho,hx,Instr.loadAt,Instr.sureAddr,Sem.run_bind,Sem.run_pure,Result.andThen_ok,run_loadVar_row w g t ty cs fr d hg hu hd hi]
theorem run_copy_some7 {P : Program} (w : World) (dT sT ty elem : TypeId) (g o dLen dCap : Nat) (s : ByteArray) (cur : Array Value) (t : TypeId)
   (hu : P.underlying dT = some (.slice elem)) (hs : (P.info? elem).map (·.size) = some 1) (hg : w.heap[g]? = some (.cells cur t (0,0))) (m : Nat) (hm : Nat.min s.size dLen = m) (hfit : o + m <= cur.size) :
   (Builtin.copy_ #[dT,sT] ty #[.slice (some ⟨g,o,none⟩) dLen dCap,.string s]).run P w =
     .ok (goInt m) (w.setRow g (cur.toList.take o ++ Lib.byteCells (s.data.toList.take m) ++ cur.toList.drop (o + m)).toArray) := by
 have hms : m <= s.size := by rw [<- hm]; exact Nat.min_le_left _ _
 have hlen : (Lib.byteCells (s.data.toList.take m)).length = m := by
   rw [Lib.byteCells_length,List.length_take, <- Lib.size_eq]; omega
 have hst := run_storeCells_at P g o t (Lib.byteCells (s.data.toList.take m)) 0 cur w hg (by rw [hlen]; simpa using hfit) (Lib.byteCells_one _)
 have htk : List.take m (List.map (fun b : UInt8 => Value.int IntKind.u8 (b.toNat : Int)) s.data.toList) = Lib.byteCells (s.data.toList.take m) := by
   rw [<- List.map_take]
   rfl
 rw [hlen] at hst
 simp only [Nat.add_zero] at hst
 cases hq : P.info? elem with
 | none => simp [hq] at hs
 | some i =>
   simp [Builtin.copy_,run_underlying hu,Builtin.lenOf,Builtin.firstCells,sizeOf,typeInfo,hq,hm]
   rw [htk,hst]
   simp [Result.andThen]
theorem bc_replicate7 (n : Nat) : List.replicate n (Value.int .u8 0) = Lib.byteCells (List.replicate n 0) := by
 unfold Lib.byteCells
 rw [List.map_replicate]
 rfl
theorem bc_append7 (a b : List UInt8) : Lib.byteCells a ++ Lib.byteCells b = Lib.byteCells (a ++ b) := by unfold Lib.byteCells; rw [List.map_append]
theorem z71_eq : Tryz.zeroCells89 = (List.replicate 256 (Value.int .u8 0)).toArray := by kernel_rfl
theorem z71_size : Tryz.zeroCells89.size = 256 := by rw [z71_eq,List.size_toArray,List.length_replicate]
theorem size71b : (Tryz.prog.info? 89).map (·.size) = some 256 := by kernel_rfl
set_option maxRecDepth 10000 in
theorem copyBlk (w : World) (t : ByteArray) (i : Nat) (ty : TypeId) :
   (Builtin.copy_ #[77,9] ty #[.slice (some ⟨w.heap.size,0,none⟩) 256 256,.string (t.extract (i * 256) t.size)]).run Tryz.prog (w.alloc (.cells Tryz.zeroCells89 89)).drew =
     .ok (goInt (min 256 (t.size - i * 256) : Nat)) (w.alloc (.cells (tc (blkT t i)).toArray 89)).drew := by
 have hg : (w.alloc (.cells Tryz.zeroCells89 89)).drew.heap[w.heap.size]? = some (.cells Tryz.zeroCells89 89 (0,0)) := heap_alloc_last w _
 have h := run_copy_some7 (P := Tryz.prog) (w.alloc (.cells Tryz.zeroCells89 89)).drew 77 9 ty 5 w.heap.size 0 256 256 (t.extract (i * 256) t.size) Tryz.zeroCells89 89 Tryz.underlying77 size5 hg (min 256 (t.size - i * 256)) (by rw [ByteArray.size_extract]; show min _ _ = _; omega) (by rw [z71_size]; omega)
 have hrow : (Tryz.zeroCells89.toList.take 0 ++ Lib.byteCells ((t.extract (i * 256) t.size).data.toList.take (min 256 (t.size - i * 256))) ++ Tryz.zeroCells89.toList.drop (0 + min 256 (t.size - i * 256))).toArray = (tc (blkT t i)).toArray := by
   have hs : t.data.toList.length = t.size := by rw [Array.length_toList]; rfl
   have e1 : (t.extract (i * 256) t.size).data.toList.take (min 256 (t.size - i * 256)) = (t.extract (i * 256) (i * 256 + 256)).data.toList := by
     rw [ByteArray.data_extract,ByteArray.data_extract,Array.toList_extract,Array.toList_extract]
     simp only [List.extract_eq_take_drop]
     rw [List.take_take]
     by_cases h : i * 256 <= t.size
     · by_cases h2 : i * 256 + 256 <= t.size
       · congr 1
         omega
       · rw [List.take_of_length_le (by rw [List.length_drop,hs]; omega),List.take_of_length_le (by rw [List.length_drop,hs]; omega)]
     · rw [List.drop_of_length_le (by omega)]
       simp
   rw [e1,z71_eq,List.take_zero,List.nil_append,Nat.zero_add,List.drop_replicate,bc_replicate7,bc_append7]
   unfold blkT tc zs
   rw [ByteArray.data_append,Array.toList_append]
 rw [hrow] at h
 have e : (w.alloc (.cells Tryz.zeroCells89 89)).drew.setRow w.heap.size (tc (blkT t i)).toArray = (w.alloc (.cells (tc (blkT t i)).toArray 89)).drew := by
   have h1 : (w.alloc (.cells Tryz.zeroCells89 89)).drew.setRow w.heap.size (tc (blkT t i)).toArray = ((w.alloc (.cells Tryz.zeroCells89 89)).setRow w.heap.size (tc (blkT t i)).toArray).drew := rfl
   rw [h1,World.setRow_alloc_new]
 rw [h,e]
def lput (l : List UInt8) (off n : Nat) : Nat -> List UInt8
 | 0 => l
 | i + 1 => (lput l off n i).set (off + i) (lowAt n i)
theorem lput_length (l : List UInt8) (off n : Nat) : ∀ i,(lput l off n i).length = l.length
 | 0 => rfl
 | i + 1 => by unfold lput; rw [List.length_set,lput_length l off n i]
theorem low_int (n k : Nat) : (n : Int) / 2 ^ (8 * k) % 256 = (((lowAt n k).toNat : Nat) : Int) := by
 rw [lowAt_toNat,show (256 : Nat) = 2 ^ 8 from rfl, <- Nat.pow_mul]
 simp
theorem bc_set (l : List UInt8) (j : Nat) (b : UInt8) : (Lib.byteCells l).toArray.setIfInBounds j (.int .u8 ((b.toNat : Nat) : Int)) = (Lib.byteCells (l.set j b)).toArray := by
 unfold Lib.byteCells
 rw [List.setIfInBounds_toArray,List.map_set]
set_option maxRecDepth 10000 in
set_option maxHeartbeats 1000000 in
theorem put_any (g off c len n : Nat) (l : List UInt8) (ty : TypeId) (w : World) (hg : w.heap[g]? = some (.cells (Lib.byteCells l).toArray ty (0,0))) (hl : off + len <= l.length) (h8 : len <= 8) (h256 : l.length <= 256) :
   Calls Tryz.prog 132 #[.slice (some ⟨g,off,none⟩) len c,.int .u64 (n : Int)] w fun e w' => (∃ v,e = .returned v) /\ w'.heap[g]? = some (.cells (Lib.byteCells (lput l off n len)).toArray ty (0,0)) /\ Loc (fun k => k = g) (fun k => k = g) w w' := by
 have HL := hide hl
 have H256 := hide h256
 have HG := hide hg
 have HGl : Hid (g < w.heap.size) := (Array.getElem?_eq_some_iff.1 hg).1
 clear hl h256 hg
 go_enter Tryz.func132,Tryz.ntmps132
 go_wp2_with fail
 go_loopw [4,7] (fun _ i wr => ∃ k : Nat,k <= len /\ i = .int .i64 (k : Int) /\ wr.heap[g]? = some (.cells (Lib.byteCells (lput l off n k)).toArray ty (0,0)) /\ Loc (fun k => k = g) (fun k => k = g) w wr) (fun _ i _ => len - (intOf i).toNat)
 case atStart => exact ⟨0,Nat.zero_le _,rfl,HG.out,Loc.refl _ _⟩
 case round =>
   obtain ⟨k,hk,rfl,hh,hloc⟩ := hrel
   have HH := hide hh
   have HLo := hide hloc
   by_cases hlt : k < len
   · have hk8 : k <= 8 := by omega
     have hll := lput_length l off n k
     have hin : off + k < (lput l off n k).length := by have := HL.out; omega
     have hc : wr.cell? ⟨g,off + k,none⟩ = some (.int .u8 (((lput l off n k)[off + k].toNat : Nat) : Int)) := by
       simp [World.cell?,hh,Lib.byteCells,hin]
     have hf : wr.frozen? ⟨g,off + k,none⟩ = false := by simp [World.frozen?,hh]
     have hw1 : wrap64 (8 * (k : Int)) = 8 * (k : Int) := by unfold wrap64; omega
     have h80 : ¬ (8 * (k : Int) < 0) := by omega
     clear hh hloc hll
     go_wp2
     refine ⟨⟨k + 1,hlt,by go_num,?_,?_⟩,?_⟩
     · rw [heap_set3 HH.out,low_int,bc_set]
       rfl
     · exact HLo.out.trans (Loc.setCell wr ⟨g,off + k,none⟩ _ rfl)
     · simp [intOf]; omega
   · have hke : k = len := by omega
     subst hke
     clear hh hloc
     go_wp2
     go_end0
     exact ⟨⟨_,rfl⟩,HH.out,HLo.out⟩
theorem size89 : (Tryz.prog.info? 171).map (·.size) = some 256 := by kernel_rfl
theorem z89_eq : Tryz.zeroCells171 = (Lib.byteCells (List.replicate 256 0)).toArray := by kernel_rfl
theorem lput_eq (l : List UInt8) (off n : Nat) : ∀ i,off + i <= l.length -> lput l off n i = l.take off ++ lowL n i ++ l.drop (off + i)
 | 0,_ => by
   show l = _
   unfold lowL
   simp
 | i + 1,h => by
   show (lput l off n i).set (off + i) (lowAt n i) = _
   have hl : (l.take off ++ lowL n i).length = off + i := by rw [List.length_append,List.length_take,lowL_length]; omega
   rw [lput_eq l off n i (by omega),List.set_append_right _ _ (by omega),hl,Nat.sub_self,lowL_succ,List.drop_eq_getElem_cons (show off + i < l.length by omega),List.set_cons_zero]
   simp only [List.append_assoc,List.cons_append,List.nil_append]
   rfl
set_option maxRecDepth 10000 in
theorem head_made (g : Nat) (t : ByteArray) : (lput (lput (lput (List.replicate 256 0) 0 g 8) 8 t.size 4) 12 (sumT t) 4).set 255 165 = headL g t := by
 rw [lput_eq (List.replicate 256 0) 0 g 8 (by rw [List.length_replicate]; omega)]
 have e1 : (List.replicate 256 (0 : UInt8)).take 0 ++ lowL g 8 ++ (List.replicate 256 0).drop (0 + 8) = lowL g 8 ++ List.replicate 248 0 := by simp
 rw [e1,lput_eq _ 8 t.size 4 (by rw [List.length_append,lowL_length,List.length_replicate]; omega)]
 have e2 : (lowL g 8 ++ List.replicate 248 (0 : UInt8)).take 8 ++ lowL t.size 4 ++ (lowL g 8 ++ List.replicate 248 0).drop (8 + 4) = lowL g 8 ++ lowL t.size 4 ++ List.replicate 244 0 := by
   rw [List.take_append_of_le_length (by rw [lowL_length]; omega),List.take_of_length_le (by rw [lowL_length]; omega),List.drop_append,List.drop_of_length_le (by rw [lowL_length]; omega),lowL_length,List.nil_append,List.drop_replicate]
 rw [e2,lput_eq _ 12 (sumT t) 4 (by simp [lowL_length])]
 have e3 : (lowL g 8 ++ lowL t.size 4 ++ List.replicate 244 (0 : UInt8)).take 12 ++ lowL (sumT t) 4 ++ (lowL g 8 ++ lowL t.size 4 ++ List.replicate 244 0).drop (12 + 4) = lowL g 8 ++ lowL t.size 4 ++ lowL (sumT t) 4 ++ List.replicate 240 0 := by
   have hl : (lowL g 8 ++ lowL t.size 4).length = 12 := by rw [List.length_append,lowL_length,lowL_length]
   rw [List.take_append_of_le_length (by omega),List.take_of_length_le (by omega),List.drop_append,List.drop_of_length_le (by omega),hl,List.nil_append,List.drop_replicate]
 rw [e3]
 have hl : (lowL g 8 ++ lowL t.size 4 ++ lowL (sumT t) 4).length = 16 := by rw [List.length_append,List.length_append,lowL_length,lowL_length,lowL_length]
 unfold headL
 rw [List.set_append_right _ _ (by omega),hl,show (List.replicate 240 (0 : UInt8)) = List.replicate 239 0 ++ [0] from List.replicate_succ' ..,List.set_append_right _ _ (by simp),List.length_replicate]
 simp only [List.append_assoc]
 rfl
set_option maxRecDepth 10000 in
set_option maxHeartbeats 1000000 in
theorem headOf_any (g : Nat) (t : ByteArray) (w : World) (ht : t.size <= 100000000) :
   Calls Tryz.prog 111 #[.int .u64 (g : Int),.string t] w fun e w' => e = .returned (.agg (tc (headT g t)).toArray) /\ Below w.heap.size w w' := by
 have hz := Tryz.zeroValue171
 rw [z89_eq] at hz
 have hs0 : (w.alloc (.cells (Lib.byteCells (List.replicate 256 0)).toArray 171)).heap.size = w.heap.size + 1 := by simp
 have hg0 := heap_alloc_last w (.cells (Lib.byteCells (List.replicate 256 0)).toArray 171)
 have hg1 := heap_alloc_last (w.alloc (.cells (Lib.byteCells (List.replicate 256 0)).toArray 171)) (.cells (Lib.byteCells (List.replicate 256 0)).toArray 171)
 rw [hs0] at hg1
 have HR0 : Hid (((w.alloc (.cells (Lib.byteCells (List.replicate 256 0)).toArray 171)).alloc (.cells (Lib.byteCells (List.replicate 256 0)).toArray 171)).heap[w.heap.size]? = some (.cells (Lib.byteCells (List.replicate 256 0)).toArray 171 (0,0))) := (Below.heap_alloc _ _ _ (by rw [hs0]; omega)).trans hg0
 have HB0 := hide (two_below w (.cells (Lib.byteCells (List.replicate 256 0)).toArray 171) (.cells (Lib.byteCells (List.replicate 256 0)).toArray 171))
 have HP1 := hide (put_any (w.heap.size + 1) 0 256 8 g (List.replicate 256 0) 171 _ hg1 (by rw [List.length_replicate]; omega) (by omega) (by rw [List.length_replicate]; omega))
 have HL0 : Hid ((List.replicate 256 (0 : UInt8)).length = 256) := List.length_replicate ..
 have HM := hide (head_made g t)
 have HO := hide (fun u => of_any t u (by unfold maxLen; omega))
 have HZs : Hid ((Lib.byteCells (List.replicate 256 (0 : UInt8))).length = 256) := by unfold Hid; rw [Lib.byteCells_length,List.length_replicate]
 generalize hZ0 : List.replicate 256 (0 : UInt8) = Z0 at *
 clear hg0 hg1 hs0
 go_enter Tryz.func111,Tryz.ntmps111
 go_wp2_with fail
 generalize (w.alloc (.cells (Lib.byteCells Z0).toArray 171)).alloc (.cells (Lib.byteCells Z0).toArray 171) = W0 at *
 refine HP1.out.mono ?_
 rintro e w1 ⟨⟨v1,rfl⟩,h1,l1⟩
 have HP2 := hide (put_any (w.heap.size + 1) 8 248 4 t.size _ 171 w1 h1 (by rw [lput_length,HL0.out]; omega) (by omega) (by rw [lput_length,HL0.out]; omega))
 have HL1 := hide l1
 clear HP1 h1 l1
 go_wp2_with fail
 refine HP2.out.mono ?_
 rintro e w2 ⟨⟨v2,rfl⟩,h2,l2⟩
 have HL2 := hide (HL1.out.trans l2)
 have HH2 := hide h2
 clear HP2 h2 l2 HL1
 have hsm : ((sumT t : Nat) : Int) % 18446744073709551616 = ((sumT t : Nat) : Int) := by have := sumT_lt t; omega
 have hsm2 : IntKind.u64.wrap ((sumT t : Nat) : Int) = ((sumT t : Nat) : Int) := by rw [IntKind.wrap_u64]; have := sumT_lt t; omega
 have hO2 : Calls Tryz.prog 133 #[.string t] w2.drew fun e w' => e = .returned (.int .u32 ((sumT t : Nat) : Int)) /\ Below w2.heap.size w2.drew w' := HO.out w2.drew
 have HO2 := hide hO2
 clear hO2 HO
 generalize hsum : sumT t = sm at *
 have hlt3 : w.heap.size + 1 < w2.heap.size := (Array.getElem?_eq_some_iff.1 HH2.out).1
 have HP3 : Hid (∀ u,Below w2.heap.size w2.drew u -> Calls Tryz.prog 132 #[.slice (some ⟨w.heap.size + 1,12,none⟩) 4 244,.int .u64 (sm : Int)] u fun e w' => (∃ v,e = .returned v) /\ w'.heap[w.heap.size + 1]? = some (.cells (Lib.byteCells (lput (lput (lput Z0 0 g 8) 8 t.size 4) 12 sm 4)).toArray 171 (0,0)) /\ Loc (fun k => k = w.heap.size + 1) (fun k => k = w.heap.size + 1) W0 w') := fun u hu => by
   refine (put_any (w.heap.size + 1) 12 244 4 sm _ 171 u ((hu.block _ hlt3).trans HH2.out) (by rw [lput_length,lput_length,HL0.out]; omega) (by omega) (by rw [lput_length,lput_length,HL0.out]; omega)).mono ?_
   rintro e v ⟨he,h1,l1⟩
   exact ⟨he,h1,(HL2.out.drew.trans (Loc.of_below _ hu)).trans l1⟩
 clear HH2 HL2 hlt3
 go_wp2_with fail
 go_region_law (first
   | (go_simp; go_at_call 133; refine (HO2.out).mono ?_; rintro e w3 ⟨rfl,hb3⟩)
   | (go_simp; go_at_call 132; refine (HP3.out w3 hb3).mono ?_; rintro e w4 ⟨⟨v4,rfl⟩,h4,l4⟩))
 have HL4 := hide l4
 clear HP3 l4 hb3 HO2
 have hlen : (lput (lput (lput Z0 0 g 8) 8 t.size 4) 12 sm 4).length = 256 := by rw [lput_length,lput_length,lput_length,HL0.out]
 generalize lput (lput (lput Z0 0 g 8) 8 t.size 4) 12 sm 4 = X at *
 have hc : w4.cell? ⟨w.heap.size + 1,255,none⟩ = some (.int .u8 (((X[255]'(by omega)).toNat : Nat) : Int)) := by
   simp [World.cell?,h4,Lib.byteCells,hlen]
 have hf : w4.frozen? ⟨w.heap.size + 1,255,none⟩ = false := by simp [World.frozen?,h4]
 have hh5 : (w4.setCell ⟨w.heap.size + 1,255,none⟩ (.int .u8 165)).heap[w.heap.size + 1]? = some (.cells (tc (headT g t)).toArray 171 (0,0)) := by
   have := bc_set X 255 165
   rw [HM.out] at this
   rw [heap_set3 h4]
   exact congrArg (fun c => some (Obj.cells c 171 (0,0))) this
 have hr5 : (w4.setCell ⟨w.heap.size + 1,255,none⟩ (.int .u8 165)).heap[w.heap.size]? = some (.cells (Lib.byteCells Z0).toArray 171 (0,0)) :=
   (Below.heap_setCell w4 ⟨w.heap.size + 1,255,none⟩ _ w.heap.size (by show w.heap.size ≠ w.heap.size + 1; omega)).trans ((HL4.out.block _ (Array.getElem?_eq_some_iff.1 HR0.out).1 (by show w.heap.size ≠ w.heap.size + 1; omega)).trans HR0.out)
 have HB5 : Hid (Below w.heap.size w (w4.setCell ⟨w.heap.size + 1,255,none⟩ (.int .u8 165))) := HB0.out.trans ((HL4.out.trans (Loc.setCell w4 ⟨w.heap.size + 1,255,none⟩ _ rfl)).below (fun k hk => by subst hk; omega) (HB0.out.size))
 have HH5 := hide hh5
 have HR5 := hide hr5
 clear h4 hh5 hr5 hz
 have HZ1 : Hid ((Lib.byteCells Z0).toArray.size = 256) := by unfold Hid; rw [List.size_toArray,HZs.out]
 have HT1 : Hid ((tc (headT g t)).toArray.size = 256) := by unfold Hid; rw [List.size_toArray,tc_length,headT_size]
 have HOne := hide (tone (headT g t))
 generalize hDD : (tc (headT g t)).toArray = D at *
 have HDD := hide hDD
 clear hDD
 generalize (Lib.byteCells Z0).toArray = Z at *
 go_upto_region 6 with fail
 have hset : (w4.setCell ⟨w.heap.size + 1,255,none⟩ (.int .u8 165)).heap.size = w4.heap.size := by simp [World.setCell]
 generalize w4.setCell ⟨w.heap.size + 1,255,none⟩ (.int .u8 165) = W5 at *
 have HE : Hid (Below w.heap.size w (W5.setRow w.heap.size D)) := Frm.below_setRow HB5.out (Nat.le_refl _) D
 have HEh : Hid ((W5.setRow w.heap.size D).heap[w.heap.size]? = some (.cells D 171 (0,0))) := setRow_heap W5 w.heap.size Z D 171 (0,0) HR5.out
 apply wp_region_lit
 refine wpList_load_row rfl 171 (.tmp 5) rfl (w.heap.size + 1) rfl 171 D (0,0) _ HH5.out Tryz.underlying171 rfl (by rw [HT1.out]; exact size89) ?_
 refine wpList_store_row rfl 171 (.tmp 4) (.tmp 20) rfl w.heap.size D rfl rfl 171 Z HR5.out (by rw [HT1.out]; exact size89) (by rw [HT1.out,HZ1.out]) HOne.out ?_
 apply wpList_nil
 generalize W5.setRow w.heap.size D = W6 at *
 go_wp2_with fail
 (try simp only [Exit.inBlock,Exit.then])
 exact bodyPost_ret (results_cell_row Tryz.results111 _ _ w.heap.size 171 D (0,0) _ rfl HEh.out Tryz.underlying171 rfl (by rw [HT1.out]; exact size89)) rfl ⟨congrArg (fun c => Ending.returned (.agg c)) HDD.out.symm,HE.out⟩
theorem num_step (l : List UInt8) (off k : Nat) (h : off + k < l.length) : numL ((l.drop off).take (k + 1)) = numL ((l.drop off).take k) + l[off + k].toNat * 256 ^ k := by
 have hd : k < (l.drop off).length := by rw [List.length_drop]; omega
 have e : (l.drop off)[k] = l[off + k] := List.getElem_drop ..
 have hm : (List.take k (l.drop off)).length = k := by rw [List.length_take]; omega
 rw [List.take_succ_eq_append_getElem hd,numL_snoc,hm,e]
theorem or_step (x k : Nat) (b : UInt8) (hx : x < 256 ^ k) (hk : k < 8) : bits .or .u64 (x : Int) (IntKind.u64.wrap (IntKind.u64.wrap ((b.toNat : Nat) : Int) * 2 ^ (8 * k))) = ((x + b.toNat * 256 ^ k : Nat) : Int) := by
 have hb := b.toNat_lt
 have hp : 256 ^ k <= 256 ^ 7 := Nat.pow_le_pow_right (by decide) (by omega)
 have hm : b.toNat * 256 ^ k <= 255 * 256 ^ 7 := Nat.mul_le_mul (by omega) hp
 have hm2 : b.toNat * 256 ^ k < 18446744073709551616 := Nat.lt_of_le_of_lt hm (by decide)
 have hx2 : x < 18446744073709551616 := Nat.lt_of_lt_of_le hx (Nat.le_trans hp (by decide))
 have e1 : (2 : Int) ^ (8 * k) = ((256 ^ k : Nat) : Int) := by
   rw [show (256 : Nat) = 2 ^ 8 from rfl, <- Nat.pow_mul]
   simp
 have e2 : IntKind.u64.wrap ((b.toNat : Nat) : Int) = ((b.toNat : Nat) : Int) := by rw [IntKind.wrap_u64]; omega
 have e3 : IntKind.u64.wrap (((b.toNat * 256 ^ k : Nat) : Nat) : Int) = ((b.toNat * 256 ^ k : Nat) : Int) := by rw [IntKind.wrap_u64]; omega
 rw [e2,e1, <- Int.natCast_mul,e3,u64_or_nat _ _ hx2 hm2]
 have h3 := nat_join (8 * k) (b.toNat * 256 ^ k) x (by rw [show (256 : Nat) = 2 ^ 8 from rfl, <- Nat.pow_mul]; exact Nat.mul_mod_left _ _) (by rw [Nat.pow_mul]; exact hx)
 rw [Nat.or_comm,h3,Nat.add_comm]
set_option maxRecDepth 10000 in
set_option maxHeartbeats 1000000 in
theorem number_any (g off c len : Nat) (l : List UInt8) (ty : TypeId) (w : World) (hg : w.heap[g]? = some (.cells (Lib.byteCells l).toArray ty (0,0))) (hl : off + len <= l.length) (h8 : len <= 8) :
   Calls Tryz.prog 113 #[.slice (some ⟨g,off,none⟩) len c] w fun e w' => e = .returned (.int .u64 ((numL ((l.drop off).take len) : Nat) : Int)) /\ w' = w := by
 have HL := hide hl
 have HG := hide hg
 clear hl hg
 go_enter Tryz.func113,Tryz.ntmps113
 go_wp2_with fail
 go_loopw [3,4,7] (fun n _ i wr => ∃ k : Nat,k <= len /\ i = .int .i64 (k : Int) /\ n = .int .u64 ((numL ((l.drop off).take k) : Nat) : Int) /\ wr = w) (fun _ _ i _ => len - (intOf i).toNat)
 case atStart => exact ⟨0,Nat.zero_le _,rfl,rfl,rfl⟩
 case round =>
   obtain ⟨k,hk,rfl,rfl,hw⟩ := hrel
   obtain rfl := hw
   by_cases hlt : k < len
   · have hk8 : k < 8 := by omega
     have hin : off + k < l.length := by have := HL.out; omega
     have hh := HG.out
     have hc : wr.cell? ⟨g,off + k,none⟩ = some (.int .u8 ((l[off + k].toNat : Nat) : Int)) := by
       simp [World.cell?,hh,Lib.byteCells,hin]
     have hw1 : wrap64 (8 * (k : Int)) = 8 * (k : Int) := by unfold wrap64; omega
     have h80 : ¬ (8 * (k : Int) < 0) := by omega
     clear hh
     have HX := hide (num_step l off k hin)
     have hx2 := numL_lt ((l.drop off).take k)
     have hlk : ((l.drop off).take k).length = k := by rw [List.length_take,List.length_drop]; omega
     rw [hlk] at hx2
     have HO := hide (fun x (hx : x < 256 ^ k) => or_step x k l[off + k] hx hk8)
     have HX2 := hide hx2
     clear hx2 hlk
     generalize numL ((l.drop off).take k) = x at *
     go_wp2
     refine ⟨⟨k + 1,hlt,by go_num,?_,trivial⟩,?_⟩
     · rw [HO.out x HX2.out,HX.out]
     · simp [intOf]; omega
   · have hke : k = len := by omega
     subst hke
     have hz : ¬ ((k : Int) < (k : Int)) := by omega
     go_wp2
     go_ret
     exact ⟨rfl,rfl⟩
end Go.Proofs.YtchhojkhfdkhfaaGreatDoor
namespace Go.Proofs.YtchhojkhfdkhfaaGreatDoor
open Go Go.RowKit
theorem part_byte (X : List UInt8) (i : Nat) (h : i < X.length) (w : World) : (part 5 (Lib.byteCells X).toArray (i * 1)).run Tryz.prog w = .ok (.int .u8 ((X[i].toNat : Nat) : Int)) w := by
 have u5 := Tryz.underlying5
 have a5 := Tryz.isAgg5
 have z5 := Tryz.sizeOf5
 have e : (Lib.byteCells X).toArray[i]? = some (.int .u8 ((X[i].toNat : Nat) : Int)) := by
   unfold Lib.byteCells
   rw [List.getElem?_toArray,List.getElem?_map,List.getElem?_eq_getElem h]
   rfl
 rw [Nat.mul_one]
 unfold part
 simp [Sem.run_bind,a5,z5,e]
theorem items_bytes (d : Nat) (X Y : List UInt8) (w : World) : ∀ (is : List Nat),(∀ i ∈ is,i < X.length /\ i < Y.length) -> (Op.eqItems (d + 1) 5 1 (Lib.byteCells X).toArray (Lib.byteCells Y).toArray is).run Tryz.prog w = .ok (decide (∀ i ∈ is,X[i]? = Y[i]?)) w
 | [],_ => by simp [Op.eqItems]
 | i :: is,h => by
   have hi := h i (by simp)
   have ih := items_bytes d X Y w is (fun j hj => h j (by simp [hj]))
   have he := run_equalIn_int (P := Tryz.prog) w d 5 .u8 .u8 ((X[i].toNat : Nat) : Int) ((Y[i].toNat : Nat) : Int) Tryz.underlying5
   simp only [Op.eqItems,Sem.run_bind,part_byte X i hi.1 w,part_byte Y i hi.2 w,Result.andThen_ok]
   rw [he]
   simp only [Result.andThen_ok]
   by_cases e : X[i] = Y[i]
   · have e2 : ((X[i].toNat : Nat) : Int) = ((Y[i].toNat : Nat) : Int) := by rw [e]
     have e3 : X[i]? = Y[i]? := by rw [List.getElem?_eq_getElem hi.1,List.getElem?_eq_getElem hi.2,e]
     rw [e2]
     simp only [beq_self_eq_true,Bool.not_true,Bool.false_eq_true,if_false]
     rw [ih]
     refine congrArg (fun b => Result.ok b w) (decide_eq_decide.2 ?_)
     simp [e3]
   · have e2 : ¬ ((X[i].toNat : Nat) : Int) = ((Y[i].toNat : Nat) : Int) := fun h => e (UInt8.toNat_inj.1 (by omega))
     have e3 : ¬ X[i]? = Y[i]? := by rw [List.getElem?_eq_getElem hi.1,List.getElem?_eq_getElem hi.2]; simpa using e
     have e4 : (((X[i].toNat : Nat) : Int) == ((Y[i].toNat : Nat) : Int)) = false := beq_eq_false_iff_ne.2 e2
     rw [e4]
     simp [e3]
theorem eq89 (X Y : List UInt8) (w : World) (hX : X.length = 256) (hY : Y.length = 256) : (Op.equalIn 10000 171 (.agg (Lib.byteCells X).toArray) (.agg (Lib.byteCells Y).toArray)).run Tryz.prog w = .ok (decide (X = Y)) w := by
 obtain ⟨i0,hi,_,_,_⟩ := info_parts (P := Tryz.prog) (e := 5) (z := .int .u8 0) (size := 1) (bytes := 1) (by kernel_rfl)
 have hu : Tryz.prog.underlying 171 = some (.array 256 5) := by kernel_rfl
 have hc : Tryz.prog.cellsOf 5 = 1 := by kernel_rfl
 have h1 := run_equalIn_array w 9999 (Lib.byteCells X).toArray (Lib.byteCells Y).toArray hu hi
 rw [hc] at h1
 refine h1.trans ((items_bytes 9998 X Y w (List.range 256) (fun i hi => by rw [List.mem_range] at hi; omega)).trans ?_)
 refine congrArg (fun b => Result.ok b w) (decide_eq_decide.2 ?_)
 constructor
 · intro h
   apply List.ext_getElem?
   intro i
   by_cases hi : i < 256
   · exact h i (List.mem_range.2 hi)
   · rw [List.getElem?_eq_none (by omega),List.getElem?_eq_none (by omega)]
 · rintro rfl i _
   rfl
end Go.Proofs.YtchhojkhfdkhfaaGreatDoor
