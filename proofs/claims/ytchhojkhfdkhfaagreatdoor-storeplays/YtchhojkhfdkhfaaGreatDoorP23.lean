/- Joined texts. -/
import Derived.Test.YtchhojkhfdkhfaaGreatDoorP18
import Derived.Test.YtchhojkhfdkhfaaGreatDoorP01
import Derived.Test.YtchhojkhfdkhfaaGreatDoorP22
import Derived.Test.YtchhojkhfdkhfaaGreatDoorP06
import Derived.Test.YtchhojkhfdkhfaaGreatDoorP19
import Derived.Laws.CopyRow
namespace Go.Proofs.YtchhojkhfdkhfaaGreatDoor
open Go Go.RowKit Frm
theorem byteAt_get (d : ByteArray) (i : Nat) (h : i < d.size) : byteAt d i = some d[i] := by
 unfold byteAt
 simp [h]
 rfl
theorem count_get (d : ByteArray) (h : d.size = 256) : wrap64 ((d[255].toNat : Nat) : Int) = ((countOf d : Nat) : Int) := by
 have h1 : d[255].toNat < 256 := UInt8.toNat_lt _
 have h2 : countOf d = d[255].toNat := by unfold countOf; rw [byteAt_get d 255 (by omega)]; rfl
 rw [h2]
 unfold wrap64
 omega
set_option maxHeartbeats 400000 in
theorem count_any (d : ByteArray) (w : World) (h : d.size = 256) :
   Calls Tryz.prog 143 #[.string d] w fun e w' => e = .returned (.int .i64 ((countOf d : Nat) : Int)) /\ w' = w := by
 have hz := count_get d h
 go_enter Tryz.func143,Tryz.ntmps143
 go_wp2
 go_ret
 exact ⟨congrArg (fun x => Ending.returned (.int .i64 x)) hz,rfl⟩
set_option maxHeartbeats 400000 in
theorem ends_any (d : ByteArray) (w : World) (h : d.size = 256) :
   Calls Tryz.prog 118 #[.string d] w fun e w' => e = .returned (.bool (decide (countOf d < 255))) /\ w' = w := by
 have K := hide (count_any d w h)
 go_enter Tryz.func118,Tryz.ntmps118
 go_wp2_with fail
 refine K.out.mono ?_
 rintro e w1 ⟨rfl,rfl⟩
 go_wp2
 go_ret
 exact ⟨congrArg (fun x => Ending.returned (.bool x)) (decide_eq_decide.2 (by omega)),rfl⟩
set_option maxHeartbeats 400000 in
theorem never_any (d : ByteArray) (w : World) :
   Calls Tryz.prog 121 #[.string d] w fun e w' => e = .returned (.bool false) /\ w' = w := by
 go_enter Tryz.func121,Tryz.ntmps121
 go_wp2
 go_ret
 exact ⟨rfl,rfl⟩
def tailOf (s : ByteArray) : ByteArray := s.extract (s.size - s.size % 255) s.size
set_option maxHeartbeats 400000 in
theorem tail_any (s : ByteArray) (w : World) (h : s.size <= 281474976710656) :
   Calls Tryz.prog 123 #[.string s] w fun e w' => e = .returned (.string (tailOf s)) /\ Below w.heap.size w w' := by
 have K := hide (clone_any (tailOf s) w (by unfold tailOf; rw [ByteArray.size_extract]; omega))
 unfold tailOf at *
 go_enter Tryz.func123,Tryz.ntmps123
 go_wp2_with fail
 refine K.out.mono ?_
 rintro e w1 ⟨rfl,hb⟩
 have HB := hide hb
 clear hb
 go_wp2
 go_ret
 exact ⟨rfl,HB.out⟩
set_option maxHeartbeats 400000 in
theorem blocks_any (s : ByteArray) (w : World) :
   Calls Tryz.prog 106 #[.string s] w fun e w' => e = .returned (.func (.func 129) #[] #[.pointer (some ⟨w.heap.size,0,none⟩)]) /\ w' = w.alloc (.cells #[.string s] 9) := by
 go_enter Tryz.func106,Tryz.ntmps106
 go_wp2
 go_ret
 exact ⟨rfl,rfl⟩
def LAt (u : World) (p q o n : Nat) (s : ByteArray) (b : Bool) : Prop :=
 u.heap[p]? = some (.cells #[.pointer (some ⟨q,0,none⟩),.int .i64 (o : Int),.int .i64 (n : Int),.int .i64 (s.size : Int),.string (tailOf s),.bool b] 187 (0,0))
theorem LAt.lt {u : World} {p q o n : Nat} {s : ByteArray} {b : Bool} (h : LAt u p q o n s b) : p < u.heap.size := (Array.getElem?_eq_some_iff.1 h).1
theorem LAt.same {u v : World} {p q o n : Nat} {s : ByteArray} {b : Bool} (h : LAt u p q o n s b) (hv : v.heap[p]? = u.heap[p]?) : LAt v p q o n s b := hv.trans h
theorem LAt.c0 {u : World} {p q o n : Nat} {s : ByteArray} {b : Bool} (h : LAt u p q o n s b) : u.cell? ⟨p,0,none⟩ = some (.pointer (some ⟨q,0,none⟩)) := by simp [World.cell?,show u.heap[p]? = _ from h]
theorem LAt.c1 {u : World} {p q o n : Nat} {s : ByteArray} {b : Bool} (h : LAt u p q o n s b) : u.cell? ⟨p,1,none⟩ = some (.int .i64 (o : Int)) := by simp [World.cell?,show u.heap[p]? = _ from h]
theorem LAt.c2 {u : World} {p q o n : Nat} {s : ByteArray} {b : Bool} (h : LAt u p q o n s b) : u.cell? ⟨p,2,none⟩ = some (.int .i64 (n : Int)) := by simp [World.cell?,show u.heap[p]? = _ from h]
theorem LAt.c3 {u : World} {p q o n : Nat} {s : ByteArray} {b : Bool} (h : LAt u p q o n s b) : u.cell? ⟨p,3,none⟩ = some (.int .i64 (s.size : Int)) := by simp [World.cell?,show u.heap[p]? = _ from h]
theorem LAt.c4 {u : World} {p q o n : Nat} {s : ByteArray} {b : Bool} (h : LAt u p q o n s b) : u.cell? ⟨p,4,none⟩ = some (.string (tailOf s)) := by simp [World.cell?,show u.heap[p]? = _ from h]
theorem LAt.c5 {u : World} {p q o n : Nat} {s : ByteArray} {b : Bool} (h : LAt u p q o n s b) : u.cell? ⟨p,5,none⟩ = some (.bool b) := by simp [World.cell?,show u.heap[p]? = _ from h]
theorem LAt.free {u : World} {p q o n : Nat} {s : ByteArray} {b : Bool} (h : LAt u p q o n s b) (i : Nat) : u.frozen? ⟨p,i,none⟩ = false := by simp [World.frozen?,show u.heap[p]? = _ from h]
theorem room_wrap {n m : Nat} (hn : n <= 4096) (hm : m <= n * 255) : wrap64 ((n : Int) * 255) = (n : Int) * 255 /\ wrap64 ((n : Int) * 255 - (m : Int)) = (n : Int) * 255 - (m : Int) := by
 unfold wrap64
 omega
set_option maxHeartbeats 400000 in
theorem room_any (p q o n : Nat) (s : ByteArray) (b : Bool) (w : World) (h : LAt w p q o n s b) (hn : n <= 4096) (hs : s.size <= n * 255) :
   Calls Tryz.prog 194 #[.pointer (some ⟨p,0,none⟩)] w fun e w' => e = .returned (.int .i64 ((n : Int) * 255 - (s.size : Int))) /\ ∃ q,w' = w.drewN q := by
 have h2 := h.c2
 have h3 := h.c3
 obtain ⟨hz1,hz2⟩ := room_wrap hn hs
 have HS := hide hs
 have HN := hide hn
 clear h hs hn
 go_enter Tryz.func194,Tryz.ntmps194
 go_wp2_with fail
 go_quiet (fail)
 go_wp2
 go_ret
 exact ⟨congrArg (fun x => Ending.returned (.int .i64 x)) hz2,_,rfl⟩
set_option maxHeartbeats 400000 in
theorem fault_any (q : Nat) (o n : Int) (st : St) (F : Nat -> Prop) (w : World) (h : DAt w q st F) (hok : st.Ok) (hn : -9223372036854775808 <= n /\ n <= 9223372036854775807) :
   Calls Tryz.prog 105 #[.agg #[.pointer (some ⟨q,0,none⟩),.int .i64 o,.int .i64 n]] w fun e w' => e = .returned (.int .i64 (if st.may o n then 0 else 2)) /\ Below w.heap.size w w' := by
 have hl1 := hok.some
 have hl2 := hok.few
 have HB0 := hide ((Below.refl w.heap.size w).alloc (Nat.le_refl _) (.cells #[.pointer (some ⟨q,0,none⟩),.int .i64 o,.int .i64 n] 163))
 have K := hide (con.size q st F _ (con.below h HB0.out) hok)
 have hsz : w.heap.size < (w.alloc (.cells #[.pointer (some ⟨q,0,none⟩),.int .i64 o,.int .i64 n] 163)).heap.size := by simp
 have hcell : ∀ w1,Below (w.alloc (.cells #[.pointer (some ⟨q,0,none⟩),.int .i64 o,.int .i64 n] 163)).heap.size (w.alloc (.cells #[.pointer (some ⟨q,0,none⟩),.int .i64 o,.int .i64 n] 163)) w1 -> w1.cell? ⟨w.heap.size,1,none⟩ = some (.int .i64 o) /\ w1.cell? ⟨w.heap.size,2,none⟩ = some (.int .i64 n) := fun w1 hb => by
   have hh : w1.heap[w.heap.size]? = some (.cells #[.pointer (some ⟨q,0,none⟩),.int .i64 o,.int .i64 n] 163 (0,0)) := (hb.block _ hsz).trans (World.alloc_heap_new w _)
   exact ⟨by simp [World.cell?,hh],by simp [World.cell?,hh]⟩
 have HC := hide hcell
 clear hcell
 have hne : ¬ ((st.sure.length : Int) = 0) := by omega
 have HO := hide (And.intro h hok)
 clear h hok
 generalize hm : (if st.may o n then (0 : Int) else 2) = r
 have HM := hide hm
 clear hm
 go_enter Tryz.func105,Tryz.ntmps105
 go_wp2_with fail
 refine K.out.mono ?_
 rintro e w1 ⟨rfl,hb⟩
 have HB := hide (HB0.out.trans (hb.mono (by simp)))
 obtain ⟨hc1,hc2⟩ := HC.out w1 hb
 clear hb
 have HL := hide (And.intro hl1 hl2)
 by_cases h1 : n < 1
 · have hM : r = 2 := by rw [<- HM.out,if_neg (fun h => by unfold St.may at h; omega)]
   subst hM
   clear hl1 hl2
   go_wp2
   go_ret
   exact ⟨rfl,HB.out⟩
 · by_cases h2 : o < 0
   · have hM : r = 2 := by rw [<- HM.out,if_neg (fun h => by unfold St.may at h; omega)]
     subst hM
     clear hl1 hl2
     go_wp2
     go_ret
     exact ⟨rfl,HB.out⟩
   · have hz : wrap64 ((st.sure.length : Int) - n) = (st.sure.length : Int) - n := by unfold wrap64; omega
     by_cases h3 : (st.sure.length : Int) - n < o
     · have hM : r = 2 := by rw [<- HM.out,if_neg (fun h => by unfold St.may at h; omega)]
       subst hM
       clear hl1 hl2
       go_wp2
       go_ret
       exact ⟨rfl,HB.out⟩
     · have hM : r = 0 := by rw [<- HM.out,if_pos (by unfold St.may; omega)]
       subst hM
       clear hl1 hl2
       go_wp2
       go_ret
       exact ⟨rfl,HB.out⟩
theorem run_copy_some {P : Program} (w : World) (dT sT ty elem : TypeId) (g o dLen dCap : Nat) (s : ByteArray) (cur : Array Value) (t : TypeId)
   (hu : P.underlying dT = some (.slice elem)) (hs : (P.info? elem).map (·.size) = some 1) (hg : w.heap[g]? = some (.cells cur t (0,0))) (m : Nat) (hm : Nat.min s.size dLen = m) (hfit : o + m <= cur.size) :
   (Builtin.copy_ #[dT,sT] ty #[.slice (some ⟨g,o,none⟩) dLen dCap,.string s]).run P w =
     .ok (goInt m) (w.setRow g (cur.toList.take o ++ Lib.byteCells (s.data.toList.take m) ++ cur.toList.drop (o + m)).toArray) := by
 have hms : m <= s.size := by rw [<- hm]; exact Nat.min_le_left _ _
 have hlen : (Lib.byteCells (s.data.toList.take m)).length = m := by
   rw [Lib.byteCells_length,List.length_take, <- Lib.size_eq]; omega
 have hst := run_storeCells_at P g o t (Lib.byteCells (s.data.toList.take m)) 0 cur w hg (by rw [hlen]; simpa using hfit) (Lib.byteCells_one _)
 have htk : List.take m (List.map (fun b : UInt8 => Value.int IntKind.u8 (b.toNat : Int)) s.data.toList) = Lib.byteCells (s.data.toList.take m) := by
   rw [<- List.map_take]
   rfl
 rw [hlen] at hst
 simp only [Nat.add_zero] at hst
 cases hq : P.info? elem with
 | none => simp [hq] at hs
 | some i =>
   simp [Builtin.copy_,run_underlying hu,Builtin.lenOf,Builtin.firstCells,sizeOf,typeInfo,hq,hm]
   rw [htk,hst]
   simp [Result.andThen]
theorem z78_eq : Tryz.zeroCells89 = (List.replicate 256 (Value.int .u8 0)).toArray := by kernel_rfl
def ahead (s : ByteArray) (k : Nat) : List UInt8 := (s.extract (min (k * 255) s.size) s.size).data.toList.take (cnt k s.size) ++ List.replicate (256 - cnt k s.size) 0
theorem ahead_len (s : ByteArray) (k : Nat) : (ahead s k).length = 256 := by
 have h1 := cnt_le k s.size
 have h2 : cnt k s.size <= s.size - k * 255 := by unfold cnt; omega
 unfold ahead
 rw [List.length_append,List.length_take,List.length_replicate,Array.length_toList]
 have : (s.extract (min (k * 255) s.size) s.size).data.size = (s.extract (min (k * 255) s.size) s.size).size := rfl
 rw [this,ByteArray.size_extract]
 omega
theorem ahead_blk (s : ByteArray) (k : Nat) : (⟨((ahead s k).set 255 (UInt8.ofNat (cnt k s.size))).toArray⟩ : ByteArray) = blkOf s k := by
 have h1 := cnt_le k s.size
 have h2 : cnt k s.size = min 255 (s.size - k * 255) := rfl
 have hb := blk_list s k (min (k * 255) s.size) (min (min (k * 255) s.size + 255) s.size) rfl rfl
 have hc : min (min (k * 255) s.size + 255) s.size - min (k * 255) s.size = cnt k s.size := by omega
 rw [hc] at hb
 rw [<- hb]
 have hl : ((s.extract (min (k * 255) s.size) s.size).data.toList.take (cnt k s.size)) = (s.extract (min (k * 255) s.size) (min (min (k * 255) s.size + 255) s.size)).data.toList := by
   rw [ByteArray.data_extract,ByteArray.data_extract,Array.toList_extract,Array.toList_extract]
   have : s.data.toList.length = s.size := by rw [Array.length_toList]; rfl
   simp only [List.extract_eq_take_drop]
   rw [List.take_take]
   congr 1
   omega
 congr 2
 unfold ahead
 rw [hl,List.set_append_right _ _ (by rw [<- hl,List.length_take]; omega)]
 have hlen : (s.extract (min (k * 255) s.size) (min (min (k * 255) s.size + 255) s.size)).data.toList.length = cnt k s.size := by
   rw [Array.length_toList]
   have : (s.extract (min (k * 255) s.size) (min (min (k * 255) s.size + 255) s.size)).data.size = (s.extract (min (k * 255) s.size) (min (min (k * 255) s.size + 255) s.size)).size := rfl
   rw [this,ByteArray.size_extract]
   omega
 rw [hlen,List.append_assoc]
 congr 1
 rw [show 256 - cnt k s.size = (255 - cnt k s.size) + 1 from by omega,List.replicate_succ',List.set_append_right _ _ (by rw [List.length_replicate]; exact Nat.le_refl _),List.length_replicate,Nat.sub_self]
 rfl
theorem bc_replicate (n : Nat) : List.replicate n (Value.int .u8 0) = Lib.byteCells (List.replicate n 0) := by
 unfold Lib.byteCells
 rw [List.map_replicate]
 rfl
theorem bc_append (a b : List UInt8) : Lib.byteCells a ++ Lib.byteCells b = Lib.byteCells (a ++ b) := by unfold Lib.byteCells; rw [List.map_append]
theorem copy78 (w : World) (s : ByteArray) (k : Nat) (ty : TypeId) : (Builtin.copy_ #[77,9] ty #[.slice (some ⟨w.heap.size,0,none⟩) 255 256,.string (s.extract (min (k * 255) s.size) s.size)]).run Tryz.prog (w.alloc (.cells Tryz.zeroCells89 89)).drew =
   .ok (goInt (cnt k s.size)) (w.alloc (.cells (Lib.byteCells (ahead s k)).toArray 89)).drew := by
 have h1 := cnt_le k s.size
 have h2 : cnt k s.size = min 255 (s.size - k * 255) := rfl
 have hg : (w.alloc (.cells Tryz.zeroCells89 89)).drew.heap[w.heap.size]? = some (.cells Tryz.zeroCells89 89 (0,0)) := World.alloc_heap_new w _
 have hsz : Tryz.zeroCells89.size = 256 := by rw [z78_eq,List.size_toArray,List.length_replicate]
 have h := run_copy_some (P := Tryz.prog) (w.alloc (.cells Tryz.zeroCells89 89)).drew 77 9 ty 5 w.heap.size 0 255 256 (s.extract (min (k * 255) s.size) s.size) Tryz.zeroCells89 89 Tryz.underlying77 size5 hg (cnt k s.size) (by rw [ByteArray.size_extract]; show min _ _ = _; omega) (by rw [hsz]; omega)
 have hrow : (Tryz.zeroCells89.toList.take 0 ++ Lib.byteCells ((s.extract (min (k * 255) s.size) s.size).data.toList.take (cnt k s.size)) ++ Tryz.zeroCells89.toList.drop (0 + cnt k s.size)).toArray = (Lib.byteCells (ahead s k)).toArray := by
   rw [z78_eq,List.take_zero,List.nil_append,Nat.zero_add,List.drop_replicate,bc_replicate,bc_append]
   rfl
 rw [hrow] at h
 have e : (w.alloc (.cells Tryz.zeroCells89 89)).drew.setRow w.heap.size (Lib.byteCells (ahead s k)).toArray = (w.alloc (.cells (Lib.byteCells (ahead s k)).toArray 89)).drew := by
   have h1 : (w.alloc (.cells Tryz.zeroCells89 89)).drew.setRow w.heap.size (Lib.byteCells (ahead s k)).toArray = ((w.alloc (.cells Tryz.zeroCells89 89)).setRow w.heap.size (Lib.byteCells (ahead s k)).toArray).drew := rfl
   rw [h1,World.setRow_alloc_new]
 rw [h,e]
theorem made78 (w : World) (s : ByteArray) (k : Nat) : ∃ W,(w.alloc (.cells (Lib.byteCells (ahead s k)).toArray 89)).drew = W /\ (∃ v,W.cell? ⟨w.heap.size,255,none⟩ = some v) /\ W.frozen? ⟨w.heap.size,255,none⟩ = false /\ (∀ B,B < w.heap.size -> W.heap[B]? = w.heap[B]?) /\
   (convert 77 9 (.slice (some ⟨w.heap.size,0,none⟩) 256 256)).run Tryz.prog (W.setCell ⟨w.heap.size,255,none⟩ (.int .u8 ((cnt k s.size : Nat) : Int))) = .ok (.string (blkOf s k)) (W.setCell ⟨w.heap.size,255,none⟩ (.int .u8 ((cnt k s.size : Nat) : Int))) /\
   Below w.heap.size w (W.setCell ⟨w.heap.size,255,none⟩ (.int .u8 ((cnt k s.size : Nat) : Int))) := by
 have hl := ahead_len s k
 have hW : (w.alloc (.cells (Lib.byteCells (ahead s k)).toArray 89)).drew.heap[w.heap.size]? = some (.cells (Lib.byteCells (ahead s k)).toArray 89 (0,0)) := World.alloc_heap_new w _
 refine ⟨_,rfl,⟨(Lib.byteCells (ahead s k))[255]'(by rw [Lib.byteCells_length,hl]; omega),?_⟩,free_of hW 255,fun B hB => Below.heap_alloc w _ B hB,?_,(((Below.refl _ _).alloc (Nat.le_refl _) _).drew).setCell (Nat.le_refl _) _⟩
 · rw [cell_of_row _ _ _ _ _ _ hW]; simp [Lib.byteCells_length,hl]
 · have key := run_convert_bytes_back (P := Tryz.prog) ((w.alloc (.cells (Lib.byteCells (ahead s k)).toArray 89)).drew.setCell ⟨w.heap.size,255,none⟩ (.int .u8 ((cnt k s.size : Nat) : Int))) 77 9 5 ⟨w.heap.size,0,none⟩ 256 ((ahead s k).set 255 (UInt8.ofNat (cnt k s.size))) Tryz.underlying77 Tryz.underlying5 Tryz.underlying9 (fun j hj => by
     rw [List.length_set] at hj
     rw [add_at,cell_of_row _ _ _ _ _ _ (heap_set3 hW _)]
     have h1 := cnt_le k s.size
     by_cases e : j = 255
     · subst e
       simp only [List.getElem_set_self,Array.getElem?_setIfInBounds,if_true,List.size_toArray,Lib.byteCells_length,hl]
       rw [if_pos (by omega),UInt8.toNat_ofNat',Nat.mod_eq_of_lt (by omega)]
     · rw [List.getElem_set_ne (by omega)]
       simp only [Array.getElem?_setIfInBounds,if_neg (show ¬ 255 = j by omega),List.getElem?_toArray]
       unfold Lib.byteCells
       rw [List.getElem?_map,List.getElem?_eq_getElem hj]
       rfl)
   rw [List.length_set,hl] at key
   rw [key,ahead_blk]
set_option maxRecDepth 10000 in
set_option maxHeartbeats 2000000 in
theorem blk_any (s : ByteArray) (B i : Nat) (w : World) (hB : w.cell? ⟨B,0,none⟩ = some (.string s)) (hi : i <= 4096) :
   Calls Tryz.prog 129 #[.int .i64 (i : Int),.pointer (some ⟨B,0,none⟩)] w fun e w' => e = .returned (.string (blkOf s i)) /\ Below w.heap.size w w' := by
 have hz3 : IntKind.i64.wrap ((i : Int) * 255) = (i : Int) * 255 := by rw [IntKind.wrap_i64]; omega
 have hcp := copy78 w s i
 obtain ⟨lo,hlo⟩ : ∃ lo,lo = min (i * 255) s.size := ⟨_,rfl⟩
 have hmn : min ((i : Int) * 255) (s.size : Int) = (lo : Int) := by omega
 have hz4 : (0 : Int) <= (lo : Int) := by omega
 have hz5 : (lo : Int) <= (s.size : Int) := by omega
 rw [<- hlo] at hcp
 obtain ⟨W2,hW2,⟨v255,hc2⟩,hf2,hold2,hcv,hbl⟩ := made78 w s i
 rw [hW2] at hcp
 have hBlt : B < w.heap.size := World.block_lt_of_cell? w _ hB
 have hB0 : (w.alloc (.cells Tryz.zeroCells89 89)).cell? ⟨B,0,none⟩ = some (.string s) := (World.cell?_of_block (a := ⟨B,0,none⟩) (Below.heap_alloc w _ B hBlt)).trans hB
 have hB2 : W2.cell? ⟨B,0,none⟩ = some (.string s) := (World.cell?_of_block (a := ⟨B,0,none⟩) (hold2 B hBlt)).trans hB
 have hne : ¬ B = w.heap.size := by omega
 have hB3 : (W2.setCell ⟨w.heap.size,255,none⟩ (.int .u8 ((cnt i s.size : Nat) : Int))).cell? ⟨B,0,none⟩ = some (.string s) := (cell_set_ne W2 B 0 w.heap.size 255 _ hne).trans hB2
 have hk := cnt_le i s.size
 have hkz : IntKind.u8.wrap (((cnt i s.size : Nat) : Int)) = ((cnt i s.size : Nat) : Int) := by rw [IntKind.wrap_u8]; omega
 have HBL := hide hbl
 have HCV := hide hcv
 have HK := hide hk
 clear hbl hold2 hcv hBlt hB hW2 hk hlo
 generalize blkOf s i = R at *
 generalize cnt i s.size = k at *
 go_enter Tryz.func129,Tryz.ntmps129
 go_wp2_with fail
 have hB1 : (w.alloc (.cells Tryz.zeroCells89 89)).drew.cell? ⟨B,0,none⟩ = some (.string s) := hB0
 generalize w.alloc (.cells Tryz.zeroCells89 89) = W at *
 go_region_held3 (fun z => z.cell? ⟨B,0,none⟩ = some (.string s))
   (first | (with_reducible exact hB1) | (with_reducible exact hB2) | (with_reducible exact hB3))
   (fail)
 have hcv2 := HCV.out
 go_wp2
 go_ret
 exact ⟨rfl,HBL.out⟩
set_option maxHeartbeats 1000000 in
theorem are_any (l : List ByteArray) (B i : Nat) (a : Option Addr) (c : Nat) (w : World) (hB : w.cell? ⟨B,0,none⟩ = some (.slice a l.length c)) (hl : StrsAt w a l) (hi : i < l.length) (hn : l.length <= 4096) :
   Calls Tryz.prog 145 #[.int .i64 (i : Int),.pointer (some ⟨B,0,none⟩)] w fun e w' => e = .returned (.string l[i]) /\ Below w.heap.size w w' := by
 rcases hl with rfl | ⟨b,off,rfl,hc⟩
 · exact absurd hi (by simp)
 have h1 := hc i hi
 have hz : (i : Int) < (l.length : Int) := by omega
 clear hc
 go_enter Tryz.func145,Tryz.ntmps145
 go_wp2
 go_ret
 exact ⟨rfl,Below.refl _ _⟩
theorem cellB {w u : World} (h : Below w.heap.size w u) {a : Addr} {v : Value} (hc : w.cell? a = some v) : u.cell? a = some v := (h.cell (World.block_lt_of_cell? w _ hc)).trans hc
theorem oldS {w u : World} {x y z : Addr} {v0 v1 v2 : Value} (h0 : w.cell? x = some v0) (h1 : w.cell? y = some v1) (h2 : w.cell? z = some v2) (h : Below w.heap.size w u) : u.cell? x = some v0 /\ u.cell? y = some v1 /\ u.cell? z = some v2 /\ Below w.heap.size w u := ⟨cellB h h0,cellB h h1,cellB h h2,h⟩
set_option maxHeartbeats 1000000 in
theorem counted_any (l : List ByteArray) (s : ByteArray) (B Bm Bs i : Nat) (a : Option Addr) (c : Nat) (w : World) (hB : w.cell? ⟨B,0,none⟩ = some (.slice a l.length c)) (hM : w.cell? ⟨Bm,0,none⟩ = some (.func (.func 129) #[] #[.pointer (some ⟨Bs,0,none⟩)])) (hs : w.cell? ⟨Bs,0,none⟩ = some (.string s)) (hl : StrsAt w a l) (hi : i < l.length) (hn : l.length <= 4096) (h256 : l[i].size = 256) :
   Calls Tryz.prog 146 #[.int .i64 (i : Int),.pointer (some ⟨B,0,none⟩),.pointer (some ⟨Bm,0,none⟩)] w fun e w' => e = .returned (.string (recount l[i] s i)) /\ Below w.heap.size w w' := by
 rcases hl with rfl | ⟨b,off,rfl,hc⟩
 · exact absurd hi (by simp)
 have h1 := hc i hi
 have hz : (i : Int) < (l.length : Int) := by omega
 have hz0 : (0 : Int) <= (i : Int) := by omega
 clear hc
 have hb1 : (blkOf s i).size = 256 := blkOf_size s i
 have hR : recount l[i] s i = l[i].extract 0 255 ++ (blkOf s i).extract 255 256 := rfl
 have HB := hide hB
 have HM := hide hM
 have HS := hide hs
 have H1 := hide h1
 have HR := hide hR
 have hi4 : i <= 4096 := by omega
 have HC : Hid (∀ u,Below w.heap.size w u -> Calls Tryz.prog 129 #[.int .i64 (i : Int),.pointer (some ⟨Bs,0,none⟩)] u fun e w' => e = .returned (.string (blkOf s i)) /\ Below u.heap.size u w') := fun u hu => blk_any s Bs i u (cellB hu hs) hi4
 have HI := hide hi4
 clear hB hM hs h1 hR hi4
 generalize recount l[i] s i = R at *
 generalize blkOf s i = T at *
 generalize l[i] = C at *
 have hz5 : (255 : Int) <= (C.size : Int) := by omega
 have hz6 : (255 : Int) <= (T.size : Int) := by omega
 go_enter Tryz.func146,Tryz.ntmps146
 go_wp2_with fail
 go_region_held3 (fun z => z.cell? ⟨B,0,none⟩ = some (.slice (some ⟨b,off,none⟩) l.length c) /\ z.cell? ⟨Bm,0,none⟩ = some (.func (.func 129) #[] #[.pointer (some ⟨Bs,0,none⟩)]) /\ z.cell? ⟨b,off + i,none⟩ = some (.string C) /\ Below w.heap.size w z)
   (((with_reducible refine oldS HB.out HM.out H1.out ?_); first | (with_reducible exact (Below.refl _ _).drew) | ((with_reducible refine bnext ?_ hbc); go_split_ands; with_reducible assumption)))
   ((go_at_call 129; refine (HC.out _ (by go_split_ands; with_reducible assumption)).mono ?_; rintro e w1 ⟨rfl,hbc⟩))
 go_split_ands
 go_wp2
 go_ret
 exact ⟨by rw [HR.out]; rfl,by with_reducible assumption⟩
end Go.Proofs.YtchhojkhfdkhfaaGreatDoor
namespace Go.Proofs.YtchhojkhfdkhfaaGreatDoor
open Go Go.RowKit Frm Go.Shelf
attribute [local go_sem] Oper.semAt_some
def df (a b : Nat -> ByteArray) (n : Nat) : List (Nat × ByteArray) := wl 0 (prs n a b) 0
theorem wl_append (o : Nat) : ∀ (l m : List (ByteArray × ByteArray)) (i : Nat),wl o (l ++ m) i = wl o l i ++ wl o m (i + l.length)
 | [],m,i => by simp [wl]
 | x :: l,m,i => by
   rw [List.cons_append]
   have e1 : ∀ y : List (ByteArray × ByteArray),wl o (x :: y) i = if x.1 = x.2 then wl o y (i + 1) else (o + i,x.2) :: wl o y (i + 1) := fun _ => rfl
   rw [e1,e1,wl_append o l m (i + 1),List.length_cons,show i + 1 + l.length = i + (l.length + 1) from by omega]
   split
   · rfl
   · rfl
theorem df_succ (a b : Nat -> ByteArray) (k : Nat) : df a b (k + 1) = df a b k ++ (if a k = b k then [] else [(k,b k)]) := by
 unfold df
 have h : prs (k + 1) a b = prs k a b ++ [(a k,b k)] := by unfold prs; rw [List.range_succ,List.map_append]; rfl
 rw [h,wl_append,prs_length]
 congr 1
 unfold wl
 simp only [Nat.zero_add]
 split
 · rfl
 · rfl
theorem df_prefix (a b : Nat -> ByteArray) (k : Nat) : ∀ d,df a b k <+: df a b (k + d)
 | 0 => List.prefix_refl _
 | d + 1 => by
   rw [<- Nat.add_assoc,df_succ]
   exact (df_prefix a b k d).trans (List.prefix_append _ _)
theorem df_length (a b : Nat -> ByteArray) (k : Nat) : (df a b k).length <= k := by
 induction k with
 | zero => simp [df,prs,wl]
 | succ k ih =>
   rw [df_succ,List.length_append]
   split
   · simp; omega
   · simp; omega
theorem toList_ne {s t : ByteArray} (h : s ≠ t) : (s.toList == t.toList) = false := by
 rw [beq_eq_false_iff_ne]
 intro e
 rw [Lib.toList_data,Lib.toList_data] at e
 exact h (ByteArray.ext (Array.toList_inj.1 e))
def encD (x : Nat × ByteArray) : Array Value := #[.int .i64 (x.1 : Int),.string x.2]
def Kpt (K : Nat -> Prop) (A B : World) : Prop := ∀ k,K k -> B.heap[k]? = A.heap[k]?
theorem Kpt.cell {K : Nat -> Prop} {A B : World} (h : Kpt K A B) {b o : Nat} {v : Value} (hb : K b) (hc : A.cell? ⟨b,o,none⟩ = some v) : B.cell? ⟨b,o,none⟩ = some v := (World.cell?_of_block (a := ⟨b,o,none⟩) (h b hb)).trans hc
theorem Kpt.below {K : Nat -> Prop} {A B C : World} (h : Kpt K A B) (hK : ∀ k,K k -> k < A.heap.size) (hs : A.heap.size <= B.heap.size) (hb : Below B.heap.size B C) : Kpt K A C := fun k hk => (hb.block k (Nat.lt_of_lt_of_le (hK k hk) hs)).trans (h k hk)
theorem Kpt.trans {K : Nat -> Prop} {A B C : World} (h : Kpt K A B) (k : Kpt K B C) : Kpt K A C := fun i hi => (k i hi).trans (h i hi)
set_option maxHeartbeats 1000000 in
theorem differing_in (m q : Nat) (o n : Int) (gw gn : Nat) (lw ln : Array Value) (w : World) :
   CallsIn Fence.wide m Tryz.prog 166 #[.agg #[.pointer (some ⟨q,0,none⟩),.int .i64 o,.int .i64 n],.func (.func gw) #[] lw,.func (.func gn) #[] ln] w fun e w' => e = .returned (.func (.func 172) #[] #[.pointer (some ⟨w.heap.size,0,none⟩),.pointer (some ⟨w.heap.size + 1 + 1,0,none⟩),.pointer (some ⟨w.heap.size + 1,0,none⟩)]) /\ w' = ((w.alloc (.cells #[.pointer (some ⟨q,0,none⟩),.int .i64 o,.int .i64 n] 163)).alloc (.cells #[.func (.func gw) #[] lw] 165)).alloc (.cells #[.func (.func gn) #[] ln] 165) := by
 refine callsIn_of_wp Tryz.func166 rfl trivial ?_ rfl
 simp only [Tryz.ntmps166,List.size_toArray,List.length_cons,List.length_nil,Nat.reduceAdd,Nat.reduceSub,Array.replicate_succ,Array.replicate_zero,List.push_toArray,List.append_toArray,List.nil_append,List.cons_append]
 gi_wp2
 go_ret
 exact ⟨rfl,rfl⟩
attribute [local go_sem] Oper.semAt_some
set_option maxRecDepth 100000 in
set_option maxHeartbeats 2000000 in
theorem diff1_71_72 (n : Nat) (_hn : 1 <= n) (l Ba Bn Bw N pw0 pn0 pn1 : Nat) (K : Nat -> Prop) (a b : Nat -> ByteArray) (J Jx : List (Nat × ByteArray) -> World -> Prop) (W : World) (hN : N <= 4096) (hJ : AbidesFrom W.heap.size J)
   (hY : ∀ pre x W1,J pre W1 -> pre.length < (df a b N).length -> YieldAt Fence.wide (n - 1) Tryz.prog l (encD x) W1 fun e W' =>
     (e = .returned (.bool true) /\ J (pre ++ [x]) W' /\ (W1.heap.size <= W'.heap.size /\ Kpt K W1 W')) \/ (e = .returned (.bool false) /\ Jx (pre ++ [x]) W'))
   (hK : ∀ k,K k -> k < W.heap.size) (hKn : K Bn) (hKw : K Bw)
   (hA : W.cell? ⟨Ba,2,none⟩ = some (.int .i64 (N : Int))) (hBn : W.cell? ⟨Bn,0,none⟩ = some (.func (.func 146) #[] #[.pointer (some ⟨pn0,0,none⟩),.pointer (some ⟨pn1,0,none⟩)])) (hBw : W.cell? ⟨Bw,0,none⟩ = some (.func (.func 145) #[] #[.pointer (some ⟨pw0,0,none⟩)]))
   (hnow : ∀ u i,Kpt K W u -> i < N -> Calls Tryz.prog 146 #[.int .i64 (i : Int),.pointer (some ⟨pn0,0,none⟩),.pointer (some ⟨pn1,0,none⟩)] u fun e u' => e = .returned (.string (b i)) /\ Below u.heap.size u u')
   (hwas : ∀ u i,Kpt K W u -> i < N -> Calls Tryz.prog 145 #[.int .i64 (i : Int),.pointer (some ⟨pw0,0,none⟩)] u fun e u' => e = .returned (.string (a i)) /\ Below u.heap.size u u')
   (h0 : J [] W) :
   CallsIn Fence.wide n Tryz.prog 172 #[.func (.yield l) #[] #[],.pointer (some ⟨Ba,0,none⟩),.pointer (some ⟨Bn,0,none⟩),.pointer (some ⟨Bw,0,none⟩)] W fun e W' => (∃ v,e = .returned v) /\
     ((∃ ys,ys = df a b N /\ J ys W') \/ (∃ pre,pre <+: df a b N /\ Jx pre W')) := by
 refine callsIn_of_wp Tryz.func172 rfl trivial ?_ rfl
 simp only [Tryz.ntmps172,List.size_toArray,List.length_cons,List.length_nil,Nat.reduceAdd,Nat.reduceSub,Array.replicate_succ,Array.replicate_zero,List.push_toArray,List.append_toArray,List.nil_append,List.cons_append]
 gi_wp2
 gi_loopw [5,6,9] (fun _ _ c wr => ∃ k : Nat,k <= N /\ c = .int .i64 (k : Int) /\ J (df a b k) wr /\ W.heap.size <= wr.heap.size /\ Kpt K W wr) (fun _ _ c _ => N - (intOf c).toNat)
 case atStart => exact ⟨0,Nat.zero_le _,rfl,h0,Nat.le_refl _,fun _ _ => rfl⟩
 case round =>
   obtain ⟨k,hk,rfl,hJk,hsz,hkp⟩ := hrel
   have HJk := hide hJk
   have HJ := hide hJ
   have HY := hide hY
   have HKP := hide hkp
   have HNW := hide hnow
   have HWS := hide hwas
   have HN := hide hN
   have HK := hide hK
   have HA := hide hA
   have HBn := hide hBn
   have HBw := hide hBw
   have hcn := hkp.cell hKn hBn
   clear hJk hJ hY hkp hnow hwas h0 hN hK hA hBn hBw
   by_cases hlt : k < N
   · have hz : (k : Int) < (N : Int) := by omega
     have hkN : k <= 4096 := by have := HN.out; omega
     have hw : IntKind.i64.wrap ((k : Int) + 1) = (k : Int) + 1 := by rw [IntKind.wrap_i64]; omega
     by_cases hab : a k = b k
     · have HD : Hid (df a b (k + 1) = df a b k) := by show _ = _; rw [df_succ,if_pos hab,List.append_nil]
       gi_wp2_with (fail)
       refine ⟨trivial,(callsIn_wide.2 (HNW.out _ k HKP.out hlt)).mono ?_⟩
       rintro e w1 ⟨rfl,hb1⟩
       have HKP1 := hide (HKP.out.below HK.out hsz hb1)
       have hsz1 := Nat.le_trans hsz hb1.size
       have hcw := HKP1.out.cell hKw HBw.out
       have HJ1 := hide (HJ.out _ _ _ none HJk.out (grown_of_below hb1) (fun r e => by cases e))
       clear hb1
       gi_wp2_with (fail)
       refine ⟨trivial,(callsIn_wide.2 (HWS.out _ k HKP1.out hlt)).mono ?_⟩
       rintro e w2 ⟨rfl,hb2⟩
       have HKP2 := hide (HKP1.out.below HK.out hsz1 hb2)
       have hsz2 := Nat.le_trans hsz1 hb2.size
       have hJ2 := HJ.out _ _ _ none HJ1.out (grown_of_below hb2) (fun r e => by cases e)
       clear hb2
       rw [hab]
       have HJ2 := hide hJ2
       clear hJ2
       gi_wp2_with (refine ⟨fun _ h => (by cases h),?_⟩)
       go_roundw
       case rel => exact ⟨k + 1,hlt,by go_num,by rw [HD.out]; exact HJ2.out,hsz2,HKP2.out⟩
       case measure => simp [intOf]; omega
     · gi_wp2_with (fail)
       refine ⟨trivial,(callsIn_wide.2 (HNW.out _ k HKP.out hlt)).mono ?_⟩
       rintro e w1 ⟨rfl,hb1⟩
       have HKP1 := hide (HKP.out.below HK.out hsz hb1)
       have hsz1 := Nat.le_trans hsz hb1.size
       have hcw := HKP1.out.cell hKw HBw.out
       have HJ1 := hide (HJ.out _ _ _ none HJk.out (grown_of_below hb1) (fun r e => by cases e))
       clear hb1
       gi_wp2_with (fail)
       refine ⟨trivial,(callsIn_wide.2 (HWS.out _ k HKP1.out hlt)).mono ?_⟩
       rintro e w2 ⟨rfl,hb2⟩
       have HKP2 := hide (HKP1.out.below HK.out hsz1 hb2)
       have hsz2 := Nat.le_trans hsz1 hb2.size
       have hJ2 := HJ.out _ _ _ none HJ1.out (grown_of_below hb2) (fun r e => by cases e)
       clear hb2
       have hne : ((b k).toList == (a k).toList) = false := toList_ne (fun e => hab e.symm)
       have hDs : df a b (k + 1) = df a b k ++ [(k,b k)] := by rw [df_succ,if_neg hab]
       have hpre : df a b k ++ [(k,b k)] <+: df a b N := by rw [<- hDs,show N = k + 1 + (N - (k + 1)) from by omega]; exact df_prefix a b (k + 1) _
       have hlen : (df a b k).length < (df a b N).length := by
         have := hpre.length_le
         rw [List.length_append] at this
         simp at this
         omega
       obtain ⟨fn,tmps,assign,body,hy0,hR⟩ := HY.out (df a b k) (k,b k) w2 hJ2 hlen
       have hy : (Instr.yield l #[.int .i64 (k : Int),.string (b k)]).run Tryz.prog w2 = .ok (.round l fn tmps assign body) w2 := hy0
       have HD := hide hDs
       have HP := hide hpre
       clear hy0 hDs hpre hlen hJ2
       gi_wp2
       refine hR.mono ?_
       rintro e W3 (⟨rfl,hJ3,hs3,hk3⟩ | ⟨rfl,hJx3⟩)
       · have HJ3 := hide hJ3
         have HKP3 := hide (HKP2.out.trans hk3)
         clear hJ3 hk3
         gi_wp2
         go_roundw
         case rel => exact ⟨k + 1,hlt,by go_num,by rw [HD.out]; exact HJ3.out,Nat.le_trans hsz2 hs3,HKP3.out⟩
         case measure => simp [intOf]; omega
       · have HJx3 := hide hJx3
         clear hJx3
         gi_wp2
         refine bodyPost_ret (results_none rfl _ _ _) rfl ?_
         exact ⟨⟨_,rfl⟩,.inr ⟨_,HP.out,HJx3.out⟩⟩
   · have hkN : k = N := by omega
     subst hkN
     gi_wp2
     go_end0
     exact ⟨⟨_,rfl⟩,.inl ⟨_,rfl,HJk.out⟩⟩
theorem diff_71_72 (n : Nat) (hn : 1 <= n) (Ba Bn Bw N pw0 pn0 pn1 : Nat) (K : Nat -> Prop) (a b : Nat -> ByteArray) (w : World) (hN : N <= 4096)
   (hK : ∀ k,K k -> k < w.heap.size) (hKa : K Ba) (hKn : K Bn) (hKw : K Bw)
   (hA : w.cell? ⟨Ba,2,none⟩ = some (.int .i64 (N : Int))) (hBn : w.cell? ⟨Bn,0,none⟩ = some (.func (.func 146) #[] #[.pointer (some ⟨pn0,0,none⟩),.pointer (some ⟨pn1,0,none⟩)])) (hBw : w.cell? ⟨Bw,0,none⟩ = some (.func (.func 145) #[] #[.pointer (some ⟨pw0,0,none⟩)]))
   (hnow : ∀ u i,Kpt K w u -> i < N -> Calls Tryz.prog 146 #[.int .i64 (i : Int),.pointer (some ⟨pn0,0,none⟩),.pointer (some ⟨pn1,0,none⟩)] u fun e u' => e = .returned (.string (b i)) /\ Below u.heap.size u u')
   (hwas : ∀ u i,Kpt K w u -> i < N -> Calls Tryz.prog 145 #[.int .i64 (i : Int),.pointer (some ⟨pw0,0,none⟩)] u fun e u' => e = .returned (.string (a i)) /\ Below u.heap.size u u') :
   SeqStopsK Fence.wide n Tryz.prog 172 #[.pointer (some ⟨Ba,0,none⟩),.pointer (some ⟨Bn,0,none⟩),.pointer (some ⟨Bw,0,none⟩)] encD (fun A B => A.heap.size <= B.heap.size /\ Kpt K A B) (fun ys => ys = df a b N) (fun pre => pre <+: df a b N) (df a b N).length w := fun l J Jx W hW hJ _ hY h0 =>
 have hk : Kpt K w W := fun k hk => hW.block k (hK k hk)
 diff1_71_72 n hn l Ba Bn Bw N pw0 pn0 pn1 K a b J Jx W hN hJ hY (fun k h => Nat.lt_of_lt_of_le (hK k h) hW.size) hKn hKw (hk.cell hKa hA) (hk.cell hKn hBn) (hk.cell hKw hBw) (fun u i hu hi => hnow u i (hk.trans hu) hi) (fun u i hu hi => hwas u i (hk.trans hu) hi) h0
end Go.Proofs.YtchhojkhfdkhfaaGreatDoor
namespace Go.Proofs.YtchhojkhfdkhfaaGreatDoor
open Go Go.RowKit Frm
theorem touch_nums {o m k : Nat} (ho : o <= 4096) (hm : m <= 1048576) (hk : k <= 1048576) : wrap64 ((o : Int) + ((m / 255 : Nat) : Int)) = ((o + m / 255 : Nat) : Int) /\ wrap64 ((k : Int) + 255) = (k : Int) + 255 /\ wrap64 ((k : Int) + 255 - 1) = (k : Int) + 255 - 1 /\ wrap64 (((k : Int) + 255 - 1).tdiv 255) = (((k + 254) / 255 : Nat) : Int) := by
 have h : ((k : Int) + 255 - 1).tdiv 255 = (((k + 254) / 255 : Nat) : Int) := by
   rw [Int.tdiv_eq_ediv_of_nonneg (by omega)]; omega
 rw [h]
 unfold wrap64
 omega
theorem touch_wrap {o m k : Nat} (ho : o <= 4096) (hm : m <= 1048576) (hk : k <= 1048576) : IntKind.i64.wrap ((o : Int) + (m : Int) / 255) = ((o + m / 255 : Nat) : Int) /\ IntKind.i64.wrap ((IntKind.i64.wrap (IntKind.i64.wrap ((k : Int) + 255) - 1)).tdiv 255) = (((k + 254) / 255 : Nat) : Int) := by
 rw [IntKind.wrap_i64,IntKind.wrap_i64,IntKind.wrap_i64,IntKind.wrap_i64]
 have e1 : ((k : Int) + 255 + 9223372036854775808) % 18446744073709551616 - 9223372036854775808 = (k : Int) + 255 := by omega
 rw [e1]
 have e2 : ((k : Int) + 255 - 1 + 9223372036854775808) % 18446744073709551616 - 9223372036854775808 = (k : Int) + 254 := by omega
 rw [e2]
 have h : ((k : Int) + 254).tdiv 255 = (((k + 254) / 255 : Nat) : Int) := by
   rw [Int.tdiv_eq_ediv_of_nonneg (by omega)]; omega
 rw [h]
 omega
theorem Kp.fresh {w : World} {A B : Array Value} {t : TypeId} {k : Nat} (hB : k <= B.size) : Kp w.heap.size k (w.alloc (.cells A t)) (w.alloc (.cells B t)).drew :=
 ⟨fun b o hb => (World.cell?_of_block (a := ⟨b,o,none⟩) (Below.heap_alloc w _ b hb)).trans (World.cell?_of_block (a := ⟨b,o,none⟩) (Below.heap_alloc w _ b hb)).symm,
   fun b o hb => by
     by_cases e : b < w.heap.size
     · exact (World.frozen?_of_block (a := ⟨b,o,none⟩) (Below.heap_alloc w _ b e)).trans (World.frozen?_of_block (a := ⟨b,o,none⟩) (Below.heap_alloc w _ b e)).symm
     · have hb' : b = w.heap.size := by omega
       subst hb'
       have h1 : (w.alloc (.cells A t)).heap[w.heap.size]? = some (.cells A t) := World.alloc_heap_new w _
       have h2 : (w.alloc (.cells B t)).drew.heap[w.heap.size]? = some (.cells B t) := World.alloc_heap_new w _
       rw [free_of h1,free_of h2],
   fun o ho => by
     obtain ⟨v,hv⟩ := new_cells w B t rfl o (by omega)
     exact tv_some (v := v) hv,
   by show w.heap.size + 1 <= (w.alloc (.cells B t)).heap.size; simp,
   ⟨rfl,rfl,rfl,by show (w.alloc (.cells A t)).heap.size <= (w.alloc (.cells B t)).heap.size; simp,fun j hj => (Below.heap_alloc w _ j hj).trans (Below.heap_alloc w _ j hj).symm⟩⟩
theorem below_fresh (w : World) (A : Array Value) (t : TypeId) : Below w.heap.size w (w.alloc (.cells A t)).drew := ((Below.refl _ _).alloc (Nat.le_refl _) _).drew
theorem areaS {w u : World} {p : Nat} {v0 v1 : Value} (hp : p < w.heap.size) (h0 : w.cell? ⟨p,0,none⟩ = some v0) (h1 : w.cell? ⟨p,1,none⟩ = some v1) (hk : Kp w.heap.size 3 (w.alloc (.cells #[.pointer none,.int .i64 0,.int .i64 0] 163)) u) :
   u.cell? ⟨p,0,none⟩ = some v0 /\ u.cell? ⟨p,1,none⟩ = some v1 /\ u.cell? ⟨w.heap.size,0,none⟩ = some (tv u w.heap.size 0) /\ u.cell? ⟨w.heap.size,1,none⟩ = some (tv u w.heap.size 1) /\ u.cell? ⟨w.heap.size,2,none⟩ = some (tv u w.heap.size 2) /\
   u.frozen? ⟨w.heap.size,0,none⟩ = false /\ u.frozen? ⟨w.heap.size,1,none⟩ = false /\ u.frozen? ⟨w.heap.size,2,none⟩ = false /\ Kp w.heap.size 3 (w.alloc (.cells #[.pointer none,.int .i64 0,.int .i64 0] 163)) u :=
 ⟨(hk.1 _ _ hp).trans ((World.cell?_of_block (a := ⟨p,0,none⟩) (Below.heap_alloc w _ p hp)).trans h0),(hk.1 _ _ hp).trans ((World.cell?_of_block (a := ⟨p,1,none⟩) (Below.heap_alloc w _ p hp)).trans h1),hk.2.2.1 _ (by decide),hk.2.2.1 _ (by decide),hk.2.2.1 _ (by decide),
   (hk.2.1 _ _ (by omega)).trans (by simp [go_sem]),(hk.2.1 _ _ (by omega)).trans (by simp [go_sem]),(hk.2.1 _ _ (by omega)).trans (by simp [go_sem]),hk⟩
set_option maxHeartbeats 1000000 in
theorem touched_any (p q o n : Nat) (s t : ByteArray) (b : Bool) (w : World) (h : LAt w p q o n s b) (ho : o <= 4096) (hs : s.size <= 1048576) (ht : t.size <= 1048576) :
   Calls Tryz.prog 196 #[.pointer (some ⟨p,0,none⟩),.string t] w fun e w' => e = .returned (.agg #[.pointer (some ⟨q,0,none⟩),.int .i64 ((o + s.size / 255 : Nat) : Int),.int .i64 (((t.size + 254) / 255 : Nat) : Int)]) /\ Below w.heap.size w w' := by
 have h' := h.same (v := w.alloc (.cells #[.pointer none,.int .i64 0,.int .i64 0] 163)) (Below.heap_alloc w _ p h.lt)
 have h3 := h'.c3
 have HP := hide h.lt
 have H0 := hide h.c0
 have H1 := hide h.c1
 obtain ⟨hz1,hz2,hz3,hz4⟩ := touch_nums ho hs ht
 have hz5 : wrap64 ((s.size : Int) / 255) = ((s.size / 255 : Nat) : Int) := by unfold wrap64; omega
 have HS := hide hs
 have HN := hide ho
 have HT := hide ht
 have HZ2 : Hid (IntKind.i64.wrap ((o : Int) + (s.size : Int) / 255) = ((o + s.size / 255 : Nat) : Int) /\ IntKind.i64.wrap ((IntKind.i64.wrap (IntKind.i64.wrap ((t.size : Int) + 255) - 1)).tdiv 255) = (((t.size + 254) / 255 : Nat) : Int)) := by
   exact touch_wrap ho hs ht
 clear h hs ho ht h'
 go_enter Tryz.func196,Tryz.ntmps196
 go_wp2_with fail
 rw [hz5]
 clear h3 hz1 hz4
 go_region_held3 (fun z => z.cell? ⟨p,0,none⟩ = some (.pointer (some ⟨q,0,none⟩)) /\ z.cell? ⟨p,1,none⟩ = some (.int .i64 (o : Int)) /\ z.cell? ⟨w.heap.size,0,none⟩ = some (tv z w.heap.size 0) /\ z.cell? ⟨w.heap.size,1,none⟩ = some (tv z w.heap.size 1) /\ z.cell? ⟨w.heap.size,2,none⟩ = some (tv z w.heap.size 2) /\
   z.frozen? ⟨w.heap.size,0,none⟩ = false /\ z.frozen? ⟨w.heap.size,1,none⟩ = false /\ z.frozen? ⟨w.heap.size,2,none⟩ = false /\ Kp w.heap.size 3 (w.alloc (.cells #[.pointer none,.int .i64 0,.int .i64 0] 163)) z)
   (((with_reducible refine areaS HP.out H0.out H1.out ?_); first | ((with_reducible refine Kp.set ?_ _ _); (repeat (with_reducible refine Kp.set ?_ _ _)); go_split_ands; with_reducible assumption) | (with_reducible exact Kp.begin (by simp) (by simp)) | (with_reducible exact Kp.fresh (by simp))))
   (fail)
 go_split_ands
 go_wp2
 exact bodyPost_ret (v := .agg #[.pointer (some ⟨q,0,none⟩),.int .i64 (IntKind.i64.wrap ((o : Int) + (s.size : Int) / 255)),.int .i64 (IntKind.i64.wrap ((IntKind.i64.wrap (IntKind.i64.wrap ((t.size : Int) + 255) - 1)).tdiv 255))]) (by simp [results,Tryz.results196,go_sem]) rfl ⟨by rw [HZ2.out.1,HZ2.out.2],below_fresh w _ _⟩
end Go.Proofs.YtchhojkhfdkhfaaGreatDoor
namespace Go.Proofs.YtchhojkhfdkhfaaGreatDoor
open Go Go.RowKit Frm Go.Shelf
def pw (o : Nat) : List (Nat × ByteArray) -> St -> Nat × St
 | [],st => (0,st)
 | x :: l,st => if (st.write (wrap64 ((o : Int) + (x.1 : Int))) x.2).1 = 0 then pw o l (st.write (wrap64 ((o : Int) + (x.1 : Int))) x.2).2 else st.write (wrap64 ((o : Int) + (x.1 : Int))) x.2
theorem pw_cons (o : Nat) (x : Nat × ByteArray) (l : List (Nat × ByteArray)) (st : St) : pw o (x :: l) st = if (st.write (wrap64 ((o : Int) + (x.1 : Int))) x.2).1 = 0 then pw o l (st.write (wrap64 ((o : Int) + (x.1 : Int))) x.2).2 else st.write (wrap64 ((o : Int) + (x.1 : Int))) x.2 := rfl
theorem pw_append (o : Nat) : ∀ (l m : List (Nat × ByteArray)) (st : St),pw o (l ++ m) st = if (pw o l st).1 = 0 then pw o m (pw o l st).2 else pw o l st
 | [],m,st => by simp [pw]
 | x :: l,m,st => by
   rw [List.cons_append,pw_cons,pw_cons]
   by_cases h : (st.write (wrap64 ((o : Int) + (x.1 : Int))) x.2).1 = 0
   · rw [if_pos h,if_pos h]; exact pw_append o l m _
   · rw [if_neg h,if_neg h,if_neg h]
theorem pw_one (o : Nat) (x : Nat × ByteArray) (st : St) : pw o [x] st = st.write (wrap64 ((o : Int) + (x.1 : Int))) x.2 := by
 rw [pw_cons]
 split
 · rename_i h
   show (0,_) = _
   rw [<- h]
 · rfl
theorem pw_snoc {o : Nat} {l : List (Nat × ByteArray)} {st : St} (h : (pw o l st).1 = 0) (x : Nat × ByteArray) : pw o (l ++ [x]) st = (pw o l st).2.write (wrap64 ((o : Int) + (x.1 : Int))) x.2 := by rw [pw_append,if_pos h,pw_one]
theorem pw_err {o : Nat} {l m : List (Nat × ByteArray)} {st : St} (h : (pw o l st).1 ≠ 0) : pw o (l ++ m) st = pw o l st := by rw [pw_append,if_neg h]
theorem write_loose (st : St) (b : Int) (d : ByteArray) : (st.write b d).2.loose.length <= st.loose.length + 1 := by
 unfold St.write
 split
 · simp
 · split
   · simp
   · split
     · simp
     · simp
theorem write_sure (st : St) (b : Int) (d : ByteArray) : (st.write b d).2.sure = st.sure := by
 unfold St.write
 split
 · rfl
 · split
   · rfl
   · split
     · rfl
     · rfl
theorem pw_loose (o : Nat) : ∀ (l : List (Nat × ByteArray)) (st : St),(pw o l st).2.loose.length <= st.loose.length + l.length
 | [],st => by simp [pw]
 | x :: l,st => by
   rw [pw_cons]
   have h1 := write_loose st (wrap64 ((o : Int) + (x.1 : Int))) x.2
   split
   · have := pw_loose o l (st.write (wrap64 ((o : Int) + (x.1 : Int))) x.2).2
     rw [List.length_cons]
     omega
   · rw [List.length_cons]
     omega
theorem pw_ok (o : Nat) : ∀ (l : List (Nat × ByteArray)) (st : St),st.Ok -> (pw o l st).2.Ok
 | [],_,h => h
 | x :: l,st,h => by
   rw [pw_cons]
   split
   · exact pw_ok o l _ (h.write _ _)
   · exact h.write _ _
theorem puts_pw (o : Nat) : ∀ (l : List (ByteArray × ByteArray)) (i : Nat) (st : St),o + i + l.length <= 1000000 -> puts o l i st = pw o (wl 0 l i) st
 | [],_,_,_ => rfl
 | x :: l,i,st,h => by
   rw [List.length_cons] at h
   have e1 : wl 0 (x :: l) i = if x.1 = x.2 then wl 0 l (i + 1) else (0 + i,x.2) :: wl 0 l (i + 1) := rfl
   have e2 : puts o (x :: l) i st = if x.1 = x.2 then puts o l (i + 1) st else if (st.write ((o + i : Nat) : Int) x.2).1 = 0 then puts o l (i + 1) (st.write ((o + i : Nat) : Int) x.2).2 else st.write ((o + i : Nat) : Int) x.2 := rfl
   rw [e1,e2]
   split
   · exact puts_pw o l (i + 1) st (by omega)
   · have hw : wrap64 ((o : Int) + ((0 + i : Nat) : Int)) = ((o + i : Nat) : Int) := by unfold wrap64; omega
     rw [pw_cons]
     simp only [hw]
     split
     · exact puts_pw o l (i + 1) _ (by omega)
     · rfl
theorem DAt.cells {u : World} {p : Nat} {st : St} {F : Nat -> Prop} (h : DAt u p st F) {k : Nat} (hk : F k) : ∃ o,u.heap[k]? = some o /\ o.isCells = true := by
 obtain ⟨vS,vL,x,rfl,h⟩ := h
 rcases hk with rfl | h1 | h1
 · exact ⟨_,h.head,rfl⟩
 · obtain ⟨cur,hc⟩ := row_type h.sure h1
   exact ⟨_,hc,rfl⟩
 · obtain ⟨cur,hc⟩ := row_type h.loose h1
   exact ⟨_,hc,rfl⟩
theorem DAt.head {u : World} {p : Nat} {st : St} {F : Nat -> Prop} (h : DAt u p st F) : F p := by
 obtain ⟨vS,vL,x,rfl,h⟩ := h
 exact Or.inl rfl
theorem write_any (p : Nat) (st : St) (F : Nat -> Prop) (b : Int) (d : ByteArray) (u : World) (h : DAt u p st F) (hok : st.Ok) (hl : st.loose.length <= 10000) :
   Calls Tryz.prog 34 #[.pointer (some ⟨p,0,none⟩),.int .i64 b,.string d] u fun e v => e = .returned (.int .i64 (((st.write b d).1 : Nat) : Int)) /\ ∃ F',DAt v p (st.write b d).2 F' /\ Loc F F' u v := by
 obtain ⟨vS,vL,x,rfl,h⟩ := h
 refine (pWrite p vS vL x st b d u h hok hl).mono ?_
 rintro e v ⟨rfl,vL',y,h2,l2⟩
 exact ⟨rfl,_,⟨vS,vL',y,rfl,h2⟩,l2⟩
theorem Loc.keeps {F F' : Nat -> Prop} {W W' : World} {p : Nat} {st : St} (h : Loc F F' W W') (hD : DAt W p st F) (B : Nat) : KeepsFrom B W W' :=
 ⟨h.size,fun k o _ hk ho => (h.block k (Array.getElem?_eq_some_iff.1 hk).1 (fun hF => by
   obtain ⟨o',ho',hc⟩ := hD.cells hF
   rw [hk] at ho'
   cases ho'
   rw [ho] at hc
   cases hc)).trans hk⟩
structure LayIn (w : World) (q o N : Nat) (st : St) (F : Nat -> Prop) (K0 : Nat -> Prop) (pre : List (Nat × ByteArray)) (W : World) (F' : Nat -> Prop) (vB vE vW : Value) : Prop where
 size : w.heap.size + 7 <= W.heap.size
 disk : DAt W q (pw o pre st).2 F'
 loc : Loc F F' w W
 own : ∀ k,F' k -> F k \/ w.heap.size + 7 <= k
 old : ∀ k,K0 k -> W.heap[k]? = w.heap[k]?
 area : W.heap[w.heap.size]? = some (.cells #[.pointer (some ⟨q,0,none⟩),.int .i64 (o : Int),.int .i64 (N : Int)] 163 (0,0))
 b : Boxed W (w.heap.size + 1) 4 vB
 e : Boxed W (w.heap.size + 1 + 1) 29 vE
 w : Boxed W (w.heap.size + 1 + 1 + 1) 4 vW
theorem LayIn.grown {w : World} {q o N : Nat} {st : St} {F K0 : Nat -> Prop} {pre : List (Nat × ByteArray)} {W W' : World} {F' : Nat -> Prop} {vB vE vW : Value} {row : Option Nat} (h : LayIn w q o N st F K0 pre W F' vB vE vW) (hK0 : ∀ k,K0 k -> k < w.heap.size) (hg : W.grownBy W' row)
   (hr : ∀ r,row = some r -> w.heap.size + 7 <= r /\ ∃ ob : Obj,W.heap[r]? = some ob /\ ob.isCells = false) : LayIn w q o N st F K0 pre W' F' vB vE vW := by
 have hlow : ∀ k,k < w.heap.size + 7 -> k < W.heap.size -> W'.heap[k]? = W.heap[k]? := fun k hk hs => hg.block k hs (fun e => by have := (hr k e.symm).1; omega)
 have hlt := h.size
 refine ⟨Nat.le_trans h.size hg.size,con.same h.disk (fun k hk => hg.block k (con.lt h.disk k hk) (fun e => ?_)),?_,h.own,fun k hk => (hlow k (by have := hK0 k hk; omega) (by have := hK0 k hk; omega)).trans (h.old k hk),(hlow _ (by omega) (by omega)).trans h.area,(hlow _ (by omega) (by omega)).trans h.b,(hlow _ (by omega) (by omega)).trans h.e,(hlow _ (by omega) (by omega)).trans h.w⟩
 · obtain ⟨_,ob,ho,hc⟩ := hr k e.symm
   obtain ⟨o',ho',hc'⟩ := h.disk.cells hk
   rw [ho] at ho'
   cases ho'
   rw [hc] at hc'
   cases hc'
 · exact ⟨hg.os.trans h.loc.os,hg.tape.trans h.loc.tape,hg.output.trans h.loc.output,Nat.le_trans h.loc.size hg.size,fun k hk hF => (hlow k (by omega) (Nat.lt_of_lt_of_le hk h.loc.size)).trans (h.loc.block k hk hF),h.loc.own⟩
theorem LayIn.write {w : World} {q o N : Nat} {st : St} {F K0 : Nat -> Prop} {pre : List (Nat × ByteArray)} {x : Nat × ByteArray} {W W' : World} {F' F'' : Nat -> Prop} {vB vE vW : Value} (h : LayIn w q o N st F K0 pre W F' vB vE vW) (hF : ∀ k,F k -> k < w.heap.size) (hK0 : ∀ k,K0 k -> k < w.heap.size /\ ¬ F k) (h0 : (pw o pre st).1 = 0)
   (hd : DAt W' q ((pw o pre st).2.write (wrap64 ((o : Int) + (x.1 : Int))) x.2).2 F'') (hl : Loc F' F'' W W') : LayIn w q o N st F K0 (pre ++ [x]) W' F'' vB vE vW := by
 have hlt := h.size
 have hsz := h.loc.size
 have keep : ∀ k,k < w.heap.size + 7 -> k < W.heap.size -> ¬ F k -> W'.heap[k]? = W.heap[k]? := fun k hk hs hn => hl.block k hs (fun hF' => by
   rcases h.own k hF' with h1 | h1
   · exact hn h1
   · omega)
 refine ⟨Nat.le_trans h.size hl.size,by rw [pw_snoc h0]; exact hd,h.loc.trans hl,fun k hk => ?_,fun k hk => (keep k (by have := hK0 k hk; omega) (by have := hK0 k hk; omega) (hK0 k hk).2).trans (h.old k hk),(keep _ (by omega) (by omega) (fun hh => by have := hF _ hh; omega)).trans h.area,
   (keep _ (by omega) (by omega) (fun hh => by have := hF _ hh; omega)).trans h.b,(keep _ (by omega) (by omega) (fun hh => by have := hF _ hh; omega)).trans h.e,(keep _ (by omega) (by omega) (fun hh => by have := hF _ hh; omega)).trans h.w⟩
 rcases hl.own k hk with h1 | h1
 · exact h.own k h1
 · exact Or.inr (Nat.le_trans h.size h1)
theorem LayIn.set {w : World} {q o N : Nat} {st : St} {F K0 : Nat -> Prop} {pre : List (Nat × ByteArray)} {W : World} {F' : Nat -> Prop} {vB vE vW : Value} (h : LayIn w q o N st F K0 pre W F' vB vE vW) (hF : ∀ k,F k -> k < w.heap.size) (hK0 : ∀ k,K0 k -> k < w.heap.size) (B : Nat) (hB : w.heap.size < B) (hB2 : B < w.heap.size + 7) (v : Value) {vB' vE' vW' : Value}
   (h1 : Boxed (W.setCell ⟨B,0,none⟩ v) (w.heap.size + 1) 4 vB') (h2 : Boxed (W.setCell ⟨B,0,none⟩ v) (w.heap.size + 1 + 1) 29 vE') (h3 : Boxed (W.setCell ⟨B,0,none⟩ v) (w.heap.size + 1 + 1 + 1) 4 vW') : LayIn w q o N st F K0 pre (W.setCell ⟨B,0,none⟩ v) F' vB' vE' vW' := by
 have ne : ∀ k,k ≠ B -> (W.setCell ⟨B,0,none⟩ v).heap[k]? = W.heap[k]? := fun k hk => Below.heap_setCell W ⟨B,0,none⟩ v k hk
 have nF : ∀ k,F' k -> k ≠ B := fun k hk e => by
   rcases h.own k hk with h1 | h1
   · have := hF k h1; omega
   · omega
 refine ⟨by simpa [World.setCell] using h.size,con.same h.disk (fun k hk => ne k (nF k hk)),⟨h.loc.os,h.loc.tape,h.loc.output,by simpa [World.setCell] using h.loc.size,fun k hk hn => (ne k (by omega)).trans (h.loc.block k hk hn),h.loc.own⟩,h.own,fun k hk => (ne k (by have := hK0 k hk; omega)).trans (h.old k hk),(ne _ (by omega)).trans h.area,h1,h2,h3⟩
theorem LayIn.setB {w : World} {q o N : Nat} {st : St} {F K0 : Nat -> Prop} {pre : List (Nat × ByteArray)} {W : World} {F' : Nat -> Prop} {vB vE vW : Value} (h : LayIn w q o N st F K0 pre W F' vB vE vW) (hF : ∀ k,F k -> k < w.heap.size) (hK0 : ∀ k,K0 k -> k < w.heap.size) (v : Value) : LayIn w q o N st F K0 pre (W.setCell ⟨w.heap.size + 1,0,none⟩ v) F' v vE vW :=
 h.set hF hK0 _ (by omega) (by omega) v (h.b.set v) (h.e.other (by omega) v) (h.w.other (by omega) v)
theorem LayIn.setE {w : World} {q o N : Nat} {st : St} {F K0 : Nat -> Prop} {pre : List (Nat × ByteArray)} {W : World} {F' : Nat -> Prop} {vB vE vW : Value} (h : LayIn w q o N st F K0 pre W F' vB vE vW) (hF : ∀ k,F k -> k < w.heap.size) (hK0 : ∀ k,K0 k -> k < w.heap.size) (v : Value) : LayIn w q o N st F K0 pre (W.setCell ⟨w.heap.size + 1 + 1,0,none⟩ v) F' vB v vW :=
 h.set hF hK0 _ (by omega) (by omega) v (h.b.other (by omega) v) (h.e.set v) (h.w.other (by omega) v)
theorem LayIn.setW {w : World} {q o N : Nat} {st : St} {F K0 : Nat -> Prop} {pre : List (Nat × ByteArray)} {W : World} {F' : Nat -> Prop} {vB vE vW : Value} (h : LayIn w q o N st F K0 pre W F' vB vE vW) (hF : ∀ k,F k -> k < w.heap.size) (hK0 : ∀ k,K0 k -> k < w.heap.size) (v : Value) : LayIn w q o N st F K0 pre (W.setCell ⟨w.heap.size + 1 + 1 + 1,0,none⟩ v) F' vB vE v :=
 h.set hF hK0 _ (by omega) (by omega) v (h.b.other (by omega) v) (h.e.other (by omega) v) (h.w.set v)
def KL (n : Nat) (K0 : Nat -> Prop) (k : Nat) : Prop := K0 k \/ k = n + 1 + 1 + 1 + 1 \/ k = n + 1 + 1 + 1 + 1 + 1 \/ k = n + 1 + 1 + 1 + 1 + 1 + 1
theorem KL.lt {n : Nat} {K0 : Nat -> Prop} (h : ∀ k,K0 k -> k < n) : ∀ k,KL n K0 k -> k < n + 7 := fun k hk => by
 rcases hk with h1 | h1 | h1 | h1
 · have := h k h1; omega
 · omega
 · omega
 · omega
theorem LayIn.kpt {w : World} {q o N : Nat} {st : St} {F K0 : Nat -> Prop} {pre : List (Nat × ByteArray)} {W W' : World} {F' F'' : Nat -> Prop} {vB vE vW : Value} (h : LayIn w q o N st F K0 pre W F' vB vE vW) (hF : ∀ k,F k -> k < w.heap.size) (hK0 : ∀ k,K0 k -> k < w.heap.size /\ ¬ F k) (hl : Loc F' F'' W W') : Kpt (KL w.heap.size K0) W W' := fun k hk => by
 have hs := h.size
 have hlt := KL.lt (fun k hk => (hK0 k hk).1) k hk
 refine hl.block k (by omega) (fun hF' => ?_)
 rcases h.own k hF' with h1 | h1
 · rcases hk with h2 | h2 | h2 | h2
   · exact (hK0 k h2).2 h1
   · have := hF k h1; omega
   · have := hF k h1; omega
   · have := hF k h1; omega
 · omega
theorem kpt_set {w W : World} {K0 : Nat -> Prop} (hK0 : ∀ k,K0 k -> k < w.heap.size) (v : Value) : Kpt (KL w.heap.size K0) W (W.setCell ⟨w.heap.size + 1 + 1 + 1,0,none⟩ v) := fun k hk => Below.heap_setCell W _ v k (fun e => by
 have e2 : k = w.heap.size + 1 + 1 + 1 := e
 rcases hk with h1 | h1 | h1 | h1
 · have := hK0 k h1; omega
 · omega
 · omega
 · omega)
theorem heap7 (w : World) (o0 o1 o2 o3 o4 o5 o6 : Obj) (j : Nat) : (((((((w.alloc o0).alloc o1).alloc o2).alloc o3).alloc o4).alloc o5).alloc o6).heap[w.heap.size + j]? = [o0,o1,o2,o3,o4,o5,o6][j]? := by
 have e : (((((((w.alloc o0).alloc o1).alloc o2).alloc o3).alloc o4).alloc o5).alloc o6).heap = w.heap ++ #[o0,o1,o2,o3,o4,o5,o6] := by
   show ((((((w.heap.push o0).push o1).push o2).push o3).push o4).push o5).push o6 = _
   apply Array.ext'
   simp
 rw [e,Array.getElem?_append_right (by omega),Nat.add_sub_cancel_left]
 simp
def LaidOut (q o N : Nat) (a b : Nat -> ByteArray) (st : St) (F : Nat -> Prop) (w : World) (e : Ending) (w' : World) : Prop :=
 e = .returned (.tuple #[.bool (decide ((puts o (prs N a b) 0 st).1 = 0 /\ df a b N ≠ [])),.int .i64 (((puts o (prs N a b) 0 st).1 : Nat) : Int)]) /\ ∃ F',DAt w' q (puts o (prs N a b) 0 st).2 F' /\ Loc F F' w w'
def LIn (w : World) (q o N : Nat) (st : St) (F K0 : Nat -> Prop) (pre : List (Nat × ByteArray)) (W : World) : Prop :=
 ∃ F',LayIn w q o N st F K0 pre W F' (.bool false) (.int .i64 0) (.bool (!pre.isEmpty)) /\ (pw o pre st).1 = 0
def LOut (w : World) (q o N : Nat) (st : St) (F K0 : Nat -> Prop) (c : Code) (pre : List (Nat × ByteArray)) (W : World) : Prop :=
 c = .ret /\ (pw o pre st).1 ≠ 0 /\ ∃ F' vW,LayIn w q o N st F K0 pre W F' (.bool false) (.int .i64 (((pw o pre st).1 : Nat) : Int)) vW
theorem LIn.own {w : World} {q o N : Nat} {st : St} {F K0 : Nat -> Prop} {B : Nat} (hK0 : ∀ k,K0 k -> k < w.heap.size) (hB : w.heap.size + 7 <= B) : OwnFrom B (LIn w q o N st F K0) := fun pre W W' row h hg hr => by
 obtain ⟨F',h1,h2⟩ := h
 exact ⟨F',h1.grown hK0 hg (fun r e => ⟨Nat.le_trans hB (hr r e).1,(hr r e).2⟩),h2⟩
theorem LOut.own {w : World} {q o N : Nat} {st : St} {F K0 : Nat -> Prop} {B : Nat} (hK0 : ∀ k,K0 k -> k < w.heap.size) (hB : w.heap.size + 7 <= B) (c : Code) : OwnFrom B (LOut w q o N st F K0 c) := fun pre W W' row h hg hr => by
 obtain ⟨h1,h2,F',vW,h3⟩ := h
 exact ⟨h1,h2,F',vW,h3.grown hK0 hg (fun r e => ⟨Nat.le_trans hB (hr r e).1,(hr r e).2⟩)⟩
theorem kp_put {W : World} {n l : Nat} {K0 : Nat -> Prop} {ob' : Obj} (hK0 : ∀ k,K0 k -> k < n) (hl : n + 7 <= l) : W.heap.size <= (W.putObj l ob').heap.size /\ Kpt (KL n K0) W (W.putObj l ob') :=
 ⟨by simp,fun k hk => World.putObj_heap_other (fun e => by have := KL.lt hK0 k hk; omega)⟩
theorem lay_start (q o N : Nat) (st : St) (F K0 : Nat -> Prop) (w : World) (hD : DAt w q st F) (hK0 : ∀ k,K0 k -> k < w.heap.size /\ ¬ F k) (vw vn : Value) (W0 : World)
   (hW0 : (((((((w.alloc (.cells #[.pointer (some ⟨q,0,none⟩),.int .i64 (o : Int),.int .i64 (N : Int)] 163)).alloc (.cells #[.bool false] 4)).alloc (.cells #[.int .i64 0] 29)).alloc (.cells #[.bool false] 4)).alloc (.cells #[.pointer (some ⟨q,0,none⟩),.int .i64 (o : Int),.int .i64 (N : Int)] 163)).alloc (.cells #[vw] 165)).alloc (.cells #[vn] 165)) = W0) :
   LIn w q o N st F K0 [] W0 /\ W0.heap.size = w.heap.size + 7 /\ W0.cell? ⟨w.heap.size + 1 + 1 + 1 + 1,2,none⟩ = some (.int .i64 (N : Int)) /\ W0.cell? ⟨w.heap.size + 1 + 1 + 1 + 1 + 1 + 1,0,none⟩ = some vn /\ W0.cell? ⟨w.heap.size + 1 + 1 + 1 + 1 + 1,0,none⟩ = some vw /\ (∀ k,K0 k -> W0.heap[k]? = w.heap[k]?) := by
 have hsz : W0.heap.size = w.heap.size + 7 := by rw [<- hW0]; simp
 have hb : Below w.heap.size w W0 := by
   rw [<- hW0]
   exact (((((((Below.refl _ w).alloc (Nat.le_refl _) _).alloc (by simp) _).alloc (by simp; omega) _).alloc (by simp; omega) _).alloc (by simp; omega) _).alloc (by simp; omega) _).alloc (by simp; omega) _
 have g : ∀ (j : Nat),W0.heap[w.heap.size + j]? = [Obj.cells #[.pointer (some ⟨q,0,none⟩),.int .i64 (o : Int),.int .i64 (N : Int)] 163 (0,0),.cells #[.bool false] 4 (0,0),.cells #[.int .i64 0] 29 (0,0),.cells #[.bool false] 4 (0,0),.cells #[.pointer (some ⟨q,0,none⟩),.int .i64 (o : Int),.int .i64 (N : Int)] 163 (0,0),.cells #[vw] 165 (0,0),.cells #[vn] 165 (0,0)][j]? := fun j => by
   rw [<- hW0]
   exact heap7 w _ _ _ _ _ _ _ j
 have g4 : W0.heap[w.heap.size + 1 + 1 + 1 + 1]? = some (.cells #[.pointer (some ⟨q,0,none⟩),.int .i64 (o : Int),.int .i64 (N : Int)] 163 (0,0)) := g 4
 have g5 : W0.heap[w.heap.size + 1 + 1 + 1 + 1 + 1]? = some (.cells #[vw] 165 (0,0)) := g 5
 have g6 : W0.heap[w.heap.size + 1 + 1 + 1 + 1 + 1 + 1]? = some (.cells #[vn] 165 (0,0)) := g 6
 refine ⟨⟨F,⟨by omega,con.below hD hb,Loc.of_below F hb,fun k hk => Or.inl hk,fun k hk => hb.block k (hK0 k hk).1,g 0,g 1,g 2,g 3⟩,rfl⟩,hsz,by simp [World.cell?,g4],by simp [World.cell?,g6],by simp [World.cell?,g5],fun k hk => hb.block k (hK0 k hk).1⟩
theorem LayIn.state {w : World} {q o N : Nat} {st : St} {F K0 : Nat -> Prop} {pre : List (Nat × ByteArray)} {W : World} {F' : Nat -> Prop} {vB vE vW : Value} (_h : LayIn w q o N st F K0 pre W F' vB vE vW) (hok : st.Ok) (hlo : st.loose.length + N <= 10000) (hp : pre.length <= N) : (pw o pre st).2.Ok /\ (pw o pre st).2.loose.length <= 10000 :=
 ⟨pw_ok o pre st hok,by have := pw_loose o pre st; omega⟩
theorem LayIn.c0 {w : World} {q o N : Nat} {st : St} {F K0 : Nat -> Prop} {pre : List (Nat × ByteArray)} {W : World} {F' : Nat -> Prop} {vB vE vW : Value} (h : LayIn w q o N st F K0 pre W F' vB vE vW) : W.cell? ⟨w.heap.size,0,none⟩ = some (.pointer (some ⟨q,0,none⟩)) := by simp [World.cell?,h.area]
theorem LayIn.c1 {w : World} {q o N : Nat} {st : St} {F K0 : Nat -> Prop} {pre : List (Nat × ByteArray)} {W : World} {F' : Nat -> Prop} {vB vE vW : Value} (h : LayIn w q o N st F K0 pre W F' vB vE vW) : W.cell? ⟨w.heap.size,1,none⟩ = some (.int .i64 (o : Int)) := by simp [World.cell?,h.area]
theorem lay_go {w : World} {q o N B : Nat} {st : St} {F K0 : Nat -> Prop} {pre : List (Nat × ByteArray)} {x : Nat × ByteArray} {W W1 : World} {F' F2 : Nat -> Prop} {vW : Value} (hi : LayIn w q o N st F K0 pre W F' (.bool false) (.int .i64 0) vW) (h1 : LayIn w q o N st F K0 (pre ++ [x]) W1 F2 (.bool false) (.int .i64 0) vW) (hl : Loc F' F2 W W1) (hF : ∀ k,F k -> k < w.heap.size) (hK0 : ∀ k,K0 k -> k < w.heap.size /\ ¬ F k) (h0 : (pw o pre st).1 = 0)
   (he : ((pw o pre st).2.write (wrap64 ((o : Int) + (x.1 : Int))) x.2).1 = 0) :
   KeepsFrom B W (W1.setCell ⟨w.heap.size + 1 + 1 + 1,0,none⟩ (.bool true)) /\ (W.heap.size <= (W1.setCell ⟨w.heap.size + 1 + 1 + 1,0,none⟩ (.bool true)).heap.size /\ Kpt (KL w.heap.size K0) W (W1.setCell ⟨w.heap.size + 1 + 1 + 1,0,none⟩ (.bool true))) /\ LIn w q o N st F K0 (pre ++ [x]) (W1.setCell ⟨w.heap.size + 1 + 1 + 1,0,none⟩ (.bool true)) := by
 have hK1 : ∀ k,K0 k -> k < w.heap.size := fun k hk => (hK0 k hk).1
 refine ⟨(hl.keeps hi.disk B).trans ((KeepsOthers.setCell _ _ _).from _),⟨by have := hl.size; simpa [World.setCell] using this,(hi.kpt hF hK0 hl).trans (kpt_set hK1 _)⟩,⟨F2,?_,?_⟩⟩
 · have e : (!(pre ++ [x]).isEmpty) = true := by cases pre <;> rfl
   rw [e]
   exact h1.setW hF hK1 (.bool true)
 · rw [pw_snoc h0]; exact he
theorem lay_no {w : World} {q o N B en : Nat} {st : St} {F K0 : Nat -> Prop} {pre : List (Nat × ByteArray)} {x : Nat × ByteArray} {W W1 : World} {F' F2 : Nat -> Prop} {vW : Value} (hi : LayIn w q o N st F K0 pre W F' (.bool false) (.int .i64 0) vW) (h1 : LayIn w q o N st F K0 (pre ++ [x]) W1 F2 (.bool false) (.int .i64 0) vW) (hl : Loc F' F2 W W1) (hF : ∀ k,F k -> k < w.heap.size) (hK1 : ∀ k,K0 k -> k < w.heap.size) (h0 : (pw o pre st).1 = 0)
   (he : ¬ ((pw o pre st).2.write (wrap64 ((o : Int) + (x.1 : Int))) x.2).1 = 0) (hen : ((pw o pre st).2.write (wrap64 ((o : Int) + (x.1 : Int))) x.2).1 = en) :
   KeepsFrom B W ((W1.setCell ⟨w.heap.size + 1,0,none⟩ (.bool false)).setCell ⟨w.heap.size + 1 + 1,0,none⟩ (.int .i64 (en : Int))) /\ LOut w q o N st F K0 .ret (pre ++ [x]) ((W1.setCell ⟨w.heap.size + 1,0,none⟩ (.bool false)).setCell ⟨w.heap.size + 1 + 1,0,none⟩ (.int .i64 (en : Int))) := by
 refine ⟨((hl.keeps hi.disk B).trans ((KeepsOthers.setCell _ _ _).from _)).trans ((KeepsOthers.setCell _ _ _).from _),rfl,?_,F2,vW,?_⟩
 · rw [pw_snoc h0]; exact he
 · rw [pw_snoc h0,hen]
   exact (h1.setB hF hK1 (.bool false)).setE hF hK1 _
theorem lay_done {w : World} {q o N D : Nat} {st : St} {F K0 : Nat -> Prop} (a b : Nat -> ByteArray) {W : World} {F' : Nat -> Prop} {vW : Value} (ho : o <= 4096) (hN : N <= 4096) (hi : LayIn w q o N st F K0 (df a b N) W F' (.bool false) (.int .i64 0) vW) (hF : ∀ k,F k -> k < w.heap.size) (hK1 : ∀ k,K0 k -> k < w.heap.size) (h0 : (pw o (df a b N) st).1 = 0) (hK : W.heap[D]? = some (.deferred (some []))) (hD : w.heap.size + 7 <= D) :
   ((W.setCell ⟨w.heap.size + 1,0,none⟩ (.bool (!(df a b N).isEmpty))).setCell ⟨w.heap.size + 1 + 1,0,none⟩ (.int .i64 0)).heap[D]? = some (.deferred (some [])) /\
   (((W.setCell ⟨w.heap.size + 1,0,none⟩ (.bool (!(df a b N).isEmpty))).setCell ⟨w.heap.size + 1 + 1,0,none⟩ (.int .i64 0)).putObj D (.deferred none)).cell? ⟨w.heap.size + 1,0,none⟩ = some (.bool (!(df a b N).isEmpty)) /\
   (((W.setCell ⟨w.heap.size + 1,0,none⟩ (.bool (!(df a b N).isEmpty))).setCell ⟨w.heap.size + 1 + 1,0,none⟩ (.int .i64 0)).putObj D (.deferred none)).cell? ⟨w.heap.size + 1 + 1,0,none⟩ = some (.int .i64 0) /\
   LaidOut q o N a b st F w (.returned (.tuple #[.bool (!(df a b N).isEmpty),.int .i64 0])) (((W.setCell ⟨w.heap.size + 1,0,none⟩ (.bool (!(df a b N).isEmpty))).setCell ⟨w.heap.size + 1 + 1,0,none⟩ (.int .i64 0)).putObj D (.deferred none)) := by
 have hX := (hi.setB hF hK1 (.bool (!(df a b N).isEmpty))).setE hF hK1 (.int .i64 0)
 have hKX : ((W.setCell ⟨w.heap.size + 1,0,none⟩ (.bool (!(df a b N).isEmpty))).setCell ⟨w.heap.size + 1 + 1,0,none⟩ (.int .i64 0)).heap[D]? = some (.deferred (some [])) := by
   rw [Below.heap_setCell _ _ _ D (by show D ≠ w.heap.size + 1 + 1; omega),Below.heap_setCell _ _ _ D (by show D ≠ w.heap.size + 1; omega)]; exact hK
 generalize ((W.setCell ⟨w.heap.size + 1,0,none⟩ (.bool (!(df a b N).isEmpty))).setCell ⟨w.heap.size + 1 + 1,0,none⟩ (.int .i64 0)) = X at *
 have hY := hX.grown hK1 (grownBy_putObj' X D (.deferred none)) (fun r e => by cases e; exact ⟨hD,_,hKX,rfl⟩)
 have hp := puts_pw o (prs N a b) 0 st (by rw [prs_length]; omega)
 refine ⟨hKX,hY.b.cell,hY.e.cell,?_,F',?_,hY.loc⟩
 · rw [hp]
   have e0 : (pw o (wl 0 (prs N a b) 0) st).1 = 0 := h0
   rw [e0]
   congr 4
   cases hdf : df a b N with
   | nil => simp
   | cons y l => simp
 · rw [hp]; exact hY.disk
theorem lay_stop {w : World} {q o N D : Nat} {st : St} {F K0 : Nat -> Prop} {pre : List (Nat × ByteArray)} (a b : Nat -> ByteArray) {W : World} {F' : Nat -> Prop} {vW : Value} (ho : o <= 4096) (hN : N <= 4096) (hi : LayIn w q o N st F K0 pre W F' (.bool false) (.int .i64 (((pw o pre st).1 : Nat) : Int)) vW) (hK1 : ∀ k,K0 k -> k < w.heap.size) (h0 : (pw o pre st).1 ≠ 0) (hpre : pre <+: df a b N) (hK : W.heap[D]? = some (.deferred (some []))) (hD : w.heap.size + 7 <= D) :
   W.heap[D]? = some (.deferred (some [])) /\ (W.putObj D (.deferred none)).cell? ⟨w.heap.size + 1,0,none⟩ = some (.bool false) /\ (W.putObj D (.deferred none)).cell? ⟨w.heap.size + 1 + 1,0,none⟩ = some (.int .i64 (((pw o pre st).1 : Nat) : Int)) /\
   LaidOut q o N a b st F w (.returned (.tuple #[.bool false,.int .i64 (((pw o pre st).1 : Nat) : Int)])) (W.putObj D (.deferred none)) := by
 have hY := hi.grown hK1 (grownBy_putObj' W D (.deferred none)) (fun r e => by cases e; exact ⟨hD,_,hK,rfl⟩)
 have hp := puts_pw o (prs N a b) 0 st (by rw [prs_length]; omega)
 obtain ⟨rest,hrest⟩ := hpre
 have hdf : wl 0 (prs N a b) 0 = pre ++ rest := hrest.symm
 rw [hdf,pw_err h0] at hp
 refine ⟨hK,hY.b.cell,hY.e.cell,?_,F',?_,hY.loc⟩
 · rw [hp]
   congr 4
   simp [h0]
 · rw [hp]; exact hY.disk
attribute [local go_sem] Oper.semAt_some
set_option maxRecDepth 100000 in
set_option maxHeartbeats 4000000 in
theorem lay_71_72 (q o N pw0 pn0 pn1 : Nat) (a b : Nat -> ByteArray) (st : St) (F K0 : Nat -> Prop) (w : World) (hD : DAt w q st F) (hok : st.Ok) (hlo : st.loose.length + N <= 10000) (hN : N <= 4096) (ho : o <= 4096) (hK0 : ∀ k,K0 k -> k < w.heap.size /\ ¬ F k)
   (hnow : ∀ u i,Kpt K0 w u -> i < N -> Calls Tryz.prog 146 #[.int .i64 (i : Int),.pointer (some ⟨pn0,0,none⟩),.pointer (some ⟨pn1,0,none⟩)] u fun e u' => e = .returned (.string (b i)) /\ Below u.heap.size u u')
   (hwas : ∀ u i,Kpt K0 w u -> i < N -> Calls Tryz.prog 145 #[.int .i64 (i : Int),.pointer (some ⟨pw0,0,none⟩)] u fun e u' => e = .returned (.string (a i)) /\ Below u.heap.size u u') :
   Calls Tryz.prog 159 #[.agg #[.pointer (some ⟨q,0,none⟩),.int .i64 (o : Int),.int .i64 (N : Int)],.func (.func 145) #[] #[.pointer (some ⟨pw0,0,none⟩)],.func (.func 146) #[] #[.pointer (some ⟨pn0,0,none⟩),.pointer (some ⟨pn1,0,none⟩)]] w (LaidOut q o N a b st F w) := by
 have hF : ∀ k,F k -> k < w.heap.size := con.lt hD
 have hK1 : ∀ k,K0 k -> k < w.heap.size := fun k hk => (hK0 k hk).1
 obtain ⟨W0,hW0⟩ : ∃ W0,(((((((w.alloc (.cells #[.pointer (some ⟨q,0,none⟩),.int .i64 (o : Int),.int .i64 (N : Int)] 163)).alloc (.cells #[.bool false] 4)).alloc (.cells #[.int .i64 0] 29)).alloc (.cells #[.bool false] 4)).alloc (.cells #[.pointer (some ⟨q,0,none⟩),.int .i64 (o : Int),.int .i64 (N : Int)] 163)).alloc (.cells #[.func (.func 145) #[] #[.pointer (some ⟨pw0,0,none⟩)]] 165)).alloc (.cells #[.func (.func 146) #[] #[.pointer (some ⟨pn0,0,none⟩),.pointer (some ⟨pn1,0,none⟩)]] 165)) = W0 := ⟨_,rfl⟩
 obtain ⟨hI0,hsz0,hA0,hNow0,hWas0,hkp0⟩ := lay_start q o N st F K0 w hD hK0 (.func (.func 145) #[] #[.pointer (some ⟨pw0,0,none⟩)]) (.func (.func 146) #[] #[.pointer (some ⟨pn0,0,none⟩),.pointer (some ⟨pn1,0,none⟩)]) W0 hW0
 have HIT := hide (diff_71_72 5 (by decide) (w.heap.size + 1 + 1 + 1 + 1) (w.heap.size + 1 + 1 + 1 + 1 + 1 + 1) (w.heap.size + 1 + 1 + 1 + 1 + 1) N pw0 pn0 pn1 (KL w.heap.size K0) a b W0 hN (fun k hk => by rw [hsz0]; exact KL.lt hK1 k hk) (Or.inr (Or.inl rfl)) (Or.inr (Or.inr (Or.inr rfl))) (Or.inr (Or.inr (Or.inl rfl))) hA0 hNow0 hWas0
   (fun u i hu hi => hnow u i (fun k hk => (hu k (Or.inl hk)).trans (hkp0 k hk)) hi) (fun u i hu hi => hwas u i (fun k hk => (hu k (Or.inl hk)).trans (hkp0 k hk)) hi))
 have HNW := hide hnow
 have HI0 := hide hI0
 clear hI0 hnow hwas
 refine (callsIn_wide (n := 6)).1 ?_
 refine callsIn_of_wp_marks Tryz.func159 rfl trivial ?_ rfl
 simp only [Tryz.ntmps159,List.size_toArray,List.length_cons,List.length_nil,Nat.reduceAdd,Nat.reduceSub,Array.replicate_succ,Array.replicate_zero,List.push_toArray,List.append_toArray,List.nil_append,List.cons_append]
 gi_wp2_with (refine ⟨trivial,?_⟩; gi_at_call 166; refine (differing_in _ q (o : Int) (N : Int) 145 146 _ _ _).mono ?_; rintro e w' ⟨rfl,rfl⟩)

 clear hW0 hA0 hNow0 hWas0 hkp0
 refine wpIn_rangeFunc_ownH rfl (by decide) (gf := 172) (lb := #[.pointer (some ⟨w.heap.size + 1 + 1 + 1 + 1,0,none⟩),.pointer (some ⟨w.heap.size + 1 + 1 + 1 + 1 + 1 + 1,0,none⟩),.pointer (some ⟨w.heap.size + 1 + 1 + 1 + 1 + 1,0,none⟩)]) rfl trivial (enters_of Tryz.func172 (by kernel_rfl) rfl)
   HIT.out (fun h k => ⟨Nat.le_trans h.1 k.1,h.2.trans k.2⟩) (fun W l ob ob' hl hh _ _ => kp_put hK1 (by rw [<- hsz0]; exact hl)) (Below.refl _ _) (fun _ => rfl)
   (LIn w q o N st F K0) (LOut w q o N st F K0) (LIn.own hK1 (by rw [hsz0]; exact Nat.le_refl _)) (LOut.own hK1 (by rw [hsz0]; exact Nat.le_refl _))
   HI0.out
   (fun x a' _ => a' = { tmps := #[.agg #[.pointer (some ⟨q,0,none⟩),.int .i64 (o : Int),.int .i64 (N : Int)],.func (.func 145) #[] #[.pointer (some ⟨pw0,0,none⟩)],.func (.func 146) #[] #[.pointer (some ⟨pn0,0,none⟩),.pointer (some ⟨pn1,0,none⟩)],.pointer (some ⟨w.heap.size,0,none⟩),undef,undef,.pointer (some ⟨w.heap.size + 1,0,none⟩),.pointer (some ⟨w.heap.size + 1 + 1,0,none⟩),.pointer (some ⟨w.heap.size + 1 + 1 + 1,0,none⟩),.int .i64 (x.1 : Int),.string x.2,undef,.agg #[.pointer (some ⟨q,0,none⟩),.int .i64 (o : Int),.int .i64 (N : Int)],.func (.func 145) #[] #[.pointer (some ⟨pw0,0,none⟩)],.func (.func 146) #[] #[.pointer (some ⟨pn0,0,none⟩),.pointer (some ⟨pn1,0,none⟩)],.func (.func 172) #[] #[.pointer (some ⟨w.heap.size + 1 + 1 + 1 + 1,0,none⟩),.pointer (some ⟨w.heap.size + 1 + 1 + 1 + 1 + 1 + 1,0,none⟩),.pointer (some ⟨w.heap.size + 1 + 1 + 1 + 1 + 1,0,none⟩)],.int .i64 (x.1 : Int),.string x.2,undef,undef,undef,undef,undef,undef,undef,undef,undef,undef,undef,undef],defers := [] }) (fun x a' _ X Y row hs hg hr => hs)
   ?assign ?body ?done ?stop
 case assign =>
   rintro l pre x W K hi hK
   dsimp only [encD]
   have HK := hide hK
   have HI := hide hi
   clear hK hi
   gi_wp2
   exact HK.out _ _ (KeepsFrom.refl _ _) ⟨Nat.le_refl _,fun _ _ => rfl⟩ HI.out rfl
 case body =>
   rintro l pre x a' W hl ⟨r,hr⟩ ⟨F',hi,h0⟩ rfl hlt
   have hst := LayIn.state hi hok hlo (Nat.le_trans (Nat.le_of_lt hlt) (df_length a b N))
   have hc0 := hi.c0
   have hc1 := hi.c1
   have KW := hide (write_any q _ F' (wrap64 ((o : Int) + (x.1 : Int))) x.2 W hi.disk hst.1 hst.2)
   have HI := hide hi
   have H0 := hide h0
   have HKK := hide hK0
   have HFF := hide hF
   have HK1 := hide hK1
   clear hi h0 hst hK0 hF hK1
   by_cases he : ((pw o pre st).2.write (wrap64 ((o : Int) + (x.1 : Int))) x.2).1 = 0
   · rw [he] at KW
     have HE := hide he
     clear he
     gi_wp2_with (fail)
     refine ⟨trivial,CallsIn.mono (F := Fence.wide) (callsIn_wide.2 KW.out) ?_⟩
     rintro e W1 ⟨rfl,F2,hd,hloc⟩
     have h1 := HI.out.write HFF.out HKK.out H0.out hd hloc
     have hfw := h1.w.frozen
     have hcw := h1.w.cell
     have H1 := hide h1
     have HL := hide hloc
     clear h1 hd hloc
     gi_wp2
     exact lay_go HI.out H1.out HL.out HFF.out HKK.out H0.out HE.out
   · have hez : ¬ (((((pw o pre st).2.write (wrap64 ((o : Int) + (x.1 : Int))) x.2).1 : Nat) : Int) = 0) := by omega
     have HE := hide he
     clear he
     generalize hen : ((pw o pre st).2.write (wrap64 ((o : Int) + (x.1 : Int))) x.2).1 = en at *
     have HEN := hide hen
     clear hen
     gi_wp2_with (fail)
     refine ⟨trivial,CallsIn.mono (F := Fence.wide) (callsIn_wide.2 KW.out) ?_⟩
     rintro e W1 ⟨rfl,F2,hd,hloc⟩
     have h1 := HI.out.write HFF.out HKK.out H0.out hd hloc
     have hfb := h1.b.frozen
     have hcb := h1.b.cell
     have hfe := h1.e.frozen
     have hce := h1.e.cell
     have H1 := hide h1
     have HL := hide hloc
     clear h1 hd hloc
     gi_wp2
     exact lay_no HI.out H1.out HL.out HFF.out HK1.out H0.out (HEN.out.symm ▸ HE.out) HEN.out
 case done =>
   rintro D ys W hD rfl ⟨F',hi,h0⟩ hK
   have hfb := hi.b.frozen
   have hcb := hi.b.cell
   have hfe := hi.e.frozen
   have hce := hi.e.cell
   have hcw := hi.w.cell
   have HI := hide hi
   have H0 := hide h0
   have HK := hide hK
   clear hi h0 hK
   gi_wp2
   obtain ⟨hK',k1,k2,hl⟩ := lay_done a b ho hN HI.out hF hK1 H0.out HK.out (by omega)
   refine ⟨by simp,.inl ⟨_,_,rfl,run_takeDeferred hK',?_⟩⟩
   refine ⟨.tuple #[.bool (!(df a b N).isEmpty),.int .i64 0],?_,hl⟩
   simp [results,Tryz.f159,go_sem,k1,k2]
 case stop =>
   rintro D c pre W hD hpre ⟨rfl,h0,F',vW,hi⟩ hK
   obtain ⟨hK',k1,k2,hl⟩ := lay_stop a b ho hN hi hK1 h0 hpre hK (by omega)
   gi_wp2
   refine ⟨by simp,.inl ⟨_,_,rfl,run_takeDeferred hK',?_⟩⟩
   refine ⟨.tuple #[.bool false,.int .i64 (((pw o pre st).1 : Nat) : Int)],?_,hl⟩
   simp [results,Tryz.f159,go_sem,k1,k2]
attribute [local go_sem] Oper.semAt_some
set_option maxRecDepth 100000 in
set_option maxHeartbeats 2000000 in
theorem diff1_72_66 (n : Nat) (_hn : 1 <= n) (l Ba Bn Bw N pw0 pw1 pn0 : Nat) (K : Nat -> Prop) (a b : Nat -> ByteArray) (J Jx : List (Nat × ByteArray) -> World -> Prop) (W : World) (hN : N <= 4096) (hJ : AbidesFrom W.heap.size J)
   (hY : ∀ pre x W1,J pre W1 -> pre.length < (df a b N).length -> YieldAt Fence.wide (n - 1) Tryz.prog l (encD x) W1 fun e W' =>
     (e = .returned (.bool true) /\ J (pre ++ [x]) W' /\ (W1.heap.size <= W'.heap.size /\ Kpt K W1 W')) \/ (e = .returned (.bool false) /\ Jx (pre ++ [x]) W'))
   (hK : ∀ k,K k -> k < W.heap.size) (hKn : K Bn) (hKw : K Bw)
   (hA : W.cell? ⟨Ba,2,none⟩ = some (.int .i64 (N : Int))) (hBn : W.cell? ⟨Bn,0,none⟩ = some (.func (.func 129) #[] #[.pointer (some ⟨pn0,0,none⟩)])) (hBw : W.cell? ⟨Bw,0,none⟩ = some (.func (.func 146) #[] #[.pointer (some ⟨pw0,0,none⟩),.pointer (some ⟨pw1,0,none⟩)]))
   (hnow : ∀ u i,Kpt K W u -> i < N -> Calls Tryz.prog 129 #[.int .i64 (i : Int),.pointer (some ⟨pn0,0,none⟩)] u fun e u' => e = .returned (.string (b i)) /\ Below u.heap.size u u')
   (hwas : ∀ u i,Kpt K W u -> i < N -> Calls Tryz.prog 146 #[.int .i64 (i : Int),.pointer (some ⟨pw0,0,none⟩),.pointer (some ⟨pw1,0,none⟩)] u fun e u' => e = .returned (.string (a i)) /\ Below u.heap.size u u')
   (h0 : J [] W) :
   CallsIn Fence.wide n Tryz.prog 172 #[.func (.yield l) #[] #[],.pointer (some ⟨Ba,0,none⟩),.pointer (some ⟨Bn,0,none⟩),.pointer (some ⟨Bw,0,none⟩)] W fun e W' => (∃ v,e = .returned v) /\
     ((∃ ys,ys = df a b N /\ J ys W') \/ (∃ pre,pre <+: df a b N /\ Jx pre W')) := by
 refine callsIn_of_wp Tryz.func172 rfl trivial ?_ rfl
 simp only [Tryz.ntmps172,List.size_toArray,List.length_cons,List.length_nil,Nat.reduceAdd,Nat.reduceSub,Array.replicate_succ,Array.replicate_zero,List.push_toArray,List.append_toArray,List.nil_append,List.cons_append]
 gi_wp2
 gi_loopw [5,6,9] (fun _ _ c wr => ∃ k : Nat,k <= N /\ c = .int .i64 (k : Int) /\ J (df a b k) wr /\ W.heap.size <= wr.heap.size /\ Kpt K W wr) (fun _ _ c _ => N - (intOf c).toNat)
 case atStart => exact ⟨0,Nat.zero_le _,rfl,h0,Nat.le_refl _,fun _ _ => rfl⟩
 case round =>
   obtain ⟨k,hk,rfl,hJk,hsz,hkp⟩ := hrel
   have HJk := hide hJk
   have HJ := hide hJ
   have HY := hide hY
   have HKP := hide hkp
   have HNW := hide hnow
   have HWS := hide hwas
   have HN := hide hN
   have HK := hide hK
   have HA := hide hA
   have HBn := hide hBn
   have HBw := hide hBw
   have hcn := hkp.cell hKn hBn
   clear hJk hJ hY hkp hnow hwas h0 hN hK hA hBn hBw
   by_cases hlt : k < N
   · have hz : (k : Int) < (N : Int) := by omega
     have hkN : k <= 4096 := by have := HN.out; omega
     have hw : IntKind.i64.wrap ((k : Int) + 1) = (k : Int) + 1 := by rw [IntKind.wrap_i64]; omega
     by_cases hab : a k = b k
     · have HD : Hid (df a b (k + 1) = df a b k) := by show _ = _; rw [df_succ,if_pos hab,List.append_nil]
       gi_wp2_with (fail)
       refine ⟨trivial,(callsIn_wide.2 (HNW.out _ k HKP.out hlt)).mono ?_⟩
       rintro e w1 ⟨rfl,hb1⟩
       have HKP1 := hide (HKP.out.below HK.out hsz hb1)
       have hsz1 := Nat.le_trans hsz hb1.size
       have hcw := HKP1.out.cell hKw HBw.out
       have HJ1 := hide (HJ.out _ _ _ none HJk.out (grown_of_below hb1) (fun r e => by cases e))
       clear hb1
       gi_wp2_with (fail)
       refine ⟨trivial,(callsIn_wide.2 (HWS.out _ k HKP1.out hlt)).mono ?_⟩
       rintro e w2 ⟨rfl,hb2⟩
       have HKP2 := hide (HKP1.out.below HK.out hsz1 hb2)
       have hsz2 := Nat.le_trans hsz1 hb2.size
       have hJ2 := HJ.out _ _ _ none HJ1.out (grown_of_below hb2) (fun r e => by cases e)
       clear hb2
       rw [hab]
       have HJ2 := hide hJ2
       clear hJ2
       gi_wp2_with (refine ⟨fun _ h => (by cases h),?_⟩)
       go_roundw
       case rel => exact ⟨k + 1,hlt,by go_num,by rw [HD.out]; exact HJ2.out,hsz2,HKP2.out⟩
       case measure => simp [intOf]; omega
     · gi_wp2_with (fail)
       refine ⟨trivial,(callsIn_wide.2 (HNW.out _ k HKP.out hlt)).mono ?_⟩
       rintro e w1 ⟨rfl,hb1⟩
       have HKP1 := hide (HKP.out.below HK.out hsz hb1)
       have hsz1 := Nat.le_trans hsz hb1.size
       have hcw := HKP1.out.cell hKw HBw.out
       have HJ1 := hide (HJ.out _ _ _ none HJk.out (grown_of_below hb1) (fun r e => by cases e))
       clear hb1
       gi_wp2_with (fail)
       refine ⟨trivial,(callsIn_wide.2 (HWS.out _ k HKP1.out hlt)).mono ?_⟩
       rintro e w2 ⟨rfl,hb2⟩
       have HKP2 := hide (HKP1.out.below HK.out hsz1 hb2)
       have hsz2 := Nat.le_trans hsz1 hb2.size
       have hJ2 := HJ.out _ _ _ none HJ1.out (grown_of_below hb2) (fun r e => by cases e)
       clear hb2
       have hne : ((b k).toList == (a k).toList) = false := toList_ne (fun e => hab e.symm)
       have hDs : df a b (k + 1) = df a b k ++ [(k,b k)] := by rw [df_succ,if_neg hab]
       have hpre : df a b k ++ [(k,b k)] <+: df a b N := by rw [<- hDs,show N = k + 1 + (N - (k + 1)) from by omega]; exact df_prefix a b (k + 1) _
       have hlen : (df a b k).length < (df a b N).length := by
         have := hpre.length_le
         rw [List.length_append] at this
         simp at this
         omega
       obtain ⟨fn,tmps,assign,body,hy0,hR⟩ := HY.out (df a b k) (k,b k) w2 hJ2 hlen
       have hy : (Instr.yield l #[.int .i64 (k : Int),.string (b k)]).run Tryz.prog w2 = .ok (.round l fn tmps assign body) w2 := hy0
       have HD := hide hDs
       have HP := hide hpre
       clear hy0 hDs hpre hlen hJ2
       gi_wp2
       refine hR.mono ?_
       rintro e W3 (⟨rfl,hJ3,hs3,hk3⟩ | ⟨rfl,hJx3⟩)
       · have HJ3 := hide hJ3
         have HKP3 := hide (HKP2.out.trans hk3)
         clear hJ3 hk3
         gi_wp2
         go_roundw
         case rel => exact ⟨k + 1,hlt,by go_num,by rw [HD.out]; exact HJ3.out,Nat.le_trans hsz2 hs3,HKP3.out⟩
         case measure => simp [intOf]; omega
       · have HJx3 := hide hJx3
         clear hJx3
         gi_wp2
         refine bodyPost_ret (results_none rfl _ _ _) rfl ?_
         exact ⟨⟨_,rfl⟩,.inr ⟨_,HP.out,HJx3.out⟩⟩
   · have hkN : k = N := by omega
     subst hkN
     gi_wp2
     go_end0
     exact ⟨⟨_,rfl⟩,.inl ⟨_,rfl,HJk.out⟩⟩
theorem diff_72_66 (n : Nat) (hn : 1 <= n) (Ba Bn Bw N pw0 pw1 pn0 : Nat) (K : Nat -> Prop) (a b : Nat -> ByteArray) (w : World) (hN : N <= 4096)
   (hK : ∀ k,K k -> k < w.heap.size) (hKa : K Ba) (hKn : K Bn) (hKw : K Bw)
   (hA : w.cell? ⟨Ba,2,none⟩ = some (.int .i64 (N : Int))) (hBn : w.cell? ⟨Bn,0,none⟩ = some (.func (.func 129) #[] #[.pointer (some ⟨pn0,0,none⟩)])) (hBw : w.cell? ⟨Bw,0,none⟩ = some (.func (.func 146) #[] #[.pointer (some ⟨pw0,0,none⟩),.pointer (some ⟨pw1,0,none⟩)]))
   (hnow : ∀ u i,Kpt K w u -> i < N -> Calls Tryz.prog 129 #[.int .i64 (i : Int),.pointer (some ⟨pn0,0,none⟩)] u fun e u' => e = .returned (.string (b i)) /\ Below u.heap.size u u')
   (hwas : ∀ u i,Kpt K w u -> i < N -> Calls Tryz.prog 146 #[.int .i64 (i : Int),.pointer (some ⟨pw0,0,none⟩),.pointer (some ⟨pw1,0,none⟩)] u fun e u' => e = .returned (.string (a i)) /\ Below u.heap.size u u') :
   SeqStopsK Fence.wide n Tryz.prog 172 #[.pointer (some ⟨Ba,0,none⟩),.pointer (some ⟨Bn,0,none⟩),.pointer (some ⟨Bw,0,none⟩)] encD (fun A B => A.heap.size <= B.heap.size /\ Kpt K A B) (fun ys => ys = df a b N) (fun pre => pre <+: df a b N) (df a b N).length w := fun l J Jx W hW hJ _ hY h0 =>
 have hk : Kpt K w W := fun k hk => hW.block k (hK k hk)
 diff1_72_66 n hn l Ba Bn Bw N pw0 pw1 pn0 K a b J Jx W hN hJ hY (fun k h => Nat.lt_of_lt_of_le (hK k h) hW.size) hKn hKw (hk.cell hKa hA) (hk.cell hKn hBn) (hk.cell hKw hBw) (fun u i hu hi => hnow u i (hk.trans hu) hi) (fun u i hu hi => hwas u i (hk.trans hu) hi) h0
end Go.Proofs.YtchhojkhfdkhfaaGreatDoor
