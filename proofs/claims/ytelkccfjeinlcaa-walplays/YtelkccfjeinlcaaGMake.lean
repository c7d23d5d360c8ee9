/- The program's log: a block is made of a stream. The program's log: blocksOf's closure. The program's log: the closures of mend. -/
import Derived.Test.YtelkccfjeinlcaaG1Small
import Derived.Laws.CopyRow
namespace Go.Proofs.Ytelkccfjeinlcaa
open Go Go.RowKit Frm
/-- 'copy(dst, s)', whatever the lengths. -/
theorem run_copy_some {P : Program} (w : World) (dT sT ty elem : TypeId) (g o dLen dCap : Nat) (s : ByteArray) (cur : Array Value) (t : TypeId)
    (hu : P.underlying dT = some (.slice elem)) (hs : (P.info? elem).map (·.size) = some 1) (hg : w.heap[g]? = some (.cells cur t (0, 0))) (m : Nat) (hm : Nat.min s.size dLen = m) (hfit : o + m ≤ cur.size) :
    (Builtin.copy_ #[dT, sT] ty #[.slice (some ⟨g, o, none⟩) dLen dCap, .string s]).run P w =
      .ok (goInt m) (w.setRow g (cur.toList.take o ++ Lib.byteCells (s.data.toList.take m) ++ cur.toList.drop (o + m)).toArray) := by
  have hms : m ≤ s.size := by rw [← hm]; exact Nat.min_le_left _ _
  have hlen : (Lib.byteCells (s.data.toList.take m)).length = m := by
    rw [Lib.byteCells_length, List.length_take, ← Lib.size_eq]; omega
  have hst := run_storeCells_at P g o t (Lib.byteCells (s.data.toList.take m)) 0 cur w hg (by rw [hlen]; simpa using hfit) (Lib.byteCells_one _)
  have htk : List.take m (List.map (fun b : UInt8 => Value.int IntKind.u8 (b.toNat : Int)) s.data.toList) = Lib.byteCells (s.data.toList.take m) := by
    rw [← List.map_take]
    rfl
  rw [hlen] at hst
  simp only [Nat.add_zero] at hst
  cases hq : P.info? elem with
  | none => simp [hq] at hs
  | some i =>
    simp [Builtin.copy_, run_underlying hu, Builtin.lenOf, Builtin.firstCells, sizeOf, typeInfo, hq, hm]
    rw [htk, hst]
    simp [Result.andThen]
/-- 256 cells of bytes 0. -/
theorem z78_eq : Try.zeroCells78 = (List.replicate 256 (Value.int .u8 0)).toArray := by kernel_rfl
/-- The bytes of a block ahead of its count. -/
def ahead (s : ByteArray) (k : Nat) : List UInt8 := (s.extract (min (k * 255) s.size) s.size).data.toList.take (cnt k s.size) ++ List.replicate (256 - cnt k s.size) 0
theorem ahead_len (s : ByteArray) (k : Nat) : (ahead s k).length = 256 := by
  have h1 := cnt_le k s.size
  have h2 : cnt k s.size ≤ s.size - k * 255 := by unfold cnt; omega
  unfold ahead
  rw [List.length_append, List.length_take, List.length_replicate, Array.length_toList]
  have : (s.extract (min (k * 255) s.size) s.size).data.size = (s.extract (min (k * 255) s.size) s.size).size := rfl
  rw [this, ByteArray.size_extract]
  omega
theorem ahead_blk (s : ByteArray) (k : Nat) : (⟨((ahead s k).set 255 (UInt8.ofNat (cnt k s.size))).toArray⟩ : ByteArray) = blkOf s k := by
  have h1 := cnt_le k s.size
  have h2 : cnt k s.size = min 255 (s.size - k * 255) := rfl
  have hb := blk_list s k (min (k * 255) s.size) (min (min (k * 255) s.size + 255) s.size) rfl rfl
  have hc : min (min (k * 255) s.size + 255) s.size - min (k * 255) s.size = cnt k s.size := by omega
  rw [hc] at hb
  rw [← hb]
  have hl : ((s.extract (min (k * 255) s.size) s.size).data.toList.take (cnt k s.size)) = (s.extract (min (k * 255) s.size) (min (min (k * 255) s.size + 255) s.size)).data.toList := by
    rw [ByteArray.data_extract, ByteArray.data_extract, Array.toList_extract, Array.toList_extract]
    have : s.data.toList.length = s.size := by rw [Array.length_toList]; rfl
    simp only [List.extract_eq_take_drop]
    rw [List.take_take]
    congr 1
    omega
  congr 2
  unfold ahead
  rw [hl, List.set_append_right _ _ (by rw [← hl, List.length_take]; omega)]
  have hlen : (s.extract (min (k * 255) s.size) (min (min (k * 255) s.size + 255) s.size)).data.toList.length = cnt k s.size := by
    rw [Array.length_toList]
    have : (s.extract (min (k * 255) s.size) (min (min (k * 255) s.size + 255) s.size)).data.size = (s.extract (min (k * 255) s.size) (min (min (k * 255) s.size + 255) s.size)).size := rfl
    rw [this, ByteArray.size_extract]
    omega
  rw [hlen, List.append_assoc]
  congr 1
  rw [show 256 - cnt k s.size = (255 - cnt k s.size) + 1 from by omega, List.replicate_succ', List.set_append_right _ _ (by rw [List.length_replicate]; exact Nat.le_refl _), List.length_replicate, Nat.sub_self]
  rfl
theorem bc_replicate (n : Nat) : List.replicate n (Value.int .u8 0) = Lib.byteCells (List.replicate n 0) := by
  unfold Lib.byteCells
  rw [List.map_replicate]
  rfl
theorem bc_append (a b : List UInt8) : Lib.byteCells a ++ Lib.byteCells b = Lib.byteCells (a ++ b) := by unfold Lib.byteCells; rw [List.map_append]
/-- A block's bytes go into the array. -/
theorem copy78 (w : World) (s : ByteArray) (k : Nat) (ty : TypeId) : (Builtin.copy_ #[65, 9] ty #[.slice (some ⟨w.heap.size, 0, none⟩) 255 256, .string (s.extract (min (k * 255) s.size) s.size)]).run Try.prog (w.alloc (.cells Try.zeroCells78 78)).drew =
    .ok (goInt (cnt k s.size)) (w.alloc (.cells (Lib.byteCells (ahead s k)).toArray 78)).drew := by
  have h1 := cnt_le k s.size
  have h2 : cnt k s.size = min 255 (s.size - k * 255) := rfl
  have hg : (w.alloc (.cells Try.zeroCells78 78)).drew.heap[w.heap.size]? = some (.cells Try.zeroCells78 78 (0, 0)) := World.alloc_heap_new w _
  have hsz : Try.zeroCells78.size = 256 := by rw [z78_eq, List.size_toArray, List.length_replicate]
  have h := run_copy_some (P := Try.prog) (w.alloc (.cells Try.zeroCells78 78)).drew 65 9 ty 5 w.heap.size 0 255 256 (s.extract (min (k * 255) s.size) s.size) Try.zeroCells78 78 Try.underlying65 size5 hg (cnt k s.size) (by rw [ByteArray.size_extract]; show min _ _ = _; omega) (by rw [hsz]; omega)
  have hrow : (Try.zeroCells78.toList.take 0 ++ Lib.byteCells ((s.extract (min (k * 255) s.size) s.size).data.toList.take (cnt k s.size)) ++ Try.zeroCells78.toList.drop (0 + cnt k s.size)).toArray = (Lib.byteCells (ahead s k)).toArray := by
    rw [z78_eq, List.take_zero, List.nil_append, Nat.zero_add, List.drop_replicate, bc_replicate, bc_append]
    rfl
  rw [hrow] at h
  have e : (w.alloc (.cells Try.zeroCells78 78)).drew.setRow w.heap.size (Lib.byteCells (ahead s k)).toArray = (w.alloc (.cells (Lib.byteCells (ahead s k)).toArray 78)).drew := by
    have h1 : (w.alloc (.cells Try.zeroCells78 78)).drew.setRow w.heap.size (Lib.byteCells (ahead s k)).toArray = ((w.alloc (.cells Try.zeroCells78 78)).setRow w.heap.size (Lib.byteCells (ahead s k)).toArray).drew := rfl
    rw [h1, World.setRow_alloc_new]
  rw [h, e]
/-- What the walk needs of the world between the copy and the end. -/
theorem made78 (w : World) (s : ByteArray) (k : Nat) : ∃ W, (w.alloc (.cells (Lib.byteCells (ahead s k)).toArray 78)).drew = W ∧ (∃ v, W.cell? ⟨w.heap.size, 255, none⟩ = some v) ∧ W.frozen? ⟨w.heap.size, 255, none⟩ = false ∧ (∀ B, B < w.heap.size → W.heap[B]? = w.heap[B]?) ∧
    (convert 65 9 (.slice (some ⟨w.heap.size, 0, none⟩) 256 256)).run Try.prog (W.setCell ⟨w.heap.size, 255, none⟩ (.int .u8 ((cnt k s.size : Nat) : Int))) = .ok (.string (blkOf s k)) (W.setCell ⟨w.heap.size, 255, none⟩ (.int .u8 ((cnt k s.size : Nat) : Int))) ∧
    Below w.heap.size w (W.setCell ⟨w.heap.size, 255, none⟩ (.int .u8 ((cnt k s.size : Nat) : Int))) := by
  have hl := ahead_len s k
  have hW : (w.alloc (.cells (Lib.byteCells (ahead s k)).toArray 78)).drew.heap[w.heap.size]? = some (.cells (Lib.byteCells (ahead s k)).toArray 78 (0, 0)) := World.alloc_heap_new w _
  refine ⟨_, rfl, ⟨(Lib.byteCells (ahead s k))[255]'(by rw [Lib.byteCells_length, hl]; omega), ?_⟩, free_of hW 255, fun B hB => Below.heap_alloc w _ B hB, ?_, (((Below.refl _ _).alloc (Nat.le_refl _) _).drew).setCell (Nat.le_refl _) _⟩
  · rw [cell_of_row _ _ _ _ _ _ hW]; simp [Lib.byteCells_length, hl]
  · have key := run_convert_bytes_back (P := Try.prog) ((w.alloc (.cells (Lib.byteCells (ahead s k)).toArray 78)).drew.setCell ⟨w.heap.size, 255, none⟩ (.int .u8 ((cnt k s.size : Nat) : Int))) 65 9 5 ⟨w.heap.size, 0, none⟩ 256 ((ahead s k).set 255 (UInt8.ofNat (cnt k s.size))) Try.underlying65 Try.underlying5 Try.underlying9 (fun j hj => by
      rw [List.length_set] at hj
      rw [add_at, cell_of_row _ _ _ _ _ _ (heap_set3 hW _)]
      have h1 := cnt_le k s.size
      by_cases e : j = 255
      · subst e
        simp only [List.getElem_set_self, Array.getElem?_setIfInBounds, if_true, List.size_toArray, Lib.byteCells_length, hl]
        rw [if_pos (by omega), UInt8.toNat_ofNat', Nat.mod_eq_of_lt (by omega)]
      · rw [List.getElem_set_ne (by omega)]
        simp only [Array.getElem?_setIfInBounds, if_neg (show ¬ 255 = j by omega), List.getElem?_toArray]
        unfold Lib.byteCells
        rw [List.getElem?_map, List.getElem?_eq_getElem hj]
        rfl)
    rw [List.length_set, hl] at key
    rw [key, ahead_blk]
end Go.Proofs.Ytelkccfjeinlcaa
namespace Go.Proofs.Ytelkccfjeinlcaa
open Go Go.RowKit Frm
set_option maxRecDepth 10000 in
set_option maxHeartbeats 2000000 in
theorem blk_any (s : ByteArray) (B i : Nat) (w : World) (hB : w.cell? ⟨B, 0, none⟩ = some (.string s)) (hi : i ≤ 4096) :
    Calls Try.prog 66 #[.int .i64 (i : Int), .pointer (some ⟨B, 0, none⟩)] w fun e w' => e = .returned (.string (blkOf s i)) ∧ Below w.heap.size w w' := by
  have hz3 : IntKind.i64.wrap ((i : Int) * 255) = (i : Int) * 255 := by rw [IntKind.wrap_i64]; omega
  have hcp := copy78 w s i
  obtain ⟨lo, hlo⟩ : ∃ lo, lo = min (i * 255) s.size := ⟨_, rfl⟩
  have hmn : min ((i : Int) * 255) (s.size : Int) = (lo : Int) := by omega
  have hz4 : (0 : Int) ≤ (lo : Int) := by omega
  have hz5 : (lo : Int) ≤ (s.size : Int) := by omega
  rw [← hlo] at hcp
  obtain ⟨W2, hW2, ⟨v255, hc2⟩, hf2, hold2, hcv, hbl⟩ := made78 w s i
  rw [hW2] at hcp
  have hBlt : B < w.heap.size := World.block_lt_of_cell? w _ hB
  have hB0 : (w.alloc (.cells Try.zeroCells78 78)).cell? ⟨B, 0, none⟩ = some (.string s) := (World.cell?_of_block (a := ⟨B, 0, none⟩) (Below.heap_alloc w _ B hBlt)).trans hB
  have hB2 : W2.cell? ⟨B, 0, none⟩ = some (.string s) := (World.cell?_of_block (a := ⟨B, 0, none⟩) (hold2 B hBlt)).trans hB
  have hne : ¬ B = w.heap.size := by omega
  have hB3 : (W2.setCell ⟨w.heap.size, 255, none⟩ (.int .u8 ((cnt i s.size : Nat) : Int))).cell? ⟨B, 0, none⟩ = some (.string s) := (cell_set_ne W2 B 0 w.heap.size 255 _ hne).trans hB2
  have hk := cnt_le i s.size
  have hkz : IntKind.u8.wrap (((cnt i s.size : Nat) : Int)) = ((cnt i s.size : Nat) : Int) := by rw [IntKind.wrap_u8]; omega
  have HBL := hide hbl
  have HCV := hide hcv
  have HK := hide hk
  clear hbl hold2 hcv hBlt hB hW2 hk hlo
  generalize blkOf s i = R at *
  generalize cnt i s.size = k at *
  go_enter Try.func66, Try.ntmps66
  go_wp2_with fail
  have hB1 : (w.alloc (.cells Try.zeroCells78 78)).drew.cell? ⟨B, 0, none⟩ = some (.string s) := hB0
  generalize w.alloc (.cells Try.zeroCells78 78) = W at *
  go_region_held3 (fun z => z.cell? ⟨B, 0, none⟩ = some (.string s))
    (first | (with_reducible exact hB1) | (with_reducible exact hB2) | (with_reducible exact hB3))
    (fail)
  have hcv2 := HCV.out
  go_wp2
  go_ret
  exact ⟨rfl, HBL.out⟩
end Go.Proofs.Ytelkccfjeinlcaa
namespace Go.Proofs.Ytelkccfjeinlcaa
open Go Go.RowKit Frm
set_option maxHeartbeats 1000000 in
theorem are_any (l : List ByteArray) (B i : Nat) (a : Option Addr) (c : Nat) (w : World) (hB : w.cell? ⟨B, 0, none⟩ = some (.slice a l.length c)) (hl : StrsAt w a l) (hi : i < l.length) (hn : l.length ≤ 4096) :
    Calls Try.prog 71 #[.int .i64 (i : Int), .pointer (some ⟨B, 0, none⟩)] w fun e w' => e = .returned (.string l[i]) ∧ Below w.heap.size w w' := by
  rcases hl with rfl | ⟨b, off, rfl, hc⟩
  · exact absurd hi (by simp)
  have h1 := hc i hi
  have hz : (i : Int) < (l.length : Int) := by omega
  clear hc
  go_enter Try.func71, Try.ntmps71
  go_wp2
  go_ret
  exact ⟨rfl, Below.refl _ _⟩
theorem cellB {w u : World} (h : Below w.heap.size w u) {a : Addr} {v : Value} (hc : w.cell? a = some v) : u.cell? a = some v := (h.cell (World.block_lt_of_cell? w _ hc)).trans hc
theorem oldS {w u : World} {x y z : Addr} {v0 v1 v2 : Value} (h0 : w.cell? x = some v0) (h1 : w.cell? y = some v1) (h2 : w.cell? z = some v2) (h : Below w.heap.size w u) : u.cell? x = some v0 ∧ u.cell? y = some v1 ∧ u.cell? z = some v2 ∧ Below w.heap.size w u := ⟨cellB h h0, cellB h h1, cellB h h2, h⟩
set_option maxHeartbeats 1000000 in
theorem counted_any (l : List ByteArray) (s : ByteArray) (B Bm Bs i : Nat) (a : Option Addr) (c : Nat) (w : World) (hB : w.cell? ⟨B, 0, none⟩ = some (.slice a l.length c)) (hM : w.cell? ⟨Bm, 0, none⟩ = some (.func (.func 66) #[] #[.pointer (some ⟨Bs, 0, none⟩)])) (hs : w.cell? ⟨Bs, 0, none⟩ = some (.string s)) (hl : StrsAt w a l) (hi : i < l.length) (hn : l.length ≤ 4096) (h256 : l[i].size = 256) :
    Calls Try.prog 72 #[.int .i64 (i : Int), .pointer (some ⟨B, 0, none⟩), .pointer (some ⟨Bm, 0, none⟩)] w fun e w' => e = .returned (.string (recount l[i] s i)) ∧ Below w.heap.size w w' := by
  rcases hl with rfl | ⟨b, off, rfl, hc⟩
  · exact absurd hi (by simp)
  have h1 := hc i hi
  have hz : (i : Int) < (l.length : Int) := by omega
  have hz0 : (0 : Int) ≤ (i : Int) := by omega
  clear hc
  have hb1 : (blkOf s i).size = 256 := blkOf_size s i
  have hR : recount l[i] s i = l[i].extract 0 255 ++ (blkOf s i).extract 255 256 := rfl
  have HB := hide hB
  have HM := hide hM
  have HS := hide hs
  have H1 := hide h1
  have HR := hide hR
  have hi4 : i ≤ 4096 := by omega
  have HC : Hid (∀ u, Below w.heap.size w u → Calls Try.prog 66 #[.int .i64 (i : Int), .pointer (some ⟨Bs, 0, none⟩)] u fun e w' => e = .returned (.string (blkOf s i)) ∧ Below u.heap.size u w') := fun u hu => blk_any s Bs i u (cellB hu hs) hi4
  have HI := hide hi4
  clear hB hM hs h1 hR hi4
  generalize recount l[i] s i = R at *
  generalize blkOf s i = T at *
  generalize l[i] = C at *
  have hz5 : (255 : Int) ≤ (C.size : Int) := by omega
  have hz6 : (255 : Int) ≤ (T.size : Int) := by omega
  go_enter Try.func72, Try.ntmps72
  go_wp2_with fail
  go_region_held3 (fun z => z.cell? ⟨B, 0, none⟩ = some (.slice (some ⟨b, off, none⟩) l.length c) ∧ z.cell? ⟨Bm, 0, none⟩ = some (.func (.func 66) #[] #[.pointer (some ⟨Bs, 0, none⟩)]) ∧ z.cell? ⟨b, off + i, none⟩ = some (.string C) ∧ Below w.heap.size w z)
    (((with_reducible refine oldS HB.out HM.out H1.out ?_); first | (with_reducible exact (Below.refl _ _).drew) | ((with_reducible refine bnext ?_ hbc); go_split_ands; with_reducible assumption)))
    ((go_at_call 66; refine (HC.out _ (by go_split_ands; with_reducible assumption)).mono ?_; rintro e w1 ⟨rfl, hbc⟩))
  go_split_ands
  go_wp2
  go_ret
  exact ⟨by rw [HR.out]; rfl, by with_reducible assumption⟩
end Go.Proofs.Ytelkccfjeinlcaa
