/- Regions that draw, with whole rows: what may be taken first; copies into a row. -/
import Derived.Test.YtiebhdgpnloieaaDoorKit
import Derived.Test.YtiebhdgpnloieaaDoorCp
import Derived.Test.YtiebhdgpnloieaaDoorWrite
import Derived.Deep.RegionHeld3
import Derived.Laws.CopyRow
namespace Go.Proofs.YtiebhdgpnloieaaDoor
open Go Go.RowKit Frm
/-- What holds under more holds under less. -/
theorem wpAnyH_weak {P : Program} {md : Region.Mode} {ops : Array Oper} {Q : Exit → Act → World → Prop} {S S' : World → Prop} (hs : ∀ w, S' w → S w) :
    ∀ {fuel : Nat} {listed : Array Bool} {a : Act} {w : World}, wpAnyH P md ops Q S' fuel listed a w → wpAnyH P md ops Q S fuel listed a w
  | 0, _, _, _, h => h
  | _ + 1, _, _, _, h => ⟨h.1, fun i hi => wpOp_mono (fun _ _ h' => ⟨hs _ h'.1, wpAnyH_weak hs h'.2⟩) (h.2 i hi)⟩
/-- An operation that yields the same in every world that meets S is taken first; its slot is written out. -/
theorem takeAt {P : Program} {md : Region.Mode} {ops : Array Oper} {Q : Exit → Act → World → Prop} {S : World → Prop} (i d : Nat) {oi : Oper} {v : Value} {fuel : Nat} {listed : Array Bool} {a : Act} {w : World} (hi : ops[i]? = some oi) (hd : oi.dst = some d)
    (hs : Region.noSelect ops = true) (hf : Region.free md ops listed i = true) (hr : (Region.ready md ops listed).contains i = true)
    (hQ : ∀ c a w, Q (.panic c) (a.put oi.dst v) w → Q (.panic c) a w) (hy : YieldsIf P ops S oi v a) (hS : S w)
    (h : wpAnyH P md ops Q S fuel (listed.setIfInBounds i true) { tmps := a.tmps.setIfInBounds d v, defers := a.defers } w) : wpAnyH P md ops Q S (fuel + 1) listed a w := by
  refine wpAnyH_take hi hs hf hr hQ hy hS ?_
  rw [hd]
  exact h
/-- A whole row is loaded. -/
theorem exec_load_row {P : Program} {ev : Operand → Value} {o : Oper} {w : World} (ty : TypeId) (x : Operand) (ho : o.op = .load ty x)
    (g : Nat) (hx : ev x = .pointer (some ⟨g, 0, none⟩)) (t : TypeId) (cs : Array Value) (fr : Nat × Nat) (d : TypeDesc) (hg : w.heap[g]? = some (.cells cs t fr))
    (hu : P.underlying ty = some d) (hd : (match d with | .struct _ | .array _ _ => true | _ => false) = true) (hi : (P.info? ty).map (·.size) = some cs.size) :
    (execOp ev o).run P w = .ok (.value (.agg cs)) w := by
  unfold execOp
  simp only [ho, hx, Instr.loadAt, Instr.sureAddr, Sem.run_bind, Sem.run_pure, Result.andThen_ok, run_loadVar_row w g t ty cs fr d hg hu hd hi]
/-- 'copy(dst, s)', whatever the lengths. -/
theorem run_copy_some {P : Program} (w : World) (dT sT ty elem : TypeId) (g o dLen dCap : Nat) (s : ByteArray) (cur : Array Value) (t : TypeId)
    (hu : P.underlying dT = some (.slice elem)) (hs : (P.info? elem).map (·.size) = some 1) (hg : w.heap[g]? = some (.cells cur t (0, 0))) (m : Nat) (hm : Nat.min s.size dLen = m) (hfit : o + m ≤ cur.size) :
    (Builtin.copy_ #[dT, sT] ty #[.slice (some ⟨g, o, none⟩) dLen dCap, .string s]).run P w =
      .ok (goInt m) (w.setRow g (cur.toList.take o ++ Lib.byteCells (s.data.toList.take m) ++ cur.toList.drop (o + m)).toArray) := by
  have hms : m ≤ s.size := by rw [← hm]; exact Nat.min_le_left _ _
  have hlen : (Lib.byteCells (s.data.toList.take m)).length = m := by
    rw [Lib.byteCells_length, List.length_take, ← Lib.size_eq]; omega
  have hst := run_storeCells_at P g o t (Lib.byteCells (s.data.toList.take m)) 0 cur w hg (by rw [hlen]; simpa using hfit) (Lib.byteCells_one _)
  have htk : List.take m (List.map (fun b : UInt8 => Value.int IntKind.u8 (b.toNat : Int)) s.data.toList) = Lib.byteCells (s.data.toList.take m) := by
    rw [← List.map_take]
    rfl
  rw [hlen] at hst
  simp only [Nat.add_zero] at hst
  cases hq : P.info? elem with
  | none => simp [hq] at hs
  | some i =>
    simp [Builtin.copy_, run_underlying hu, Builtin.lenOf, Builtin.firstCells, sizeOf, typeInfo, hq, hm]
    rw [htk, hst]
    simp [Result.andThen]
theorem bc_replicate (n : Nat) : List.replicate n (Value.int .u8 0) = Lib.byteCells (List.replicate n 0) := by
  unfold Lib.byteCells
  rw [List.map_replicate]
  rfl
theorem bc_append (a b : List UInt8) : Lib.byteCells a ++ Lib.byteCells b = Lib.byteCells (a ++ b) := by unfold Lib.byteCells; rw [List.map_append]
theorem z71_eq : Tryd.zeroCells71 = (List.replicate 256 (Value.int .u8 0)).toArray := by kernel_rfl
theorem z71_size : Tryd.zeroCells71.size = 256 := by rw [z71_eq, List.size_toArray, List.length_replicate]
theorem size71b : (Tryd.prog.info? 71).map (·.size) = some 256 := by kernel_rfl
set_option maxRecDepth 10000 in
/-- The rest of a text, into an array of bytes 0: its block. -/
theorem copyBlk (w : World) (t : ByteArray) (i : Nat) (ty : TypeId) :
    (Builtin.copy_ #[56, 9] ty #[.slice (some ⟨w.heap.size, 0, none⟩) 256 256, .string (t.extract (i * 256) t.size)]).run Tryd.prog (w.alloc (.cells Tryd.zeroCells71 71)).drew =
      .ok (goInt (min 256 (t.size - i * 256) : Nat)) (w.alloc (.cells (tc (blkT t i)).toArray 71)).drew := by
  have hg : (w.alloc (.cells Tryd.zeroCells71 71)).drew.heap[w.heap.size]? = some (.cells Tryd.zeroCells71 71 (0, 0)) := heap_alloc_last w _
  have h := run_copy_some (P := Tryd.prog) (w.alloc (.cells Tryd.zeroCells71 71)).drew 56 9 ty 5 w.heap.size 0 256 256 (t.extract (i * 256) t.size) Tryd.zeroCells71 71 Tryd.underlying56 size5 hg (min 256 (t.size - i * 256)) (by rw [ByteArray.size_extract]; show min _ _ = _; omega) (by rw [z71_size]; omega)
  have hrow : (Tryd.zeroCells71.toList.take 0 ++ Lib.byteCells ((t.extract (i * 256) t.size).data.toList.take (min 256 (t.size - i * 256))) ++ Tryd.zeroCells71.toList.drop (0 + min 256 (t.size - i * 256))).toArray = (tc (blkT t i)).toArray := by
    have hs : t.data.toList.length = t.size := by rw [Array.length_toList]; rfl
    have e1 : (t.extract (i * 256) t.size).data.toList.take (min 256 (t.size - i * 256)) = (t.extract (i * 256) (i * 256 + 256)).data.toList := by
      rw [ByteArray.data_extract, ByteArray.data_extract, Array.toList_extract, Array.toList_extract]
      simp only [List.extract_eq_take_drop]
      rw [List.take_take]
      by_cases h : i * 256 ≤ t.size
      · by_cases h2 : i * 256 + 256 ≤ t.size
        · congr 1
          omega
        · rw [List.take_of_length_le (by rw [List.length_drop, hs]; omega), List.take_of_length_le (by rw [List.length_drop, hs]; omega)]
      · rw [List.drop_of_length_le (by omega)]
        simp
    rw [e1, z71_eq, List.take_zero, List.nil_append, Nat.zero_add, List.drop_replicate, bc_replicate, bc_append]
    unfold blkT tc zs
    rw [ByteArray.data_append, Array.toList_append]
  rw [hrow] at h
  have e : (w.alloc (.cells Tryd.zeroCells71 71)).drew.setRow w.heap.size (tc (blkT t i)).toArray = (w.alloc (.cells (tc (blkT t i)).toArray 71)).drew := by
    have h1 : (w.alloc (.cells Tryd.zeroCells71 71)).drew.setRow w.heap.size (tc (blkT t i)).toArray = ((w.alloc (.cells Tryd.zeroCells71 71)).setRow w.heap.size (tc (blkT t i)).toArray).drew := rfl
    rw [h1, World.setRow_alloc_new]
  rw [h, e]
end Go.Proofs.YtiebhdgpnloieaaDoor
