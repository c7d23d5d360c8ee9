/- What data makes of a step, over the contracts. -/
import Derived.Test.YtffniclijiekkaaAlive
import Derived.Deep.RegionWith
namespace Go.Proofs.Ytffniclijiekkaa
open Go Go.RowKit

/-- So many bytes 0. -/
def zt (n : Nat) : ByteArray := ⟨(List.replicate n 0).toArray⟩
theorem zt_size (n : Nat) : (zt n).size = n := by
  show (List.replicate n (0 : UInt8)).toArray.size = n
  rw [List.size_toArray, List.length_replicate]
def zrow (q : Nat) : Array Value := madeCells (Value.int .u8 0).cells q
theorem zrow_at (q j : Nat) (h : j < q) : (zrow q)[j]? = some (.int .u8 0) := by
  unfold zrow madeCells
  simp [h, Value.cells, Nat.mod_one]
theorem qmake (q : Nat) (hq : q < 3) (u : World) : (Instr.makeSlice 61 (.int .u8 (q : Int)) (.int .u8 (q : Int))).run Try.prog u = .ok (.slice (some ⟨u.heap.size, 0, none⟩) q q) (u.alloc (.cells (zrow q) 5)) := by
  obtain ⟨i, hi, hz0, hz1, hz2⟩ := info_parts info5
  have h := run_makeSlice (P := Try.prog) (w := u) 61 5 i (.int .u8 0) Try.underlying61 hi hz0 .u8 .u8 (q : Int) (q : Int) (by omega) (by omega) (by rw [hz1]; omega) (by rw [hz2]; omega) (by omega)
  rw [hz1, Int.toNat_natCast, Nat.mul_one] at h
  exact h
theorem qtext (q g : Nat) (u : World) (h : u.heap[g]? = some (.cells (zrow q) 5 (0, 0))) : (convert 61 9 (.slice (some ⟨g, 0, none⟩) q q)).run Try.prog u = .ok (.string (zt q)) u := by
  have key := run_convert_bytes_back (P := Try.prog) u 61 9 5 ⟨g, 0, none⟩ q (List.replicate q 0) Try.underlying61 Try.underlying5 Try.underlying9 (fun j hj => by
    have hj' : j < q := by rw [List.length_replicate] at hj; exact hj
    rw [add_at, cell_of_row _ _ _ _ _ _ h, zrow_at q j hj', List.getElem_replicate]
    rfl)
  rw [List.length_replicate] at key
  exact key
theorem qtext_now (q : Nat) (u : World) : (convert 61 9 (.slice (some ⟨u.heap.size, 0, none⟩) q q)).run Try.prog (u.alloc (.cells (zrow q) 5)).drew = .ok (.string (zt q)) (u.alloc (.cells (zrow q) 5)).drew := qtext q u.heap.size _ (heap_alloc_last u _)
theorem qtext_now2 (q : Nat) (u : World) : (convert 61 9 (.slice (some ⟨u.heap.size, 0, none⟩) q q)).run Try.prog (u.alloc (.cells (zrow q) 5)) = .ok (.string (zt q)) (u.alloc (.cells (zrow q) 5)) := qtext q u.heap.size _ (heap_alloc_last u _)
theorem qtext_after {q : Nat} {u v : World} (hb : Below (u.alloc (.cells (zrow q) 5)).drew.heap.size (u.alloc (.cells (zrow q) 5)).drew v) : (convert 61 9 (.slice (some ⟨u.heap.size, 0, none⟩) q q)).run Try.prog v = .ok (.string (zt q)) v :=
  qtext q u.heap.size _ ((hb.block u.heap.size (by show u.heap.size < (u.alloc _).heap.size; simp)).trans (heap_alloc_last u _))
/-- The box of a step. -/
def Box5 (n : Nat) (v0 v1 v2 v3 v4 : Value) (u : World) : Prop := u.heap[n]? = some (.cells #[v0, v1, v2, v3, v4] 35 (0, 0))
theorem Box5.lt {n : Nat} {v0 v1 v2 v3 v4 : Value} {u : World} (h : Box5 n v0 v1 v2 v3 v4 u) : n < u.heap.size := (Array.getElem?_eq_some_iff.1 h).1
theorem Box5.cell {n : Nat} {v0 v1 v2 v3 v4 : Value} {u : World} (h : Box5 n v0 v1 v2 v3 v4 u) : u.cell? ⟨n, 0, none⟩ = some v0 ∧ u.cell? ⟨n, 1, none⟩ = some v1 ∧ u.cell? ⟨n, 2, none⟩ = some v2 ∧ u.cell? ⟨n, 3, none⟩ = some v3 ∧ u.cell? ⟨n, 4, none⟩ = some v4 := by
  unfold Box5 at h
  simp [World.cell?, h]
theorem Box5.below {n : Nat} {v0 v1 v2 v3 v4 : Value} {u v : World} (h : Box5 n v0 v1 v2 v3 v4 u) (hb : Below u.heap.size u v) : Box5 n v0 v1 v2 v3 v4 v := (hb.block n h.lt).trans h
theorem Box5.drew {n : Nat} {v0 v1 v2 v3 v4 : Value} {u : World} (h : Box5 n v0 v1 v2 v3 v4 u) : Box5 n v0 v1 v2 v3 v4 u.drew := h
theorem Box5.alloc {n : Nat} {v0 v1 v2 v3 v4 : Value} {u : World} (h : Box5 n v0 v1 v2 v3 v4 u) (o : Obj) : Box5 n v0 v1 v2 v3 v4 (u.alloc o) := (Below.heap_alloc u o n h.lt).trans h
theorem Box5.allocd {n : Nat} {v0 v1 v2 v3 v4 : Value} {u : World} {o : Obj} (h : Box5 n v0 v1 v2 v3 v4 u.drew) : Box5 n v0 v1 v2 v3 v4 (u.alloc o).drew := (Below.heap_alloc u o n h.lt).trans h
/-- What a region over a box carries. -/
def DS (n : Nat) (v0 v1 v2 v3 v4 : Value) (w u : World) : Prop := Box5 n v0 v1 v2 v3 v4 u ∧ Below w.heap.size w u
theorem DS.out {n : Nat} {v0 v1 v2 v3 v4 : Value} {w u : World} (h : DS n v0 v1 v2 v3 v4 w u) : u.cell? ⟨n, 2, none⟩ = some v2 ∧ u.cell? ⟨n, 3, none⟩ = some v3 ∧ DS n v0 v1 v2 v3 v4 w u := ⟨h.1.cell.2.2.1, h.1.cell.2.2.2.1, h⟩
theorem DS.call {n : Nat} {v0 v1 v2 v3 v4 : Value} {w u v : World} (h : DS n v0 v1 v2 v3 v4 w u) (hb : Below u.heap.size u v) : DS n v0 v1 v2 v3 v4 w v := ⟨h.1.below hb, bnext h.2 hb⟩
theorem DS.alloc {n : Nat} {v0 v1 v2 v3 v4 : Value} {w u : World} {o : Obj} (h : DS n v0 v1 v2 v3 v4 w u) : DS n v0 v1 v2 v3 v4 w (u.alloc o) := ⟨h.1.alloc o, h.2.alloc h.2.size o⟩
theorem DS.allocd {n : Nat} {v0 v1 v2 v3 v4 : Value} {w u : World} {o : Obj} (h : DS n v0 v1 v2 v3 v4 w u.drew) : DS n v0 v1 v2 v3 v4 w (u.alloc o).drew := ⟨h.1.allocd, ⟨h.2.os, h.2.tape, h.2.output, Nat.le_trans h.2.size (by show u.heap.size ≤ (u.alloc o).heap.size; simp), fun k hk => (Below.heap_alloc u o k (Nat.lt_of_lt_of_le hk h.2.size)).trans (h.2.block k hk)⟩⟩
theorem DS.start (w : World) (v0 v1 v2 v3 v4 : Value) : DS w.heap.size v0 v1 v2 v3 v4 w (w.alloc (.cells #[v0, v1, v2, v3, v4] 35)).drew := ⟨heap_alloc_last w _, ((Below.refl _ _).alloc (Nat.le_refl _) _).drew⟩
set_option maxRecDepth 10000 in
set_option maxHeartbeats 2000000 in
theorem data_any (v0 v1 v4 : Value) (c o : Nat) (w : World) (hc : c < 256) (ho : o < 256) :
    Calls Try.prog 22 #[.agg #[v0, v1, .int .u8 (c : Int), .int .u8 (o : Int), v4]] w fun e w' => e = .returned (.string (fullT c ++ zt (o % 3))) ∧ Below w.heap.size w w' := by
  have KF := hide (fun u => full_any c u hc)
  have hfs : (fullT c).size ≤ 256 := Nat.le_of_eq (fullT_size c)
  have hzs : (zt (o % 3)).size ≤ 3 := by rw [zt_size]; omega
  have hrem : Int.tmod (o : Int) 3 = ((o % 3 : Nat) : Int) := by rw [Int.tmod_eq_emod_of_nonneg (by omega)]; omega
  have hmk := qmake (o % 3) (by omega)
  have hcv := qtext_now (o % 3)
  have hcv2 := qtext_now2 (o % 3)
  have HAfter := hide (fun (u v : World) (hb : Below (u.alloc (.cells (zrow (o % 3)) 5)).drew.heap.size (u.alloc (.cells (zrow (o % 3)) 5)).drew v) => qtext_after hb)
  have HS0 := hide (DS.start w v0 v1 (.int .u8 (c : Int)) (.int .u8 (o : Int)) v4)
  have hq3 : o % 3 < 3 := by omega
  generalize fullT c = F at *
  generalize zt (o % 3) = Z at *
  generalize zrow (o % 3) = R at *
  generalize o % 3 = q at *
  go_enter Try.func22, Try.ntmps22
  go_wp2_with fail
  have hcvA := hcv (w.alloc (.cells #[v0, v1, .int .u8 (c : Int), .int .u8 (o : Int), v4] 35))
  rw [World.size_alloc] at hcvA
  go_region_with ((go_at_call 17; refine (KF.out _).mono ?_; rintro e w1 ⟨rfl, hb1⟩; first
    | (have hd1 := DS.call HS0.out hb1; have e21 := hd1.1.cell.2.2.1; have e31 := hd1.1.cell.2.2.2.1)
    | (have hcv1 := HAfter.out _ _ hb1; rw [World.size_alloc] at hcv1; have hd1 := DS.call (DS.allocd HS0.out) hb1; have e21 := hd1.1.cell.2.2.1; have e31 := hd1.1.cell.2.2.2.1)))
  all_goals
    have HB1 := hide hd1.2
    clear hd1
    go_wp2
    go_ret
    first
      | exact ⟨rfl, HB1.out⟩
      | exact ⟨rfl, HB1.out.alloc HB1.out.size _⟩
end Go.Proofs.Ytffniclijiekkaa
