/- The program's disk: New. -/
import Derived.Test.YtiebhdgpnloieaaDoorLeaf
namespace Go.Proofs.YtiebhdgpnloieaaDoor
open Go Go.RowKit

theorem info69 : (Tryd.prog.info? 72).map (fun i => (i.zero, i.size, i.bytes)) = some (some (.agg (Array.replicate 256 (.int .u8 0))), 256, 256) := by kernel_rfl
/-- So many blocks of bytes 0. -/
def zrows (n : Nat) : Array Value := madeCells (Value.agg (Array.replicate 256 (.int .u8 0))).cells (n * 256)
theorem zrows_is (n : Nat) : (zrows n).toList = sc (List.replicate n zblock) := by
  rw [sc_new]
  unfold zrows madeCells
  apply List.ext_getElem?
  intro i
  by_cases h : i < n * 256
  · have h2 : i % 256 < 256 := Nat.mod_lt _ (by decide)
    simp [Value.cells, h, h2]
  · simp [Value.cells, h]
theorem zrows_size (n : Nat) : (zrows n).size = n * 256 := by unfold zrows; exact size_madeCells _ _
theorem nmake (n : Nat) (hn : n ≤ 4096) (u : World) : (Instr.makeSlice 52 (.int .i64 (n : Int)) (.int .i64 (n : Int))).run Tryd.prog u = .ok (.slice (some ⟨u.heap.size, 0, none⟩) n n) (u.alloc (.cells (zrows n) 72)) := by
  obtain ⟨i, hi, hz0, hz1, hz2⟩ := info_parts info69
  have h := run_make (P := Tryd.prog) u 52 72 i (.agg (Array.replicate 256 (.int .u8 0))) Tryd.underlying52 hi hz0 .i64 .i64 (n : Int) (n : Int) (by omega) (by omega) (by rw [hz2]; omega) (by omega)
  rw [hz1, Int.toNat_natCast] at h
  exact h
theorem PAt.new (w : World) (n : Nat) (hn : n ≤ 4096) : PAt ((w.alloc (.cells (zrows n) 72)).alloc (.cells #[.slice (some ⟨w.heap.size, 0, none⟩) n n, .slice none 0 0, .int .i64 (-1)] 55)) (w.heap.size + 1) (.slice (some ⟨w.heap.size, 0, none⟩) n n) (.slice none 0 0) (-1) (St.new n) := by
  refine ⟨?_, ?_, World.ownsRow_nil _ _ _ _, rfl, by decide⟩
  · have h := heap_alloc_last (w.alloc (.cells (zrows n) 72)) (.cells #[.slice (some ⟨w.heap.size, 0, none⟩) n n, .slice none 0 0, .int .i64 (-1)] 55)
    rw [World.size_alloc] at h
    exact h
  · have hl : (St.new n).sure.length = n := List.length_replicate
    rw [hl]
    show World.ownsRow _ 0 72 256 _ n (sc (List.replicate n zblock))
    rw [← zrows_is]
    exact World.ownsRow.alloc (World.ownsRow_lit (base := 0) (e := 72) (size := 256) w (zrows n) n (Nat.zero_le _) (by unfold maxLen; omega) (zrows_size n)) _
set_option maxRecDepth 10000 in
set_option maxHeartbeats 400000 in
theorem pNew (n : Nat) (w : World) (h1 : 1 ≤ n) (h2 : n ≤ 4096) :
    Calls Tryd.prog 10 #[.int .i64 (n : Int)] w fun e w' => ∃ p vS vL x, e = .returned (.tuple #[.pointer (some ⟨p, 0, none⟩), .int .i64 0]) ∧ PAt w' p vS vL x (St.new n) ∧ (∀ k, DF p vS vL k → w.heap.size ≤ k) ∧ Below w.heap.size w w' := by
  have hmk := nmake n h2
  have HP := hide (PAt.new w n h2)
  generalize zrows n = Z at *
  go_enter Tryd.func10, Tryd.ntmps10
  go_wp2
  go_ret2
  exact ⟨w.heap.size + 1, _, _, _, rfl, HP.out, fun k hk => (by
    rcases hk with h3 | h3 | h3
    · omega
    · cases h3; exact Nat.le_refl _
    · cases h3), ((Below.refl _ _).alloc (Nat.le_refl _) _).alloc (by simp) _⟩
set_option maxHeartbeats 400000 in
theorem pNew_not (n : Int) (w : World) (h : n < 1 ∨ 4096 < n) :
    Calls Tryd.prog 10 #[.int .i64 n] w fun e w' => e = .returned (.tuple #[.pointer none, .int .i64 2]) ∧ w' = w := by
  rcases h with h | h
  · go_enter Tryd.func10, Tryd.ntmps10
    go_wp2
    go_ret2
    exact ⟨rfl, rfl⟩
  · have h1 : ¬ n < 1 := by omega
    go_enter Tryd.func10, Tryd.ntmps10
    go_wp2
    go_ret2
    exact ⟨rfl, rfl⟩
end Go.Proofs.YtiebhdgpnloieaaDoor
