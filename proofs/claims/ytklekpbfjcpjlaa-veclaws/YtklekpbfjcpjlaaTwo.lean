/- Two vecs in, one out: what is carried through such a statement. -/
import Derived.Test.YtklekpbfjcpjlaaNarrow
namespace Go.Proofs.Ytklekpbfjcpjlaa
open Go.RowKit
theorem twoS (x0 x1 x2 y0 y1 y2 : Int) (w u : World) (hk : Kp (w.heap.size + 1 + 1) 3 (((w.alloc (.cells #[.int .i64 x0, .int .i64 x1, .int .i64 x2] 23)).alloc (.cells #[.int .i64 y0, .int .i64 y1, .int .i64 y2] 23)).alloc (.cells #[.int .i64 0, .int .i64 0, .int .i64 0] 23)) u) :
    u.cell? ⟨w.heap.size, 0, none⟩ = some (.int .i64 x0) ∧
    u.cell? ⟨w.heap.size, 1, none⟩ = some (.int .i64 x1) ∧
    u.cell? ⟨w.heap.size, 2, none⟩ = some (.int .i64 x2) ∧
    u.cell? ⟨w.heap.size + 1, 0, none⟩ = some (.int .i64 y0) ∧
    u.cell? ⟨w.heap.size + 1, 1, none⟩ = some (.int .i64 y1) ∧
    u.cell? ⟨w.heap.size + 1, 2, none⟩ = some (.int .i64 y2) ∧
    u.cell? ⟨w.heap.size + 1 + 1, 0, none⟩ = some (tv u (w.heap.size + 1 + 1) 0) ∧
    u.cell? ⟨w.heap.size + 1 + 1, 1, none⟩ = some (tv u (w.heap.size + 1 + 1) 1) ∧
    u.cell? ⟨w.heap.size + 1 + 1, 2, none⟩ = some (tv u (w.heap.size + 1 + 1) 2) ∧
    u.frozen? ⟨w.heap.size + 1 + 1, 0, none⟩ = false ∧
    u.frozen? ⟨w.heap.size + 1 + 1, 1, none⟩ = false ∧
    u.frozen? ⟨w.heap.size + 1 + 1, 2, none⟩ = false ∧
    Kp (w.heap.size + 1 + 1) 3 (((w.alloc (.cells #[.int .i64 x0, .int .i64 x1, .int .i64 x2] 23)).alloc (.cells #[.int .i64 y0, .int .i64 y1, .int .i64 y2] 23)).alloc (.cells #[.int .i64 0, .int .i64 0, .int .i64 0] 23)) u :=
  ⟨(hk.1 _ _ (by omega)).trans (by simp [go_sem]),
    (hk.1 _ _ (by omega)).trans (by simp [go_sem]),
    (hk.1 _ _ (by omega)).trans (by simp [go_sem]),
    (hk.1 _ _ (by omega)).trans (by simp [go_sem]),
    (hk.1 _ _ (by omega)).trans (by simp [go_sem]),
    (hk.1 _ _ (by omega)).trans (by simp [go_sem]),
    hk.2.2.1 _ (by decide),
    hk.2.2.1 _ (by decide),
    hk.2.2.1 _ (by decide),
    (hk.2.1 _ _ (by omega)).trans (by simp [go_sem]),
    (hk.2.1 _ _ (by omega)).trans (by simp [go_sem]),
    (hk.2.1 _ _ (by omega)).trans (by simp [go_sem]),
    hk⟩

theorem redo_eq (u : World) (a b c : Value) : (((u.alloc (.cells #[.int .i64 0, .int .i64 0, .int .i64 0] 23)).setCell ⟨u.heap.size, 0, none⟩ a).setCell ⟨u.heap.size, 1, none⟩ b).setCell ⟨u.heap.size, 2, none⟩ c = u.alloc (.cells #[a, b, c] 23) := by
  simp [go_sem]
theorem Kp.redo {n k : Nat} {W u : World} {a b c : Value} (h : Kp n k W (u.alloc (.cells #[.int .i64 0, .int .i64 0, .int .i64 0] 23))) : Kp n k W (u.alloc (.cells #[a, b, c] 23)) := by
  have hz : n ≤ u.heap.size := by have := h.2.2.2.1; simp only [World.size_alloc] at this; omega
  rw [← redo_eq u a b c]
  exact ((h.setGe hz 0 a).setGe hz 1 b).setGe hz 2 c
theorem Kp.set3 {n k p : Nat} {W u : World} {a b c : Value} (h : Kp n k W u) (hz : n ≤ p) : Kp n k W (((u.setCell ⟨p, 0, none⟩ a).setCell ⟨p, 1, none⟩ b).setCell ⟨p, 2, none⟩ c) :=
  ((h.setGe hz 0 a).setGe hz 1 b).setGe hz 2 c
theorem new3d {n k p : Nat} {W v u : World} (hp : p = v.heap.size) (hk : Kp n k W (v.alloc (.cells #[.int .i64 0, .int .i64 0, .int .i64 0] 23)).drew) (hb : Below (v.alloc (.cells #[.int .i64 0, .int .i64 0, .int .i64 0] 23)).drew.heap.size (v.alloc (.cells #[.int .i64 0, .int .i64 0, .int .i64 0] 23)).drew u) :
    u.cell? ⟨p, 0, none⟩ = some (.int .i64 0) ∧ u.cell? ⟨p, 1, none⟩ = some (.int .i64 0) ∧ u.cell? ⟨p, 2, none⟩ = some (.int .i64 0) ∧
    u.frozen? ⟨p, 0, none⟩ = false ∧ u.frozen? ⟨p, 1, none⟩ = false ∧ u.frozen? ⟨p, 2, none⟩ = false ∧ n ≤ p ∧ p < u.heap.size := by
  subst hp
  exact new3 (W := W) (k := k) ⟨hk.1, hk.2.1, hk.2.2.1, hk.2.2.2.1, ⟨hk.2.2.2.2.os, hk.2.2.2.2.tape, hk.2.2.2.2.output, hk.2.2.2.2.size, hk.2.2.2.2.block⟩⟩ ⟨hb.os, hb.tape, hb.output, hb.size, hb.block⟩
theorem Kp.size3 {n k : Nat} {W u : World} {o : Obj} (h : Kp n k W (u.alloc o)) : n + 1 ≤ u.heap.size + 1 := by have := h.2.2.2.1; simpa only [World.size_alloc] using this
theorem narrow_ok {x0 x1 x2 : Int} (h0 : I64 x0) (h1 : I64 x1) (h2 : I64 x2) (w : World) :
    Calls Try.prog 28 #[V6 x0 x1 x2] w fun e w' => e = .returned (.tuple #[.agg #[.int .i64 x0, .int .i64 x1, .int .i64 x2], .int .i64 0]) ∧ Below w.heap.size w w' := by
  have h := narrow_any x0 x1 x2 (W128_of h0) (W128_of h1) (W128_of h2) w
  rw [nv_ok (fit_of h0) (fit_of h1) (fit_of h2)] at h
  exact h
theorem narrow_no {x0 x1 x2 : Int} (h0 : W128 x0) (h1 : W128 x1) (h2 : W128 x2) (hf : (fit x0 && fit x1 && fit x2) = false) (w : World) :
    Calls Try.prog 28 #[V6 x0 x1 x2] w fun e w' => e = .returned (.tuple #[.agg #[.int .i64 0, .int .i64 0, .int .i64 0], .int .i64 9]) ∧ Below w.heap.size w w' := by
  have h := narrow_any x0 x1 x2 h0 h1 h2 w
  unfold nv at h
  rw [hf] at h
  exact h
end Go.Proofs.Ytklekpbfjcpjlaa
