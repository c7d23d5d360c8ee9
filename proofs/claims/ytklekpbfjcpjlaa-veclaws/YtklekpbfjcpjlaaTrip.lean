/- What widen does: a walk over wideOf's contract. -/
import Derived.Test.YtklekpbfjcpjlaaKeep
namespace Go.Proofs.Ytklekpbfjcpjlaa
open Go.RowKit
attribute [local go_sem ↓] Go.wp_at_zero Go.wp_at_succ

/-- A vec. -/
def V3 (x y z : Int) : Value := .agg #[.int .i64 x, .int .i64 y, .int .i64 z]
/-- A vec whose numbers are on the way. -/
def V6 (x y z : Int) : Value := .agg #[.int .u64 (lo x), .int .u64 (hi x), .int .u64 (lo y), .int .u64 (hi y), .int .u64 (lo z), .int .u64 (hi z)]

theorem widenS (x y z : Int) (w u : World) (hk : Kp (w.heap.size + 1) 6 ((w.alloc (.cells #[.int .i64 x, .int .i64 y, .int .i64 z] 23)).alloc (.cells #[.int .u64 0, .int .u64 0, .int .u64 0, .int .u64 0, .int .u64 0, .int .u64 0] 46)) u) :
    u.cell? ⟨w.heap.size, 0, none⟩ = some (.int .i64 x) ∧
    u.cell? ⟨w.heap.size, 1, none⟩ = some (.int .i64 y) ∧
    u.cell? ⟨w.heap.size, 2, none⟩ = some (.int .i64 z) ∧
    u.cell? ⟨w.heap.size + 1, 0, none⟩ = some (tv u (w.heap.size + 1) 0) ∧
    u.cell? ⟨w.heap.size + 1, 1, none⟩ = some (tv u (w.heap.size + 1) 1) ∧
    u.cell? ⟨w.heap.size + 1, 2, none⟩ = some (tv u (w.heap.size + 1) 2) ∧
    u.cell? ⟨w.heap.size + 1, 3, none⟩ = some (tv u (w.heap.size + 1) 3) ∧
    u.cell? ⟨w.heap.size + 1, 4, none⟩ = some (tv u (w.heap.size + 1) 4) ∧
    u.cell? ⟨w.heap.size + 1, 5, none⟩ = some (tv u (w.heap.size + 1) 5) ∧
    u.frozen? ⟨w.heap.size + 1, 0, none⟩ = false ∧
    u.frozen? ⟨w.heap.size + 1, 1, none⟩ = false ∧
    u.frozen? ⟨w.heap.size + 1, 2, none⟩ = false ∧
    u.frozen? ⟨w.heap.size + 1, 3, none⟩ = false ∧
    u.frozen? ⟨w.heap.size + 1, 4, none⟩ = false ∧
    u.frozen? ⟨w.heap.size + 1, 5, none⟩ = false ∧
    Kp (w.heap.size + 1) 6 ((w.alloc (.cells #[.int .i64 x, .int .i64 y, .int .i64 z] 23)).alloc (.cells #[.int .u64 0, .int .u64 0, .int .u64 0, .int .u64 0, .int .u64 0, .int .u64 0] 46)) u :=
  ⟨(hk.1 _ _ (by simp)).trans (by simp [go_sem]),
    (hk.1 _ _ (by simp)).trans (by simp [go_sem]),
    (hk.1 _ _ (by simp)).trans (by simp [go_sem]),
    hk.2.2.1 _ (by decide),
    hk.2.2.1 _ (by decide),
    hk.2.2.1 _ (by decide),
    hk.2.2.1 _ (by decide),
    hk.2.2.1 _ (by decide),
    hk.2.2.1 _ (by decide),
    (hk.2.1 _ _ (by simp)).trans (by simp [go_sem]),
    (hk.2.1 _ _ (by simp)).trans (by simp [go_sem]),
    (hk.2.1 _ _ (by simp)).trans (by simp [go_sem]),
    (hk.2.1 _ _ (by simp)).trans (by simp [go_sem]),
    (hk.2.1 _ _ (by simp)).trans (by simp [go_sem]),
    (hk.2.1 _ _ (by simp)).trans (by simp [go_sem]),
    hk⟩


set_option maxHeartbeats 300000 in
theorem widen_any (x y z : Int) (hx : I64 x) (hy : I64 y) (hz : I64 z) (w : World) :
    Calls Try.prog 26 #[V3 x y z] w fun e w' => e = .returned (V6 x y z) ∧ Below w.heap.size w w' := by
  have Hx := hide hx; have Hy := hide hy; have Hz := hide hz
  clear hx hy hz
  unfold V3
  go_enter Try.func26, Try.ntmps26
  go_wp2_with fail
  go_region_held3 (fun w' => w'.cell? ⟨w.heap.size, 0, none⟩ = some (.int .i64 x) ∧
      w'.cell? ⟨w.heap.size, 1, none⟩ = some (.int .i64 y) ∧
      w'.cell? ⟨w.heap.size, 2, none⟩ = some (.int .i64 z) ∧
      w'.cell? ⟨w.heap.size + 1, 0, none⟩ = some (tv w' (w.heap.size + 1) 0) ∧
      w'.cell? ⟨w.heap.size + 1, 1, none⟩ = some (tv w' (w.heap.size + 1) 1) ∧
      w'.cell? ⟨w.heap.size + 1, 2, none⟩ = some (tv w' (w.heap.size + 1) 2) ∧
      w'.cell? ⟨w.heap.size + 1, 3, none⟩ = some (tv w' (w.heap.size + 1) 3) ∧
      w'.cell? ⟨w.heap.size + 1, 4, none⟩ = some (tv w' (w.heap.size + 1) 4) ∧
      w'.cell? ⟨w.heap.size + 1, 5, none⟩ = some (tv w' (w.heap.size + 1) 5) ∧
      w'.frozen? ⟨w.heap.size + 1, 0, none⟩ = false ∧
      w'.frozen? ⟨w.heap.size + 1, 1, none⟩ = false ∧
      w'.frozen? ⟨w.heap.size + 1, 2, none⟩ = false ∧
      w'.frozen? ⟨w.heap.size + 1, 3, none⟩ = false ∧
      w'.frozen? ⟨w.heap.size + 1, 4, none⟩ = false ∧
      w'.frozen? ⟨w.heap.size + 1, 5, none⟩ = false ∧
      Kp (w.heap.size + 1) 6 ((w.alloc (.cells #[.int .i64 x, .int .i64 y, .int .i64 z] 23)).alloc (.cells #[.int .u64 0, .int .u64 0, .int .u64 0, .int .u64 0, .int .u64 0, .int .u64 0] 46)) w')
    (((with_reducible refine widenS x y z w _ ?_); first | ((with_reducible refine Kp.set ?_ _ _); (repeat (with_reducible refine Kp.set ?_ _ _)); go_split_ands; with_reducible assumption) | ((with_reducible refine Kp.call ?_ hb); go_split_ands; with_reducible assumption) | (with_reducible exact Kp.begin (by simp) (by simp))))
    (first
      | (go_at_call 39; refine (wideOf_any _ ?_ _).mono ?_; (first | exact Hx.out | exact Hy.out | exact Hz.out); rintro e w' ⟨rfl, hb⟩; unfold V2))
  go_wp2
  go_split_ands
  exact bodyPost_ret (v := V6 x y z) (by simp [results, Try.results26, go_sem, V6, *]; exact read6 (n := w.heap.size + 1) _ _ _ _ _ _ (by with_reducible assumption)) rfl ⟨rfl, Kp.out (n := w.heap.size + 1) (k := 6) (by with_reducible assumption) (by omega) (grow2 w _ _)⟩
end Go.Proofs.Ytklekpbfjcpjlaa
