/- What Fits does, and the document's own May, Fits, Max, Min. -/
import Derived.Test.YtklekpbfjcpjlaaMin
import Derived.Test.YtklekpbfjcpjlaaEq
namespace Go.Proofs.Ytklekpbfjcpjlaa
open Go.RowKit
attribute [local go_sem ↓] Go.wp_at_zero Go.wp_at_succ
attribute [local go_sem ↓] eq23

theorem twoB (x0 x1 x2 y0 y1 y2 : Int) (w u : World) (hb : Below ((w.alloc (.cells #[.int .i64 x0, .int .i64 x1, .int .i64 x2] 23)).alloc (.cells #[.int .i64 y0, .int .i64 y1, .int .i64 y2] 23)).heap.size ((w.alloc (.cells #[.int .i64 x0, .int .i64 x1, .int .i64 x2] 23)).alloc (.cells #[.int .i64 y0, .int .i64 y1, .int .i64 y2] 23)) u) :
    u.cell? ⟨w.heap.size, 0, none⟩ = some (.int .i64 x0) ∧
    u.cell? ⟨w.heap.size, 1, none⟩ = some (.int .i64 x1) ∧
    u.cell? ⟨w.heap.size, 2, none⟩ = some (.int .i64 x2) ∧
    u.cell? ⟨w.heap.size + 1, 0, none⟩ = some (.int .i64 y0) ∧
    u.cell? ⟨w.heap.size + 1, 1, none⟩ = some (.int .i64 y1) ∧
    u.cell? ⟨w.heap.size + 1, 2, none⟩ = some (.int .i64 y2) ∧
    Below ((w.alloc (.cells #[.int .i64 x0, .int .i64 x1, .int .i64 x2] 23)).alloc (.cells #[.int .i64 y0, .int .i64 y1, .int .i64 y2] 23)).heap.size ((w.alloc (.cells #[.int .i64 x0, .int .i64 x1, .int .i64 x2] 23)).alloc (.cells #[.int .i64 y0, .int .i64 y1, .int .i64 y2] 23)) u :=
  ⟨bcellA hb (by simp; omega) (by simp [go_sem]), bcellA hb (by simp; omega) (by simp [go_sem]), bcellA hb (by simp; omega) (by simp [go_sem]), bcellA hb (by simp) (by simp [go_sem]), bcellA hb (by simp) (by simp [go_sem]), bcellA hb (by simp) (by simp [go_sem]), hb⟩

/-- None of the first three is above the others. -/
def fitsB (x0 x1 x2 y0 y1 y2 : Int) : Bool := decide (x0 ≤ y0) && decide (x1 ≤ y1) && decide (x2 ≤ y2)
theorem imin_beq (x y : Int) : (imin x y == x) = decide (x ≤ y) := by
  unfold imin
  by_cases h : x < y
  · rw [if_pos h]; simp; omega
  · rw [if_neg h]
    by_cases e : y = x
    · subst e; simp
    · have h1 : (y == x) = false := by simpa using e
      have h2 : decide (x ≤ y) = false := by simp; omega
      rw [h1, h2]
theorem fits_eq (x0 x1 x2 y0 y1 y2 : Int) : (imin x0 y0 == x0 && imin x1 y1 == x1 && imin x2 y2 == x2) = fitsB x0 x1 x2 y0 y1 y2 := by
  unfold fitsB; rw [imin_beq, imin_beq, imin_beq]

set_option maxHeartbeats 400000 in
theorem Fits_any (x0 x1 x2 y0 y1 y2 : Int) (h : I64 x0 ∧ I64 x1 ∧ I64 x2 ∧ I64 y0 ∧ I64 y1 ∧ I64 y2) (w : World) :
    Calls Try.prog 19 #[V3 x0 x1 x2, V3 y0 y1 y2] w fun e w' => e = .returned (.bool (fitsB x0 x1 x2 y0 y1 y2)) ∧ Below w.heap.size w w' := by
  have H := hide h
  have HE := hide (fits_eq x0 x1 x2 y0 y1 y2)
  clear h
  unfold V3
  go_enter Try.func19, Try.ntmps19
  go_wp2_with fail
  go_region_held3 (fun w' => w'.cell? ⟨w.heap.size, 0, none⟩ = some (.int .i64 x0) ∧
      w'.cell? ⟨w.heap.size, 1, none⟩ = some (.int .i64 x1) ∧
      w'.cell? ⟨w.heap.size, 2, none⟩ = some (.int .i64 x2) ∧
      w'.cell? ⟨w.heap.size + 1, 0, none⟩ = some (.int .i64 y0) ∧
      w'.cell? ⟨w.heap.size + 1, 1, none⟩ = some (.int .i64 y1) ∧
      w'.cell? ⟨w.heap.size + 1, 2, none⟩ = some (.int .i64 y2) ∧
      Below ((w.alloc (.cells #[.int .i64 x0, .int .i64 x1, .int .i64 x2] 23)).alloc (.cells #[.int .i64 y0, .int .i64 y1, .int .i64 y2] 23)).heap.size ((w.alloc (.cells #[.int .i64 x0, .int .i64 x1, .int .i64 x2] 23)).alloc (.cells #[.int .i64 y0, .int .i64 y1, .int .i64 y2] 23)) w')
    (((with_reducible refine twoB x0 x1 x2 y0 y1 y2 w _ ?_); first | ((with_reducible refine bnext ?_ hb); go_split_ands; with_reducible assumption) | (with_reducible exact (Below.refl _ _).drew)))
    (first
      | (go_at_call 23; refine (Min_any x0 x1 x2 y0 y1 y2 H.out _).mono ?_; rintro e w' ⟨rfl, hb⟩; unfold V3))
  go_split_ands
  go_wp2
  go_ret
  exact ⟨ret_bool (by rw [← HE.out]), below2 (by with_reducible assumption)⟩

set_option maxHeartbeats 400000 in
theorem alike_any (n : Int) (w : World) :
    Calls Try.prog 34 #[.int .i64 n] w fun e w' => e = .returned (V3 n n n) ∧ Below w.heap.size w w' := by
  go_enter Try.func34, Try.ntmps34
  go_wp2
  exact bodyPost_ret (v := V3 n n n) (by simp [results, Try.results34, go_sem, V3]) rfl ⟨rfl, grow1 w _⟩
end Go.Proofs.Ytklekpbfjcpjlaa
