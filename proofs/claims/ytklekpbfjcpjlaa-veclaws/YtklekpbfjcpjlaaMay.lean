/- What May does. -/
import Derived.Test.YtklekpbfjcpjlaaFits
namespace Go.Proofs.Ytklekpbfjcpjlaa
open Go.RowKit
attribute [local go_sem ↓] Go.wp_at_zero Go.wp_at_succ

/-- Each is from 0 to 2^40. -/
def mayB (x0 x1 x2 : Int) : Bool := fitsB 0 0 0 x0 x1 x2 && fitsB x0 x1 x2 1099511627776 1099511627776 1099511627776
theorem undrew {W u : World} (h : Below W.drew.heap.size W.drew u) : Below W.heap.size W u := ⟨h.os, h.tape, h.output, h.size, h.block⟩
theorem I64_0 : I64 0 := by unfold I64; decide
theorem I64_M : I64 1099511627776 := by unfold I64; decide
theorem oneB (x0 x1 x2 : Int) (w u : World) (hb : Below (w.alloc (.cells #[.int .i64 x0, .int .i64 x1, .int .i64 x2] 23)).heap.size (w.alloc (.cells #[.int .i64 x0, .int .i64 x1, .int .i64 x2] 23)) u) :
    u.cell? ⟨w.heap.size, 0, none⟩ = some (.int .i64 x0) ∧
    u.cell? ⟨w.heap.size, 1, none⟩ = some (.int .i64 x1) ∧
    u.cell? ⟨w.heap.size, 2, none⟩ = some (.int .i64 x2) ∧
    Below (w.alloc (.cells #[.int .i64 x0, .int .i64 x1, .int .i64 x2] 23)).heap.size (w.alloc (.cells #[.int .i64 x0, .int .i64 x1, .int .i64 x2] 23)) u :=
  ⟨bcellA hb (by simp) (by simp [go_sem]), bcellA hb (by simp) (by simp [go_sem]), bcellA hb (by simp) (by simp [go_sem]), hb⟩

set_option maxHeartbeats 400000 in
theorem May_any (x0 x1 x2 : Int) (h : I64 x0 ∧ I64 x1 ∧ I64 x2) (w : World) :
    Calls Try.prog 17 #[V3 x0 x1 x2] w fun e w' => e = .returned (.bool (mayB x0 x1 x2)) ∧ Below w.heap.size w w' := by
  have H := hide h
  clear h
  unfold V3
  cases hf : fitsB 0 0 0 x0 x1 x2
  · go_enter Try.func17, Try.ntmps17
    go_wp2_with fail
    go_region_with (first
        | (go_at_call_of 19 (Value.agg #[Value.int .i64 0, Value.int .i64 0, Value.int .i64 0]); refine (Fits_any 0 0 0 x0 x1 x2 ⟨I64_0, I64_0, I64_0, H.out.1, H.out.2.1, H.out.2.2⟩ _).mono ?_; rintro e w' ⟨rfl, hb⟩)
        | (go_at_call 34; refine (alike_any 1099511627776 _).mono ?_; rintro e w' ⟨rfl, hb⟩; unfold V3)
        | (go_at_call 19; refine (Fits_any x0 x1 x2 1099511627776 1099511627776 1099511627776 ⟨H.out.1, H.out.2.1, H.out.2.2, I64_M, I64_M, I64_M⟩ _).mono ?_; rintro e w' ⟨rfl, hb⟩))
    all_goals
      go_wp2
      go_ret
      exact ⟨ret_bool (by unfold mayB; rw [hf, Bool.false_and]), below1 (undrew hb)⟩
  · go_enter Try.func17, Try.ntmps17
    go_wp2_with fail
    go_region_held3 (fun w' => w'.cell? ⟨w.heap.size, 0, none⟩ = some (.int .i64 x0) ∧
      w'.cell? ⟨w.heap.size, 1, none⟩ = some (.int .i64 x1) ∧
      w'.cell? ⟨w.heap.size, 2, none⟩ = some (.int .i64 x2) ∧
      Below (w.alloc (.cells #[.int .i64 x0, .int .i64 x1, .int .i64 x2] 23)).heap.size (w.alloc (.cells #[.int .i64 x0, .int .i64 x1, .int .i64 x2] 23)) w')
      (((with_reducible refine oneB x0 x1 x2 w _ ?_); first | ((with_reducible refine bnext ?_ hb); go_split_ands; with_reducible assumption) | (with_reducible exact (Below.refl _ _).drew)))
      (first
        | (go_at_call_of 19 (Value.agg #[Value.int .i64 0, Value.int .i64 0, Value.int .i64 0]); refine (Fits_any 0 0 0 x0 x1 x2 ⟨I64_0, I64_0, I64_0, H.out.1, H.out.2.1, H.out.2.2⟩ _).mono ?_; rintro e w' ⟨rfl, hb⟩)
        | (go_at_call 34; refine (alike_any 1099511627776 _).mono ?_; rintro e w' ⟨rfl, hb⟩; unfold V3)
        | (go_at_call 19; refine (Fits_any x0 x1 x2 1099511627776 1099511627776 1099511627776 ⟨H.out.1, H.out.2.1, H.out.2.2, I64_M, I64_M, I64_M⟩ _).mono ?_; rintro e w' ⟨rfl, hb⟩))
    go_split_ands
    go_wp2
    go_ret
    exact ⟨ret_bool (by unfold mayB; rw [hf, Bool.true_and]), below1 (by with_reducible assumption)⟩
end Go.Proofs.Ytklekpbfjcpjlaa
