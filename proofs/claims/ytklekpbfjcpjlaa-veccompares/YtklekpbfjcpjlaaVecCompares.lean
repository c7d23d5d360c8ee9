/- The walk of the law VecCompares over its callees' contracts. -/
import Derived.Test.YtklekpbfjcpjlaaAlive
import Derived.Test.YtklekpbfjcpjlaaRef
import Derived.Test.YtklekpbfjcpjlaaMax
namespace Go.Proofs.Ytklekpbfjcpjlaa
open Go.RowKit
attribute [local go_sem ↓] Go.wp_at_zero Go.wp_at_succ
attribute [local go_sem ↓] eq23

set_option maxRecDepth 100000 in
set_option maxHeartbeats 4000000 in
theorem VecCompares_any (x0 x1 x2 y0 y1 y2 : Int) (h : I64 x0 ∧ I64 x1 ∧ I64 x2 ∧ I64 y0 ∧ I64 y1 ∧ I64 y2) (w : World) :
    Calls Try.prog 5 #[V3 x0 x1 x2, V3 y0 y1 y2] w fun e w' => e = .returned (.bool true) ∧ Below w.heap.size w w' := by
  have H := hide h
  have HX : Hid (I64 x0 ∧ I64 x1 ∧ I64 x2) := ⟨h.1, h.2.1, h.2.2.1⟩
  clear h
  unfold V3
  go_enter Try.func5, Try.ntmps5
  go_wp2_with fail
  go_region_held3 (fun w' => w'.cell? ⟨w.heap.size, 0, none⟩ = some (.int .i64 x0) ∧
      w'.cell? ⟨w.heap.size, 1, none⟩ = some (.int .i64 x1) ∧
      w'.cell? ⟨w.heap.size, 2, none⟩ = some (.int .i64 x2) ∧
      w'.cell? ⟨w.heap.size + 1, 0, none⟩ = some (.int .i64 y0) ∧
      w'.cell? ⟨w.heap.size + 1, 1, none⟩ = some (.int .i64 y1) ∧
      w'.cell? ⟨w.heap.size + 1, 2, none⟩ = some (.int .i64 y2) ∧
      Below ((w.alloc (.cells #[.int .i64 x0, .int .i64 x1, .int .i64 x2] 23)).alloc (.cells #[.int .i64 y0, .int .i64 y1, .int .i64 y2] 23)).heap.size ((w.alloc (.cells #[.int .i64 x0, .int .i64 x1, .int .i64 x2] 23)).alloc (.cells #[.int .i64 y0, .int .i64 y1, .int .i64 y2] 23)) w')
    (((with_reducible refine twoB x0 x1 x2 y0 y1 y2 w _ ?_); first | ((with_reducible refine bnext ?_ hb); go_split_ands; with_reducible assumption) | (with_reducible exact (Below.refl _ _).drew)))
    (first
      | (go_at_call 17; refine (May_any x0 x1 x2 HX.out _).mono ?_; rintro e w' ⟨rfl, hb⟩)
      | (go_at_call 18; refine (rMay_any x0 x1 x2 _).mono ?_; rintro e w' ⟨rfl, hb⟩)
      | (go_at_call 19; refine (Fits_any x0 x1 x2 y0 y1 y2 H.out _).mono ?_; rintro e w' ⟨rfl, hb⟩)
      | (go_at_call 20; refine (rFits_any x0 x1 x2 y0 y1 y2 _).mono ?_; rintro e w' ⟨rfl, hb⟩)
      | (go_at_call 21; refine (Max_any x0 x1 x2 y0 y1 y2 H.out _).mono ?_; rintro e w' ⟨rfl, hb⟩; unfold V3)
      | (go_at_call 22; refine (rMax_any x0 x1 x2 y0 y1 y2 _).mono ?_; rintro e w' ⟨rfl, hb⟩; unfold V3)
      | (go_at_call 23; refine (Min_any x0 x1 x2 y0 y1 y2 H.out _).mono ?_; rintro e w' ⟨rfl, hb⟩; unfold V3)
      | (go_at_call 24; refine (rMin_any x0 x1 x2 y0 y1 y2 _).mono ?_; rintro e w' ⟨rfl, hb⟩; unfold V3)
      | (go_at_call 14; refine (alive_any _).mono ?_; rintro e w' ⟨rfl, hb⟩))
  go_split_ands
  go_wp2
  go_ret
  exact ⟨rfl, below2 (by with_reducible assumption)⟩
end Go.Proofs.Ytklekpbfjcpjlaa
