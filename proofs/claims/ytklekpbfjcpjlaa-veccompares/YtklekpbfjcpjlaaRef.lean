/- What the document's own May, Fits, Max, Min do. -/
import Derived.Test.YtklekpbfjcpjlaaMay
namespace Go.Proofs.Ytklekpbfjcpjlaa
open Go.RowKit

set_option maxHeartbeats 400000 in
theorem rFits_any (x0 x1 x2 y0 y1 y2 : Int) (w : World) :
    Calls Try.prog 20 #[V3 x0 x1 x2, V3 y0 y1 y2] w fun e w' => e = .returned (.bool (fitsB x0 x1 x2 y0 y1 y2)) ∧ Below w.heap.size w w' := by
  unfold V3
  go_enter Try.func20, Try.ntmps20
  go_wp2
  all_goals
    go_ret
    refine ⟨ret_bool ?_, grow2 w _ _⟩
    unfold fitsB
    first | (simp [*]; done) | (simp; omega)

set_option maxHeartbeats 400000 in
theorem rMay_any (x0 x1 x2 : Int) (w : World) :
    Calls Try.prog 18 #[V3 x0 x1 x2] w fun e w' => e = .returned (.bool (mayB x0 x1 x2)) ∧ Below w.heap.size w w' := by
  unfold V3
  go_enter Try.func18, Try.ntmps18
  go_wp2
  all_goals
    go_ret
    refine ⟨ret_bool ?_, grow1 w _⟩
    unfold mayB fitsB
    first | (simp [*]; done) | (simp; omega)

set_option maxHeartbeats 400000 in
theorem rMax_any (x0 x1 x2 y0 y1 y2 : Int) (w : World) :
    Calls Try.prog 22 #[V3 x0 x1 x2, V3 y0 y1 y2] w fun e w' => e = .returned (V3 (imax x0 y0) (imax x1 y1) (imax x2 y2)) ∧ Below w.heap.size w w' := by
  unfold V3
  go_enter Try.func22, Try.ntmps22
  go_wp2
  all_goals
    refine bodyPost_ret (v := V3 (imax x0 y0) (imax x1 y1) (imax x2 y2)) ?_ rfl ⟨rfl, grow3 w _ _ _⟩
    simp [results, Try.results22, go_sem, V3]
    unfold imax
    refine ⟨?_, ?_, ?_⟩ <;> split <;> omega

set_option maxHeartbeats 400000 in
theorem rMin_any (x0 x1 x2 y0 y1 y2 : Int) (w : World) :
    Calls Try.prog 24 #[V3 x0 x1 x2, V3 y0 y1 y2] w fun e w' => e = .returned (V3 (imin x0 y0) (imin x1 y1) (imin x2 y2)) ∧ Below w.heap.size w w' := by
  unfold V3
  go_enter Try.func24, Try.ntmps24
  go_wp2
  all_goals
    refine bodyPost_ret (v := V3 (imin x0 y0) (imin x1 y1) (imin x2 y2)) ?_ rfl ⟨rfl, grow3 w _ _ _⟩
    simp [results, Try.results24, go_sem, V3]
    unfold imin
    refine ⟨?_, ?_, ?_⟩ <;> split <;> omega
end Go.Proofs.Ytklekpbfjcpjlaa
