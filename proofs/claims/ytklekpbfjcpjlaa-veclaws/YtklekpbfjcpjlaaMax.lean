/- What Max does: a walk over the contracts of widen, beside, greater, narrow. -/
import Derived.Test.YtklekpbfjcpjlaaTwo
import Derived.Test.YtklekpbfjcpjlaaBesideGreater
namespace Go.Proofs.Ytklekpbfjcpjlaa
open Go.RowKit
attribute [local go_sem ↓] Go.wp_at_zero Go.wp_at_succ

set_option maxHeartbeats 1000000 in
theorem Max_any (x0 x1 x2 y0 y1 y2 : Int) (h : I64 x0 ∧ I64 x1 ∧ I64 x2 ∧ I64 y0 ∧ I64 y1 ∧ I64 y2) (w : World) :
    Calls Try.prog 21 #[V3 x0 x1 x2, V3 y0 y1 y2] w fun e w' => e = .returned (V3 (imax x0 y0) (imax x1 y1) (imax x2 y2)) ∧ Below w.heap.size w w' := by
  have H := hide h
  have HM : Hid (I64 (imax x0 y0) ∧ I64 (imax x1 y1) ∧ I64 (imax x2 y2)) := ⟨imax_I64 h.1 h.2.2.2.1, imax_I64 h.2.1 h.2.2.2.2.1, imax_I64 h.2.2.1 h.2.2.2.2.2⟩
  clear h
  unfold V3
  go_enter Try.func21, Try.ntmps21
  go_wp2_with fail
  go_region_held3 (fun w' => w'.cell? ⟨w.heap.size, 0, none⟩ = some (.int .i64 x0) ∧
      w'.cell? ⟨w.heap.size, 1, none⟩ = some (.int .i64 x1) ∧
      w'.cell? ⟨w.heap.size, 2, none⟩ = some (.int .i64 x2) ∧
      w'.cell? ⟨w.heap.size + 1, 0, none⟩ = some (.int .i64 y0) ∧
      w'.cell? ⟨w.heap.size + 1, 1, none⟩ = some (.int .i64 y1) ∧
      w'.cell? ⟨w.heap.size + 1, 2, none⟩ = some (.int .i64 y2) ∧
      w'.cell? ⟨w.heap.size + 1 + 1, 0, none⟩ = some (tv w' (w.heap.size + 1 + 1) 0) ∧
      w'.cell? ⟨w.heap.size + 1 + 1, 1, none⟩ = some (tv w' (w.heap.size + 1 + 1) 1) ∧
      w'.cell? ⟨w.heap.size + 1 + 1, 2, none⟩ = some (tv w' (w.heap.size + 1 + 1) 2) ∧
      w'.frozen? ⟨w.heap.size + 1 + 1, 0, none⟩ = false ∧
      w'.frozen? ⟨w.heap.size + 1 + 1, 1, none⟩ = false ∧
      w'.frozen? ⟨w.heap.size + 1 + 1, 2, none⟩ = false ∧
      Kp (w.heap.size + 1 + 1) 3 (((w.alloc (.cells #[.int .i64 x0, .int .i64 x1, .int .i64 x2] 23)).alloc (.cells #[.int .i64 y0, .int .i64 y1, .int .i64 y2] 23)).alloc (.cells #[.int .i64 0, .int .i64 0, .int .i64 0] 23)) w')
    (((with_reducible refine twoS x0 x1 x2 y0 y1 y2 w _ ?_); first
      | ((with_reducible refine Kp.set3 ?_ ?_); (go_split_ands; with_reducible assumption); (go_split_ands; with_reducible assumption))
      | ((with_reducible refine Kp.alloc ?_ _); go_split_ands; with_reducible assumption)
      | ((with_reducible refine Kp.redo ?_); go_split_ands; with_reducible assumption)
      | ((with_reducible refine Kp.call ?_ hb); go_split_ands; with_reducible assumption)
      | (with_reducible exact Kp.begin (by simp) (by simp))
      | (with_reducible exact Kp.drew (Kp.alloc (Kp.begin0 (by simp) (by simp)) _))))
    (first
      | (go_at_call_of 26 (Value.int .i64 x0); refine (widen_any x0 x1 x2 H.out.1 H.out.2.1 H.out.2.2.1 _).mono ?_; rintro e w' ⟨rfl, hb⟩; (first | (with_reducible have hN := new3 (n := w.heap.size + 1 + 1) (k := 3) (W := ((w.alloc (.cells #[.int .i64 x0, .int .i64 x1, .int .i64 x2] 23)).alloc (.cells #[.int .i64 y0, .int .i64 y1, .int .i64 y2] 23)).alloc (.cells #[.int .i64 0, .int .i64 0, .int .i64 0] 23)) (by go_split_ands; with_reducible assumption) hb) | (with_reducible have hN := old3 hN hb) | (with_reducible have hN := new3d (n := w.heap.size + 1 + 1) (k := 3) (p := w.heap.size + 1 + 1 + 1) (W := ((w.alloc (.cells #[.int .i64 x0, .int .i64 x1, .int .i64 x2] 23)).alloc (.cells #[.int .i64 y0, .int .i64 y1, .int .i64 y2] 23)).alloc (.cells #[.int .i64 0, .int .i64 0, .int .i64 0] 23)) (v := ((w.alloc (.cells #[.int .i64 x0, .int .i64 x1, .int .i64 x2] 23)).alloc (.cells #[.int .i64 y0, .int .i64 y1, .int .i64 y2] 23)).alloc (.cells #[.int .i64 0, .int .i64 0, .int .i64 0] 23)) (by simp) (by go_split_ands; with_reducible assumption) hb) | skip))
      | (go_at_call 26; refine (widen_any y0 y1 y2 H.out.2.2.2.1 H.out.2.2.2.2.1 H.out.2.2.2.2.2 _).mono ?_; rintro e w' ⟨rfl, hb⟩; (first | (with_reducible have hN := new3 (n := w.heap.size + 1 + 1) (k := 3) (W := ((w.alloc (.cells #[.int .i64 x0, .int .i64 x1, .int .i64 x2] 23)).alloc (.cells #[.int .i64 y0, .int .i64 y1, .int .i64 y2] 23)).alloc (.cells #[.int .i64 0, .int .i64 0, .int .i64 0] 23)) (by go_split_ands; with_reducible assumption) hb) | (with_reducible have hN := old3 hN hb) | (with_reducible have hN := new3d (n := w.heap.size + 1 + 1) (k := 3) (p := w.heap.size + 1 + 1 + 1) (W := ((w.alloc (.cells #[.int .i64 x0, .int .i64 x1, .int .i64 x2] 23)).alloc (.cells #[.int .i64 y0, .int .i64 y1, .int .i64 y2] 23)).alloc (.cells #[.int .i64 0, .int .i64 0, .int .i64 0] 23)) (v := ((w.alloc (.cells #[.int .i64 x0, .int .i64 x1, .int .i64 x2] 23)).alloc (.cells #[.int .i64 y0, .int .i64 y1, .int .i64 y2] 23)).alloc (.cells #[.int .i64 0, .int .i64 0, .int .i64 0] 23)) (by simp) (by go_split_ands; with_reducible assumption) hb) | skip))
      | (go_at_call 25; refine (beside_greater x0 x1 x2 y0 y1 y2 (imax x0 y0) (imax x1 y1) (imax x2 y2) _ (fun u => greater_any x0 y0 H.out.1 H.out.2.2.2.1 u) (fun u => greater_any x1 y1 H.out.2.1 H.out.2.2.2.2.1 u) (fun u => greater_any x2 y2 H.out.2.2.1 H.out.2.2.2.2.2 u)).mono ?_; rintro e w' ⟨rfl, hb⟩; (first | (with_reducible have hN := new3 (n := w.heap.size + 1 + 1) (k := 3) (W := ((w.alloc (.cells #[.int .i64 x0, .int .i64 x1, .int .i64 x2] 23)).alloc (.cells #[.int .i64 y0, .int .i64 y1, .int .i64 y2] 23)).alloc (.cells #[.int .i64 0, .int .i64 0, .int .i64 0] 23)) (by go_split_ands; with_reducible assumption) hb) | (with_reducible have hN := old3 hN hb) | (with_reducible have hN := new3d (n := w.heap.size + 1 + 1) (k := 3) (p := w.heap.size + 1 + 1 + 1) (W := ((w.alloc (.cells #[.int .i64 x0, .int .i64 x1, .int .i64 x2] 23)).alloc (.cells #[.int .i64 y0, .int .i64 y1, .int .i64 y2] 23)).alloc (.cells #[.int .i64 0, .int .i64 0, .int .i64 0] 23)) (v := ((w.alloc (.cells #[.int .i64 x0, .int .i64 x1, .int .i64 x2] 23)).alloc (.cells #[.int .i64 y0, .int .i64 y1, .int .i64 y2] 23)).alloc (.cells #[.int .i64 0, .int .i64 0, .int .i64 0] 23)) (by simp) (by go_split_ands; with_reducible assumption) hb) | skip))
      | (go_at_call 28; refine (narrow_ok HM.out.1 HM.out.2.1 HM.out.2.2 _).mono ?_; rintro e w' ⟨rfl, hb⟩; (first | (with_reducible have hN := new3 (n := w.heap.size + 1 + 1) (k := 3) (W := ((w.alloc (.cells #[.int .i64 x0, .int .i64 x1, .int .i64 x2] 23)).alloc (.cells #[.int .i64 y0, .int .i64 y1, .int .i64 y2] 23)).alloc (.cells #[.int .i64 0, .int .i64 0, .int .i64 0] 23)) (by go_split_ands; with_reducible assumption) hb) | (with_reducible have hN := old3 hN hb) | (with_reducible have hN := new3d (n := w.heap.size + 1 + 1) (k := 3) (p := w.heap.size + 1 + 1 + 1) (W := ((w.alloc (.cells #[.int .i64 x0, .int .i64 x1, .int .i64 x2] 23)).alloc (.cells #[.int .i64 y0, .int .i64 y1, .int .i64 y2] 23)).alloc (.cells #[.int .i64 0, .int .i64 0, .int .i64 0] 23)) (v := ((w.alloc (.cells #[.int .i64 x0, .int .i64 x1, .int .i64 x2] 23)).alloc (.cells #[.int .i64 y0, .int .i64 y1, .int .i64 y2] 23)).alloc (.cells #[.int .i64 0, .int .i64 0, .int .i64 0] 23)) (by simp) (by go_split_ands; with_reducible assumption) hb) | skip)))
  all_goals
    go_split_ands
    go_wp2
    exact bodyPost_ret (v := V3 (imax x0 y0) (imax x1 y1) (imax x2 y2)) (by simp [results, Try.results21, go_sem, V3, *]) rfl ⟨rfl, Kp.out (n := w.heap.size + 1 + 1) (k := 3) (W := ((w.alloc (.cells #[.int .i64 x0, .int .i64 x1, .int .i64 x2] 23)).alloc (.cells #[.int .i64 y0, .int .i64 y1, .int .i64 y2] 23)).alloc (.cells #[.int .i64 0, .int .i64 0, .int .i64 0] 23)) (Kp.set3 (by with_reducible assumption) (Nat.le_refl _)) (by omega) (grow3 w _ _ _)⟩
end Go.Proofs.Ytklekpbfjcpjlaa
