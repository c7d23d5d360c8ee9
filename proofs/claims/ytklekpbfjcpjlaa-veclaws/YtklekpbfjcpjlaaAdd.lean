/- What Add does: a walk over the contracts of widen, beside, plus, narrow. -/
import Derived.Test.YtklekpbfjcpjlaaTwo
import Derived.Test.YtklekpbfjcpjlaaBesidePlus
namespace Go.Proofs.Ytklekpbfjcpjlaa
open Go.RowKit
attribute [local go_sem ↓] Go.wp_at_zero Go.wp_at_succ

set_option maxHeartbeats 1000000 in
theorem Add_any (x0 x1 x2 y0 y1 y2 : Int) (h : I64 x0 ∧ I64 x1 ∧ I64 x2 ∧ I64 y0 ∧ I64 y1 ∧ I64 y2) (w : World) :
    Calls Try.prog 8 #[V3 x0 x1 x2, V3 y0 y1 y2] w fun e w' => e = .returned (nv (x0 + y0) (x1 + y1) (x2 + y2)) ∧ Below w.heap.size w w' := by
  have H := hide h
  clear h
  unfold V3
  cases hf : (fit (x0 + y0) && fit (x1 + y1) && fit (x2 + y2))
  · have HF := hide hf
    have HN : Hid (nv (x0 + y0) (x1 + y1) (x2 + y2) = .tuple #[V3 0 0 0, .int .i64 9]) := by unfold nv; rw [hf]; rfl
    clear hf
    go_enter Try.func8, Try.ntmps8
    go_wp2_with fail
    go_region_held3 (fun w' => w'.cell? ⟨w.heap.size, 0, none⟩ = some (.int .i64 x0) ∧
      w'.cell? ⟨w.heap.size, 1, none⟩ = some (.int .i64 x1) ∧
      w'.cell? ⟨w.heap.size, 2, none⟩ = some (.int .i64 x2) ∧
      w'.cell? ⟨w.heap.size + 1, 0, none⟩ = some (.int .i64 y0) ∧
      w'.cell? ⟨w.heap.size + 1, 1, none⟩ = some (.int .i64 y1) ∧
      w'.cell? ⟨w.heap.size + 1, 2, none⟩ = some (.int .i64 y2) ∧
      w'.cell? ⟨w.heap.size + 1 + 1, 0, none⟩ = some (tv w' (w.heap.size + 1 + 1) 0) ∧
      w'.cell? ⟨w.heap.size + 1 + 1, 1, none⟩ = some (tv w' (w.heap.size + 1 + 1) 1) ∧
      w'.cell? ⟨w.heap.size + 1 + 1, 2, none⟩ = some (tv w' (w.heap.size + 1 + 1) 2) ∧
      w'.frozen? ⟨w.heap.size + 1 + 1, 0, none⟩ = false ∧
      w'.frozen? ⟨w.heap.size + 1 + 1, 1, none⟩ = false ∧
      w'.frozen? ⟨w.heap.size + 1 + 1, 2, none⟩ = false ∧
      Kp (w.heap.size + 1 + 1) 3 (((w.alloc (.cells #[.int .i64 x0, .int .i64 x1, .int .i64 x2] 23)).alloc (.cells #[.int .i64 y0, .int .i64 y1, .int .i64 y2] 23)).alloc (.cells #[.int .i64 0, .int .i64 0, .int .i64 0] 23)) w')
      (((with_reducible refine twoS x0 x1 x2 y0 y1 y2 w _ ?_); first | ((with_reducible refine Kp.set ?_ _ _); (repeat (with_reducible refine Kp.set ?_ _ _)); go_split_ands; with_reducible assumption) | ((with_reducible refine Kp.call ?_ hb); go_split_ands; with_reducible assumption) | (with_reducible exact Kp.begin (by simp) (by simp))))
      (first
        | (go_at_call_of 26 (Value.int .i64 x0); refine (widen_any x0 x1 x2 H.out.1 H.out.2.1 H.out.2.2.1 _).mono ?_; rintro e w' ⟨rfl, hb⟩)
        | (go_at_call 26; refine (widen_any y0 y1 y2 H.out.2.2.2.1 H.out.2.2.2.2.1 H.out.2.2.2.2.2 _).mono ?_; rintro e w' ⟨rfl, hb⟩)
        | (go_at_call 25; refine (beside_plus x0 x1 x2 y0 y1 y2 (x0 + y0) (x1 + y1) (x2 + y2) _ (fun u => plus_any x0 y0 u) (fun u => plus_any x1 y1 u) (fun u => plus_any x2 y2 u)).mono ?_; rintro e w' ⟨rfl, hb⟩)
        | (go_at_call 28; refine (narrow_no (W128_add H.out.1 H.out.2.2.2.1) (W128_add H.out.2.1 H.out.2.2.2.2.1) (W128_add H.out.2.2.1 H.out.2.2.2.2.2) HF.out _).mono ?_; rintro e w' ⟨rfl, hb⟩))
    go_split_ands
    go_wp2
    exact bodyPost_ret (v := nv (x0 + y0) (x1 + y1) (x2 + y2)) (by rw [HN.out]; simp [results, Try.results8, go_sem, V3, *]; exact read3 (n := w.heap.size + 1 + 1) _ _ _ (by with_reducible assumption)) rfl ⟨rfl, Kp.out (n := w.heap.size + 1 + 1) (k := 3) (by with_reducible assumption) (by omega) (grow3 w _ _ _)⟩
  · have hq := Bool.and_eq_true_iff.1 hf
    have hp := Bool.and_eq_true_iff.1 hq.1
    have HF : Hid (I64 (x0 + y0) ∧ I64 (x1 + y1) ∧ I64 (x2 + y2)) := ⟨fit_I64 hp.1, fit_I64 hp.2, fit_I64 hq.2⟩
    have HN := hide (nv_ok hp.1 hp.2 hq.2)
    clear hf hq hp
    go_enter Try.func8, Try.ntmps8
    go_wp2_with fail
    go_region_held3 (fun w' => w'.cell? ⟨w.heap.size, 0, none⟩ = some (.int .i64 x0) ∧
      w'.cell? ⟨w.heap.size, 1, none⟩ = some (.int .i64 x1) ∧
      w'.cell? ⟨w.heap.size, 2, none⟩ = some (.int .i64 x2) ∧
      w'.cell? ⟨w.heap.size + 1, 0, none⟩ = some (.int .i64 y0) ∧
      w'.cell? ⟨w.heap.size + 1, 1, none⟩ = some (.int .i64 y1) ∧
      w'.cell? ⟨w.heap.size + 1, 2, none⟩ = some (.int .i64 y2) ∧
      w'.cell? ⟨w.heap.size + 1 + 1, 0, none⟩ = some (tv w' (w.heap.size + 1 + 1) 0) ∧
      w'.cell? ⟨w.heap.size + 1 + 1, 1, none⟩ = some (tv w' (w.heap.size + 1 + 1) 1) ∧
      w'.cell? ⟨w.heap.size + 1 + 1, 2, none⟩ = some (tv w' (w.heap.size + 1 + 1) 2) ∧
      w'.frozen? ⟨w.heap.size + 1 + 1, 0, none⟩ = false ∧
      w'.frozen? ⟨w.heap.size + 1 + 1, 1, none⟩ = false ∧
      w'.frozen? ⟨w.heap.size + 1 + 1, 2, none⟩ = false ∧
      Kp (w.heap.size + 1 + 1) 3 (((w.alloc (.cells #[.int .i64 x0, .int .i64 x1, .int .i64 x2] 23)).alloc (.cells #[.int .i64 y0, .int .i64 y1, .int .i64 y2] 23)).alloc (.cells #[.int .i64 0, .int .i64 0, .int .i64 0] 23)) w')
      (((with_reducible refine twoS x0 x1 x2 y0 y1 y2 w _ ?_); first | ((with_reducible refine Kp.set ?_ _ _); (repeat (with_reducible refine Kp.set ?_ _ _)); go_split_ands; with_reducible assumption) | ((with_reducible refine Kp.call ?_ hb); go_split_ands; with_reducible assumption) | (with_reducible exact Kp.begin (by simp) (by simp))))
      (first
        | (go_at_call_of 26 (Value.int .i64 x0); refine (widen_any x0 x1 x2 H.out.1 H.out.2.1 H.out.2.2.1 _).mono ?_; rintro e w' ⟨rfl, hb⟩)
        | (go_at_call 26; refine (widen_any y0 y1 y2 H.out.2.2.2.1 H.out.2.2.2.2.1 H.out.2.2.2.2.2 _).mono ?_; rintro e w' ⟨rfl, hb⟩)
        | (go_at_call 25; refine (beside_plus x0 x1 x2 y0 y1 y2 (x0 + y0) (x1 + y1) (x2 + y2) _ (fun u => plus_any x0 y0 u) (fun u => plus_any x1 y1 u) (fun u => plus_any x2 y2 u)).mono ?_; rintro e w' ⟨rfl, hb⟩)
        | (go_at_call 28; refine (narrow_ok HF.out.1 HF.out.2.1 HF.out.2.2 _).mono ?_; rintro e w' ⟨rfl, hb⟩))
    go_split_ands
    go_wp2
    exact bodyPost_ret (v := nv (x0 + y0) (x1 + y1) (x2 + y2)) (by rw [HN.out]; simp [results, Try.results8, go_sem, V3, *]; exact read3 (n := w.heap.size + 1 + 1) _ _ _ (by with_reducible assumption)) rfl ⟨rfl, Kp.out (n := w.heap.size + 1 + 1) (k := 3) (by with_reducible assumption) (by omega) (grow3 w _ _ _)⟩
end Go.Proofs.Ytklekpbfjcpjlaa
