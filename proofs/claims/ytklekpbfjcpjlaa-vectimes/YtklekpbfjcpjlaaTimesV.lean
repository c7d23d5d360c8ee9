/- What Times does: a walk over the contracts of widen, alike, beside, times, narrow. -/
import Derived.Test.YtklekpbfjcpjlaaTwo
import Derived.Test.YtklekpbfjcpjlaaFits
import Derived.Test.YtklekpbfjcpjlaaTimesW
import Derived.Test.YtklekpbfjcpjlaaBesideTimes
namespace Go.Proofs.Ytklekpbfjcpjlaa
open Go.RowKit

theorem vecS (x0 x1 x2 : Int) (w u : World) (hb : Below ((w.alloc (.cells #[.int .i64 x0, .int .i64 x1, .int .i64 x2] 23)).alloc (.cells #[.int .i64 0, .int .i64 0, .int .i64 0] 23)).heap.size ((w.alloc (.cells #[.int .i64 x0, .int .i64 x1, .int .i64 x2] 23)).alloc (.cells #[.int .i64 0, .int .i64 0, .int .i64 0] 23)) u) :
    u.cell? ⟨w.heap.size, 0, none⟩ = some (.int .i64 x0) ∧
    u.cell? ⟨w.heap.size, 1, none⟩ = some (.int .i64 x1) ∧
    u.cell? ⟨w.heap.size, 2, none⟩ = some (.int .i64 x2) ∧
    u.cell? ⟨w.heap.size + 1, 0, none⟩ = some (.int .i64 0) ∧
    u.cell? ⟨w.heap.size + 1, 1, none⟩ = some (.int .i64 0) ∧
    u.cell? ⟨w.heap.size + 1, 2, none⟩ = some (.int .i64 0) ∧
    u.frozen? ⟨w.heap.size + 1, 0, none⟩ = false ∧
    u.frozen? ⟨w.heap.size + 1, 1, none⟩ = false ∧
    u.frozen? ⟨w.heap.size + 1, 2, none⟩ = false :=
  ⟨bcellA hb (by simp only [World.size_alloc]; omega) (by simp [go_sem]),
    bcellA hb (by simp only [World.size_alloc]; omega) (by simp [go_sem]),
    bcellA hb (by simp only [World.size_alloc]; omega) (by simp [go_sem]),
    bcellA hb (by simp) (by simp [go_sem]),
    bcellA hb (by simp) (by simp [go_sem]),
    bcellA hb (by simp) (by simp [go_sem]),
    ((bcell hb).2 _ _ (by simp)).trans (by simp [go_sem]),
    ((bcell hb).2 _ _ (by simp)).trans (by simp [go_sem]),
    ((bcell hb).2 _ _ (by simp)).trans (by simp [go_sem])⟩

set_option maxHeartbeats 1000000 in
theorem Times_any (x0 x1 x2 n : Int) (h : I64 x0 ∧ I64 x1 ∧ I64 x2 ∧ I64 n) (w : World) :
    Calls Try.prog 12 #[V3 x0 x1 x2, .int .i64 n] w fun e w' => e = .returned (nv (x0 * n) (x1 * n) (x2 * n)) ∧ Below w.heap.size w w' := by
  have H := hide h
  clear h
  unfold V3
  cases hf : (fit (x0 * n) && fit (x1 * n) && fit (x2 * n))
  · have HF := hide hf
    have HN : Hid (nv (x0 * n) (x1 * n) (x2 * n) = .tuple #[V3 0 0 0, .int .i64 9]) := by unfold nv; rw [hf]; rfl
    clear hf
    go_enter Try.func12, Try.ntmps12
    go_wp2_with fail
    refine (widen_any x0 x1 x2 H.out.1 H.out.2.1 H.out.2.2.1 _).mono ?_
    rintro e w1 ⟨rfl, hb1⟩
    have HB1 := hide hb1
    clear hb1
    go_wp2_with fail
    refine (alike_any n _).mono ?_
    rintro e w2 ⟨rfl, hb2⟩
    have HB2 := hide (bnext HB1.out hb2)
    clear hb2 HB1
    go_wp2_with fail
    refine (widen_any n n n H.out.2.2.2 H.out.2.2.2 H.out.2.2.2 _).mono ?_
    rintro e w3 ⟨rfl, hb3⟩
    have HB3 := hide (bnext HB2.out hb3)
    clear hb3 HB2
    go_wp2_with fail
    refine (beside_times x0 x1 x2 n n n (x0 * n) (x1 * n) (x2 * n) _ (fun u => times_any x0 n u) (fun u => times_any x1 n u) (fun u => times_any x2 n u)).mono ?_
    rintro e w4 ⟨rfl, hb4⟩
    have HB4 := hide (bnext HB3.out hb4)
    clear hb4 HB3
    go_wp2_with fail
    refine (narrow_no (W128_mul H.out.1 H.out.2.2.2) (W128_mul H.out.2.1 H.out.2.2.2) (W128_mul H.out.2.2.1 H.out.2.2.2) HF.out _).mono ?_
    rintro e w5 ⟨rfl, hb5⟩
    have HB5 := hide (bnext HB4.out hb5)
    have hS := vecS x0 x1 x2 w w5 HB5.out
    clear hb5 HB4
    go_wp2
    exact bodyPost_ret (v := nv (x0 * n) (x1 * n) (x2 * n)) (by rw [HN.out]; simp [results, Try.results12, go_sem, V3, *]) rfl ⟨rfl, (((below2 HB5.out).setCell (by simp) _).setCell (by simp) _).setCell (by simp) _⟩
  · have hq := Bool.and_eq_true_iff.1 hf
    have hp := Bool.and_eq_true_iff.1 hq.1
    have HF : Hid (I64 (x0 * n) ∧ I64 (x1 * n) ∧ I64 (x2 * n)) := ⟨fit_I64 hp.1, fit_I64 hp.2, fit_I64 hq.2⟩
    have HN := hide (nv_ok hp.1 hp.2 hq.2)
    clear hf hq hp
    go_enter Try.func12, Try.ntmps12
    go_wp2_with fail
    refine (widen_any x0 x1 x2 H.out.1 H.out.2.1 H.out.2.2.1 _).mono ?_
    rintro e w1 ⟨rfl, hb1⟩
    have HB1 := hide hb1
    clear hb1
    go_wp2_with fail
    refine (alike_any n _).mono ?_
    rintro e w2 ⟨rfl, hb2⟩
    have HB2 := hide (bnext HB1.out hb2)
    clear hb2 HB1
    go_wp2_with fail
    refine (widen_any n n n H.out.2.2.2 H.out.2.2.2 H.out.2.2.2 _).mono ?_
    rintro e w3 ⟨rfl, hb3⟩
    have HB3 := hide (bnext HB2.out hb3)
    clear hb3 HB2
    go_wp2_with fail
    refine (beside_times x0 x1 x2 n n n (x0 * n) (x1 * n) (x2 * n) _ (fun u => times_any x0 n u) (fun u => times_any x1 n u) (fun u => times_any x2 n u)).mono ?_
    rintro e w4 ⟨rfl, hb4⟩
    have HB4 := hide (bnext HB3.out hb4)
    clear hb4 HB3
    go_wp2_with fail
    refine (narrow_ok HF.out.1 HF.out.2.1 HF.out.2.2 _).mono ?_
    rintro e w5 ⟨rfl, hb5⟩
    have HB5 := hide (bnext HB4.out hb5)
    have hS := vecS x0 x1 x2 w w5 HB5.out
    clear hb5 HB4
    go_wp2
    exact bodyPost_ret (v := nv (x0 * n) (x1 * n) (x2 * n)) (by rw [HN.out]; simp [results, Try.results12, go_sem, V3, *]) rfl ⟨rfl, (((below2 HB5.out).setCell (by simp) _).setCell (by simp) _).setCell (by simp) _⟩
end Go.Proofs.Ytklekpbfjcpjlaa
