/- The walk of the law VecLaws where the first sum is not a vec and the second is, over contracts as premises. -/
import Derived.Test.YtklekpbfjcpjlaaLawM
import Derived.Test.YtklekpbfjcpjlaaAlive
import Derived.Deep.QuietTactic
import Derived.BigQuiet
namespace Go.Proofs.Ytklekpbfjcpjlaa
open Go.RowKit
attribute [local go_sem ↓] Go.wp_at_zero Go.wp_at_succ
attribute [local go_sem ↓] eq23

set_option maxRecDepth 100000 in
set_option maxHeartbeats 4000000 in
theorem laws_ny (x0 x1 x2 y0 y1 y2 z0 z1 z2 p0 p1 p2 pe m0 m1 m2 n0 n1 n2 : Int) (t0 : Int) (t1 : Int) (t2 : Int) (fv : Bool) (w : World)
    (k1 : ∀ g u, g < u.heap.size → (u.cell? ⟨g, 0, none⟩ = some (.int .i64 x0) ∧ u.cell? ⟨g, 1, none⟩ = some (.int .i64 x1) ∧ u.cell? ⟨g, 2, none⟩ = some (.int .i64 x2) ∧ u.cell? ⟨g, 3, none⟩ = some (.int .i64 y0) ∧ u.cell? ⟨g, 4, none⟩ = some (.int .i64 y1) ∧ u.cell? ⟨g, 5, none⟩ = some (.int .i64 y2) ∧ u.cell? ⟨g, 6, none⟩ = some (.int .i64 z0) ∧ u.cell? ⟨g, 7, none⟩ = some (.int .i64 z1) ∧ u.cell? ⟨g, 8, none⟩ = some (.int .i64 z2)) → Calls Try.prog 15 #[.slice (some ⟨g, 0, none⟩) 3 3] u fun e w' => e = .returned (.tuple #[.agg #[.int .i64 p0, .int .i64 p1, .int .i64 p2], .int .i64 pe]) ∧ Below u.heap.size u w')
    (k2 : ∀ g u, g < u.heap.size → (u.cell? ⟨g, 0, none⟩ = some (.int .i64 z0) ∧ u.cell? ⟨g, 1, none⟩ = some (.int .i64 z1) ∧ u.cell? ⟨g, 2, none⟩ = some (.int .i64 z2) ∧ u.cell? ⟨g, 3, none⟩ = some (.int .i64 x0) ∧ u.cell? ⟨g, 4, none⟩ = some (.int .i64 x1) ∧ u.cell? ⟨g, 5, none⟩ = some (.int .i64 x2) ∧ u.cell? ⟨g, 6, none⟩ = some (.int .i64 y0) ∧ u.cell? ⟨g, 7, none⟩ = some (.int .i64 y1) ∧ u.cell? ⟨g, 8, none⟩ = some (.int .i64 y2)) → Calls Try.prog 15 #[.slice (some ⟨g, 0, none⟩) 3 3] u fun e w' => e = .returned (.tuple #[.agg #[.int .i64 p0, .int .i64 p1, .int .i64 p2], .int .i64 pe]) ∧ Below u.heap.size u w')
    (k3 : ∀ g u, g < u.heap.size → (u.cell? ⟨g, 0, none⟩ = some (.int .i64 y0) ∧ u.cell? ⟨g, 1, none⟩ = some (.int .i64 y1) ∧ u.cell? ⟨g, 2, none⟩ = some (.int .i64 y2) ∧ u.cell? ⟨g, 3, none⟩ = some (.int .i64 x0) ∧ u.cell? ⟨g, 4, none⟩ = some (.int .i64 x1) ∧ u.cell? ⟨g, 5, none⟩ = some (.int .i64 x2) ∧ u.cell? ⟨g, 6, none⟩ = some (.int .i64 z0) ∧ u.cell? ⟨g, 7, none⟩ = some (.int .i64 z1) ∧ u.cell? ⟨g, 8, none⟩ = some (.int .i64 z2)) → Calls Try.prog 15 #[.slice (some ⟨g, 0, none⟩) 3 3] u fun e w' => e = .returned (.tuple #[.agg #[.int .i64 p0, .int .i64 p1, .int .i64 p2], .int .i64 pe]) ∧ Below u.heap.size u w')
    (k4 : ∀ u, Calls Try.prog 8 #[.agg #[.int .i64 x0, .int .i64 x1, .int .i64 x2], .agg #[.int .i64 z0, .int .i64 z1, .int .i64 z2]] u fun e w' => e = .returned (.tuple #[.agg #[.int .i64 0, .int .i64 0, .int .i64 0], .int .i64 9]) ∧ Below u.heap.size u w')
    (k5 : ∀ u, Calls Try.prog 8 #[.agg #[.int .i64 y0, .int .i64 y1, .int .i64 y2], .agg #[.int .i64 z0, .int .i64 z1, .int .i64 z2]] u fun e w' => e = .returned (.tuple #[.agg #[.int .i64 t0, .int .i64 t1, .int .i64 t2], .int .i64 0]) ∧ Below u.heap.size u w')
    (k7 : ∀ u, Calls Try.prog 19 #[.agg #[.int .i64 x0, .int .i64 x1, .int .i64 x2], .agg #[.int .i64 y0, .int .i64 y1, .int .i64 y2]] u fun e w' => e = .returned (.bool fv) ∧ Below u.heap.size u w')
    (k9 : ∀ u, Calls Try.prog 23 #[.agg #[.int .i64 x0, .int .i64 x1, .int .i64 x2], .agg #[.int .i64 y0, .int .i64 y1, .int .i64 y2]] u fun e w' => e = .returned (.agg #[.int .i64 m0, .int .i64 m1, .int .i64 m2]) ∧ Below u.heap.size u w')
    (k10 : ∀ u, Calls Try.prog 19 #[.agg #[.int .i64 m0, .int .i64 m1, .int .i64 m2], .agg #[.int .i64 x0, .int .i64 x1, .int .i64 x2]] u fun e w' => e = .returned (.bool true) ∧ Below u.heap.size u w')
    (k11 : ∀ u, Calls Try.prog 21 #[.agg #[.int .i64 x0, .int .i64 x1, .int .i64 x2], .agg #[.int .i64 y0, .int .i64 y1, .int .i64 y2]] u fun e w' => e = .returned (.agg #[.int .i64 n0, .int .i64 n1, .int .i64 n2]) ∧ Below u.heap.size u w')
    (k12 : ∀ u, Calls Try.prog 19 #[.agg #[.int .i64 y0, .int .i64 y1, .int .i64 y2], .agg #[.int .i64 n0, .int .i64 n1, .int .i64 n2]] u fun e w' => e = .returned (.bool true) ∧ Below u.heap.size u w')
    (ke : (n0 == y0 && n1 == y1 && n2 == y2) = fv) :
    Calls Try.prog 6 #[.agg #[.int .i64 x0, .int .i64 x1, .int .i64 x2], .agg #[.int .i64 y0, .int .i64 y1, .int .i64 y2], .agg #[.int .i64 z0, .int .i64 z1, .int .i64 z2]] w fun e w' => e = .returned (.bool true) ∧ Below w.heap.size w w' := by
  have K1 := hide k1
  have K2 := hide k2
  have K3 := hide k3
  have K4 := hide k4
  have K5 := hide k5
  have K7 := hide k7
  have K9 := hide k9
  have K10 := hide k10
  have K11 := hide k11
  have K12 := hide k12
  clear k1 k2 k3 k4 k5 k7 k9 k10 k11 k12
  go_enter Try.func6, Try.ntmps6
  go_wp2_with fail
  refine (K1.out (w.heap.size + 1 + 1 + 1) _ (by simp) (by simp [go_sem])).mono ?_
  rintro e w1 ⟨rfl, hb1⟩
  have hx1 : H3 w.heap.size x0 x1 x2 w1 := ((((H3.new w x0 x1 x2 23 rfl).alloc _).alloc _).alloc _).call hb1
  have hy1 : H3 (w.heap.size + 1) y0 y1 y2 w1 := (((H3.new _ y0 y1 y2 23 (by simp)).alloc _).alloc _).call hb1
  have hz1 : H3 (w.heap.size + 1 + 1) z0 z1 z2 w1 := ((H3.new _ z0 z1 z2 23 (by simp)).alloc _).call hb1
  have HB1 := hide (below4 hb1)
  clear hb1
  have ox := hx1
  have oy := hy1
  have oz := hz1
  unfold H3 at ox oy oz
  go_wp2_with fail
  refine (K2.out (w1.heap.size + 1) _ (by simp) (by simp [go_sem])).mono ?_
  rintro e w2 ⟨rfl, hb2⟩
  have hx2 := ((hx1.alloc _).alloc _).call hb2
  have hy2 := ((hy1.alloc _).alloc _).call hb2
  have hz2 := ((hz1.alloc _).alloc _).call hb2
  have hp12 := ((H3.new w1 p0 p1 p2 23 rfl).alloc _).call hb2
  have HB2 := hide (HB1.out.trans (((grow2 w1 _ _).trans (hb2.mono (by simp; omega))).mono HB1.out.size))
  clear hb2 HB1 hx1 hy1 hz1 ox oy oz
  have ox := hx2
  have oy := hy2
  have oz := hz2
  unfold H3 at ox oy oz
  go_wp2_with fail
  refine (K3.out (w2.heap.size + 1) _ (by simp) (by simp [go_sem])).mono ?_
  rintro e w3 ⟨rfl, hb3⟩
  have hx3 := ((hx2.alloc _).alloc _).call hb3
  have hy3 := ((hy2.alloc _).alloc _).call hb3
  have hz3 := ((hz2.alloc _).alloc _).call hb3
  have hp13 := ((hp12.alloc _).alloc _).call hb3
  have hp23 := ((H3.new w2 p0 p1 p2 23 rfl).alloc _).call hb3
  have HB3 := hide (HB2.out.trans (((grow2 w2 _ _).trans (hb3.mono (by simp; omega))).mono HB2.out.size))
  clear hb3 HB2 hx2 hy2 hz2 hp12 ox oy oz
  have ox := hx3
  have oy := hy3
  have oz := hz3
  unfold H3 at ox oy oz hp13 hp23
  go_wp2_with fail
  refine (K4.out _).mono ?_
  rintro e w4 ⟨rfl, hb4⟩
  have hx4 := (hx3.alloc _).call hb4
  have hy4 := (hy3.alloc _).call hb4
  have hz4 := (hz3.alloc _).call hb4
  have HB4 := hide (HB3.out.trans (((grow1 w3 _).trans (hb4.mono (by simp))).mono HB3.out.size))
  clear hb4 HB3 hx3 hy3 hz3 hp13 hp23 ox oy oz
  have ox := hx4
  have oy := hy4
  have oz := hz4
  unfold H3 at ox oy oz
  go_wp2_with fail
  refine (K5.out _).mono ?_
  rintro e w5 ⟨rfl, hb5⟩
  have hx5 := (hx4.alloc _).call hb5
  have hy5 := (hy4.alloc _).call hb5
  have hz5 := (hz4.alloc _).call hb5
  have hs5 := (H3.new w4 0 0 0 23 rfl).call hb5
  have HB5 := hide (HB4.out.trans (((grow1 w4 _).trans (hb5.mono (by simp))).mono HB4.out.size))
  clear hb5 HB4 hx4 hy4 hz4 ox oy oz
  have ox := hx5
  have oy := hy5
  have oz := hz5
  have os := hs5
  unfold H3 at ox oy oz os
  have HA := hide (hx5.alloc (.cells #[.int .i64 t0, .int .i64 t1, .int .i64 t2] 23))
  have HY := hide (hy5.alloc (.cells #[.int .i64 t0, .int .i64 t1, .int .i64 t2] 23))
  have HBb := hide (HB5.out.trans ((grow1 w5 (.cells #[.int .i64 t0, .int .i64 t1, .int .i64 t2] 23)).mono HB5.out.size))
  clear hx5 hy5 hz5 hs5 HB5
  go_wp2_with fail
  go_quiet (fail)
  have HA2 := hide (HA.out.drewN nq)
  have HY2 := hide (HY.out.drewN nq)
  have HB2 := hide (below_drewN HBb.out nq)
  clear HA HY HBb
  generalize (w5.alloc (.cells #[.int .i64 t0, .int .i64 t1, .int .i64 t2] 23)).drewN nq = wz at *
  go_wp2_with fail
  go_region_held3 (fun u' => u'.cell? ⟨w.heap.size, 0, none⟩ = some (.int .i64 x0) ∧
      u'.cell? ⟨w.heap.size, 1, none⟩ = some (.int .i64 x1) ∧
      u'.cell? ⟨w.heap.size, 2, none⟩ = some (.int .i64 x2) ∧
      u'.cell? ⟨w.heap.size + 1, 0, none⟩ = some (.int .i64 y0) ∧
      u'.cell? ⟨w.heap.size + 1, 1, none⟩ = some (.int .i64 y1) ∧
      u'.cell? ⟨w.heap.size + 1, 2, none⟩ = some (.int .i64 y2) ∧
      Below (wz).heap.size (wz) u')
    (((with_reducible refine lawS HA2.out HY2.out ?_); first | ((with_reducible refine bnext ?_ hb); go_split_ands; with_reducible assumption) | (with_reducible exact (Below.refl _ _).drew)))
    (first
      | (go_at_call 23; refine (K9.out _).mono ?_; rintro e v' ⟨rfl, hb⟩)
      | (go_at_call 21; refine (K11.out _).mono ?_; rintro e v' ⟨rfl, hb⟩)
      | (go_at_call_of 19 (Value.int .i64 m0); refine (K10.out _).mono ?_; rintro e v' ⟨rfl, hb⟩)
      | (go_at_call_of 19 (Value.int .i64 n0); refine (K12.out _).mono ?_; rintro e v' ⟨rfl, hb⟩)
      | (go_at_call 19; refine (K7.out _).mono ?_; rintro e v' ⟨rfl, hb⟩)
      | (go_at_call 14; refine (alive_any _).mono ?_; rintro e v' ⟨rfl, hb⟩))
  go_split_ands
  go_wp2
  go_ret
  exact ⟨rfl, HB2.out.trans ((by with_reducible assumption : Below (wz).heap.size (wz) v').mono HB2.out.size)⟩
end Go.Proofs.Ytklekpbfjcpjlaa
