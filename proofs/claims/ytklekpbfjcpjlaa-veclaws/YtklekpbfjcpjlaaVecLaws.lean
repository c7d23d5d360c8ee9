/- The law VecLaws: its four walks over the callees' contracts. -/
import Derived.Test.YtklekpbfjcpjlaaLawsYY
import Derived.Test.YtklekpbfjcpjlaaLawsYN
import Derived.Test.YtklekpbfjcpjlaaLawsNY
import Derived.Test.YtklekpbfjcpjlaaLawsNN
import Derived.Test.YtklekpbfjcpjlaaMax
import Derived.Test.YtklekpbfjcpjlaaSub
namespace Go.Proofs.Ytklekpbfjcpjlaa
open Go.RowKit

theorem rot1 (x y z : Int) : z + x + y = x + y + z := by omega
theorem rot2 (x y z : Int) : y + x + z = x + y + z := by omega
theorem back1 (x z : Int) : x + z - z = x := by omega
theorem VecLaws_any (x0 x1 x2 y0 y1 y2 z0 z1 z2 : Int) (h : I64 x0 ∧ I64 x1 ∧ I64 x2 ∧ I64 y0 ∧ I64 y1 ∧ I64 y2 ∧ I64 z0 ∧ I64 z1 ∧ I64 z2) (w : World) :
    Calls Try.prog 6 #[V3 x0 x1 x2, V3 y0 y1 y2, V3 z0 z1 z2] w fun e w' => e = .returned (.bool true) ∧ Below w.heap.size w w' := by
  obtain ⟨hx0, hx1, hx2, hy0, hy1, hy2, hz0, hz1, hz2⟩ := h
  obtain ⟨p0, p1, p2, pe, hp⟩ := nv_form (x0 + y0 + z0) (x1 + y1 + z1) (x2 + y2 + z2)
  have k1 := fun (g : Nat) (u : World) (hg : g < u.heap.size) hc => Sum3_any g 3 x0 x1 x2 y0 y1 y2 z0 z1 z2 u hg ⟨hx0, hy0, hz0⟩ ⟨hx1, hy1, hz1⟩ ⟨hx2, hy2, hz2⟩ hc
  have k2 := fun (g : Nat) (u : World) (hg : g < u.heap.size) hc => Sum3_any g 3 z0 z1 z2 x0 x1 x2 y0 y1 y2 u hg ⟨hz0, hx0, hy0⟩ ⟨hz1, hx1, hy1⟩ ⟨hz2, hx2, hy2⟩ hc
  have k3 := fun (g : Nat) (u : World) (hg : g < u.heap.size) hc => Sum3_any g 3 y0 y1 y2 x0 x1 x2 z0 z1 z2 u hg ⟨hy0, hx0, hz0⟩ ⟨hy1, hx1, hz1⟩ ⟨hy2, hx2, hz2⟩ hc
  have k4 := Add_any x0 x1 x2 z0 z1 z2 ⟨hx0, hx1, hx2, hz0, hz1, hz2⟩
  have k5 := Add_any y0 y1 y2 z0 z1 z2 ⟨hy0, hy1, hy2, hz0, hz1, hz2⟩
  have k7 := Fits_any x0 x1 x2 y0 y1 y2 ⟨hx0, hx1, hx2, hy0, hy1, hy2⟩
  have k9 := Min_any x0 x1 x2 y0 y1 y2 ⟨hx0, hx1, hx2, hy0, hy1, hy2⟩
  have k10 := Fits_any (imin x0 y0) (imin x1 y1) (imin x2 y2) x0 x1 x2 ⟨imin_I64 hx0 hy0, imin_I64 hx1 hy1, imin_I64 hx2 hy2, hx0, hx1, hx2⟩
  have k11 := Max_any x0 x1 x2 y0 y1 y2 ⟨hx0, hx1, hx2, hy0, hy1, hy2⟩
  have k12 := Fits_any y0 y1 y2 (imax x0 y0) (imax x1 y1) (imax x2 y2) ⟨hy0, hy1, hy2, imax_I64 hx0 hy0, imax_I64 hx1 hy1, imax_I64 hx2 hy2⟩
  rw [hp] at k1
  rw [rot1 x0 y0 z0, rot1 x1 y1 z1, rot1 x2 y2 z2, hp] at k2
  rw [rot2 x0 y0 z0, rot2 x1 y1 z1, rot2 x2 y2 z2, hp] at k3
  rw [law_min] at k10
  rw [law_max] at k12
  have ke := law_eq x0 x1 x2 y0 y1 y2
  cases hs : (fit (x0 + z0) && fit (x1 + z1) && fit (x2 + z2)) <;> cases ht : (fit (y0 + z0) && fit (y1 + z1) && fit (y2 + z2))
  · have e4 : nv (x0 + z0) (x1 + z1) (x2 + z2) = .tuple #[V3 0 0 0, .int .i64 9] := by unfold nv; rw [hs]; rfl
    have e5 : nv (y0 + z0) (y1 + z1) (y2 + z2) = .tuple #[V3 0 0 0, .int .i64 9] := by unfold nv; rw [ht]; rfl
    rw [e4] at k4
    rw [e5] at k5
    exact laws_nn x0 x1 x2 y0 y1 y2 z0 z1 z2 p0 p1 p2 pe _ _ _ _ _ _ _ w k1 k2 k3 k4 k5 k7 k9 k10 k11 k12 ke
  · have hq := Bool.and_eq_true_iff.1 ht
    have hr := Bool.and_eq_true_iff.1 hq.1
    have e4 : nv (x0 + z0) (x1 + z1) (x2 + z2) = .tuple #[V3 0 0 0, .int .i64 9] := by unfold nv; rw [hs]; rfl
    rw [e4] at k4
    rw [nv_ok hr.1 hr.2 hq.2] at k5
    exact laws_ny x0 x1 x2 y0 y1 y2 z0 z1 z2 p0 p1 p2 pe _ _ _ _ _ _ _ _ _ _ w k1 k2 k3 k4 k5 k7 k9 k10 k11 k12 ke
  · have hq := Bool.and_eq_true_iff.1 hs
    have hr := Bool.and_eq_true_iff.1 hq.1
    have e5 : nv (y0 + z0) (y1 + z1) (y2 + z2) = .tuple #[V3 0 0 0, .int .i64 9] := by unfold nv; rw [ht]; rfl
    rw [nv_ok hr.1 hr.2 hq.2] at k4
    rw [e5] at k5
    have k6 := Sub_any (x0 + z0) (x1 + z1) (x2 + z2) z0 z1 z2 ⟨fit_I64 hr.1, fit_I64 hr.2, fit_I64 hq.2, hz0, hz1, hz2⟩
    rw [back1, back1, back1, nv_ok (fit_of hx0) (fit_of hx1) (fit_of hx2)] at k6
    exact laws_yn x0 x1 x2 y0 y1 y2 z0 z1 z2 p0 p1 p2 pe _ _ _ _ _ _ _ _ _ _ w k1 k2 k3 k4 k5 k6 k7 k9 k10 k11 k12 ke
  · have hq := Bool.and_eq_true_iff.1 hs
    have hr := Bool.and_eq_true_iff.1 hq.1
    have hq2 := Bool.and_eq_true_iff.1 ht
    have hr2 := Bool.and_eq_true_iff.1 hq2.1
    rw [nv_ok hr.1 hr.2 hq.2] at k4
    rw [nv_ok hr2.1 hr2.2 hq2.2] at k5
    have k6 := Sub_any (x0 + z0) (x1 + z1) (x2 + z2) z0 z1 z2 ⟨fit_I64 hr.1, fit_I64 hr.2, fit_I64 hq.2, hz0, hz1, hz2⟩
    rw [back1, back1, back1, nv_ok (fit_of hx0) (fit_of hx1) (fit_of hx2)] at k6
    have k8 := Fits_any (x0 + z0) (x1 + z1) (x2 + z2) (y0 + z0) (y1 + z1) (y2 + z2) ⟨fit_I64 hr.1, fit_I64 hr.2, fit_I64 hq.2, fit_I64 hr2.1, fit_I64 hr2.2, fit_I64 hq2.2⟩
    rw [law_add] at k8
    exact laws_yy x0 x1 x2 y0 y1 y2 z0 z1 z2 p0 p1 p2 pe _ _ _ _ _ _ _ _ _ _ _ _ _ w k1 k2 k3 k4 k5 k6 k7 k8 k9 k10 k11 k12 ke
end Go.Proofs.Ytklekpbfjcpjlaa
