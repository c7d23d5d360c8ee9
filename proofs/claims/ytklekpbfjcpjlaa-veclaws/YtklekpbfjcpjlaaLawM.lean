/- Plain facts for the law VecLaws, and what is carried through its last statements. -/
import Derived.Test.YtklekpbfjcpjlaaHold
import Derived.Test.YtklekpbfjcpjlaaFits
import Derived.BigQuiet
namespace Go.Proofs.Ytklekpbfjcpjlaa
open Go.RowKit

theorem imax_beq (x y : Int) : (imax x y == y) = decide (x ≤ y) := by
  unfold imax
  by_cases h : x < y
  · rw [if_pos h]; simp; omega
  · rw [if_neg h]
    by_cases e : x = y
    · subst e; simp
    · have h1 : (x == y) = false := by simpa using e
      have h2 : decide (x ≤ y) = false := by simp; omega
      rw [h1, h2]
theorem law_eq (x0 x1 x2 y0 y1 y2 : Int) : (imax x0 y0 == y0 && imax x1 y1 == y1 && imax x2 y2 == y2) = fitsB x0 x1 x2 y0 y1 y2 := by
  unfold fitsB; rw [imax_beq, imax_beq, imax_beq]
theorem imin_le (x y : Int) : imin x y ≤ x := by unfold imin; split <;> omega
theorem le_imax (x y : Int) : y ≤ imax x y := by unfold imax; split <;> omega
theorem law_min (x0 x1 x2 y0 y1 y2 : Int) : fitsB (imin x0 y0) (imin x1 y1) (imin x2 y2) x0 x1 x2 = true := by
  unfold fitsB; simp [imin_le]
theorem law_max (x0 x1 x2 y0 y1 y2 : Int) : fitsB y0 y1 y2 (imax x0 y0) (imax x1 y1) (imax x2 y2) = true := by
  unfold fitsB; simp [le_imax]
theorem law_add (x0 x1 x2 y0 y1 y2 z0 z1 z2 : Int) : fitsB (x0 + z0) (x1 + z1) (x2 + z2) (y0 + z0) (y1 + z1) (y2 + z2) = fitsB x0 x1 x2 y0 y1 y2 := by
  unfold fitsB; simp
theorem H3.drewN {p : Nat} {a b c : Int} {u : World} (h : H3 p a b c u) (n : Nat) : H3 p a b c (u.drewN n) := by
  induction n with
  | zero => exact h
  | succ n ih => exact ih
theorem below_drewN {B : Nat} {w u : World} (h : Below B w u) (n : Nat) : Below B w (u.drewN n) := by
  induction n with
  | zero => exact h
  | succ n ih => exact ih.drew
theorem lawS {pa pb : Nat} {x0 x1 x2 y0 y1 y2 : Int} {W u : World} (ha : H3 pa x0 x1 x2 W) (hy : H3 pb y0 y1 y2 W) (hb : Below W.heap.size W u) :
    u.cell? ⟨pa, 0, none⟩ = some (.int .i64 x0) ∧ u.cell? ⟨pa, 1, none⟩ = some (.int .i64 x1) ∧ u.cell? ⟨pa, 2, none⟩ = some (.int .i64 x2) ∧ u.cell? ⟨pb, 0, none⟩ = some (.int .i64 y0) ∧ u.cell? ⟨pb, 1, none⟩ = some (.int .i64 y1) ∧ u.cell? ⟨pb, 2, none⟩ = some (.int .i64 y2) ∧ Below W.heap.size W u :=
  ⟨(ha.call hb).1, (ha.call hb).2.1, (ha.call hb).2.2.1, (hy.call hb).1, (hy.call hb).2.1, (hy.call hb).2.2.1, hb⟩
theorem lawT {pa pb ps pt : Nat} {x0 x1 x2 y0 y1 y2 s0 s1 s2 t0 t1 t2 : Int} {W u : World} (ha : H3 pa x0 x1 x2 W) (hy : H3 pb y0 y1 y2 W) (hs : H3 ps s0 s1 s2 W) (ht : H3 pt t0 t1 t2 W) (hb : Below W.heap.size W u) :
    u.cell? ⟨pa, 0, none⟩ = some (.int .i64 x0) ∧ u.cell? ⟨pa, 1, none⟩ = some (.int .i64 x1) ∧ u.cell? ⟨pa, 2, none⟩ = some (.int .i64 x2) ∧ u.cell? ⟨pb, 0, none⟩ = some (.int .i64 y0) ∧ u.cell? ⟨pb, 1, none⟩ = some (.int .i64 y1) ∧ u.cell? ⟨pb, 2, none⟩ = some (.int .i64 y2) ∧ u.cell? ⟨ps, 0, none⟩ = some (.int .i64 s0) ∧ u.cell? ⟨ps, 1, none⟩ = some (.int .i64 s1) ∧ u.cell? ⟨ps, 2, none⟩ = some (.int .i64 s2) ∧ u.cell? ⟨pt, 0, none⟩ = some (.int .i64 t0) ∧ u.cell? ⟨pt, 1, none⟩ = some (.int .i64 t1) ∧ u.cell? ⟨pt, 2, none⟩ = some (.int .i64 t2) ∧ Below W.heap.size W u :=
  ⟨(ha.call hb).1, (ha.call hb).2.1, (ha.call hb).2.2.1, (hy.call hb).1, (hy.call hb).2.1, (hy.call hb).2.2.1, (hs.call hb).1, (hs.call hb).2.1, (hs.call hb).2.2.1, (ht.call hb).1, (ht.call hb).2.1, (ht.call hb).2.2.1, hb⟩
end Go.Proofs.Ytklekpbfjcpjlaa
