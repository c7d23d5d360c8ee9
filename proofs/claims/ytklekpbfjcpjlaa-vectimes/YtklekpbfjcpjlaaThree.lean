/- What the document's own three does. -/
import Derived.Test.YtklekpbfjcpjlaaRefW
namespace Go.Proofs.Ytklekpbfjcpjlaa
open Go.RowKit

theorem threeS (xa xb ya yb za zb : Int) (w u : World) (hb : Below ((((w.alloc (.cells #[.int .i64 xa, .int .i64 xb] 54)).alloc (.cells #[.int .i64 ya, .int .i64 yb] 54)).alloc (.cells #[.int .i64 za, .int .i64 zb] 54)).alloc (.cells #[.int .i64 0, .int .i64 0, .int .i64 0] 23)).heap.size ((((w.alloc (.cells #[.int .i64 xa, .int .i64 xb] 54)).alloc (.cells #[.int .i64 ya, .int .i64 yb] 54)).alloc (.cells #[.int .i64 za, .int .i64 zb] 54)).alloc (.cells #[.int .i64 0, .int .i64 0, .int .i64 0] 23)) u) :
    u.cell? ⟨w.heap.size, 0, none⟩ = some (.int .i64 xa) ∧
    u.cell? ⟨w.heap.size, 1, none⟩ = some (.int .i64 xb) ∧
    u.cell? ⟨w.heap.size + 1, 0, none⟩ = some (.int .i64 ya) ∧
    u.cell? ⟨w.heap.size + 1, 1, none⟩ = some (.int .i64 yb) ∧
    u.cell? ⟨w.heap.size + 1 + 1, 0, none⟩ = some (.int .i64 za) ∧
    u.cell? ⟨w.heap.size + 1 + 1, 1, none⟩ = some (.int .i64 zb) ∧
    u.cell? ⟨w.heap.size + 1 + 1 + 1, 0, none⟩ = some (.int .i64 0) ∧
    u.cell? ⟨w.heap.size + 1 + 1 + 1, 1, none⟩ = some (.int .i64 0) ∧
    u.cell? ⟨w.heap.size + 1 + 1 + 1, 2, none⟩ = some (.int .i64 0) ∧
    u.frozen? ⟨w.heap.size + 1 + 1 + 1, 0, none⟩ = false ∧
    u.frozen? ⟨w.heap.size + 1 + 1 + 1, 1, none⟩ = false ∧
    u.frozen? ⟨w.heap.size + 1 + 1 + 1, 2, none⟩ = false :=
  ⟨bcellA hb (by simp only [World.size_alloc]; omega) (by simp [go_sem]),
    bcellA hb (by simp only [World.size_alloc]; omega) (by simp [go_sem]),
    bcellA hb (by simp only [World.size_alloc]; omega) (by simp [go_sem]),
    bcellA hb (by simp only [World.size_alloc]; omega) (by simp [go_sem]),
    bcellA hb (by simp only [World.size_alloc]; omega) (by simp [go_sem]),
    bcellA hb (by simp only [World.size_alloc]; omega) (by simp [go_sem]),
    bcellA hb (by simp) (by simp [go_sem]),
    bcellA hb (by simp) (by simp [go_sem]),
    bcellA hb (by simp) (by simp [go_sem]),
    ((bcell hb).2 _ _ (by simp)).trans (by simp [go_sem]),
    ((bcell hb).2 _ _ (by simp)).trans (by simp [go_sem]),
    ((bcell hb).2 _ _ (by simp)).trans (by simp [go_sem])⟩

set_option maxHeartbeats 1000000 in
theorem three_core (xa xb ya yb za zb vx vy vz : Int) (b0 b1 b2 : Bool) (w : World)
    (h0 : ∀ u, Calls Try.prog 42 #[.agg #[.int .i64 xa, .int .i64 xb]] u fun e w' => e = .returned (.tuple #[.int .i64 vx, .bool b0]) ∧ Below u.heap.size u w')
    (h1 : ∀ u, Calls Try.prog 42 #[.agg #[.int .i64 ya, .int .i64 yb]] u fun e w' => e = .returned (.tuple #[.int .i64 vy, .bool b1]) ∧ Below u.heap.size u w')
    (h2 : ∀ u, Calls Try.prog 42 #[.agg #[.int .i64 za, .int .i64 zb]] u fun e w' => e = .returned (.tuple #[.int .i64 vz, .bool b2]) ∧ Below u.heap.size u w') :
    Calls Try.prog 29 #[.agg #[.int .i64 xa, .int .i64 xb], .agg #[.int .i64 ya, .int .i64 yb], .agg #[.int .i64 za, .int .i64 zb]] w fun e w' =>
      e = .returned (if (b0 && b1 && b2) = true then .tuple #[V3 vx vy vz, .int .i64 0] else .tuple #[V3 0 0 0, .int .i64 9]) ∧ Below w.heap.size w w' := by
  have H0 := hide h0; have H1 := hide h1; have H2 := hide h2
  clear h0 h1 h2
  cases b0 <;> cases b1 <;> cases b2
  all_goals
    go_enter Try.func29, Try.ntmps29
    go_wp2_with fail
    refine (H0.out _).mono ?_
    rintro e w1 ⟨rfl, hb1⟩
    have hS1 := threeS xa xb ya yb za zb w w1 hb1
    have HB1 := hide hb1
    clear hb1
    go_wp2_with fail
    refine (H1.out _).mono ?_
    rintro e w2 ⟨rfl, hb2⟩
    have HB2 := hide (bnext HB1.out hb2)
    have hS2 := threeS xa xb ya yb za zb w w2 HB2.out
    clear hb2 hS1 HB1
    go_wp2_with fail
    refine (H2.out _).mono ?_
    rintro e w3 ⟨rfl, hb3⟩
    have HB3 := hide (bnext HB2.out hb3)
    have hS3 := threeS xa xb ya yb za zb w w3 HB3.out
    clear hb3 hS2 HB2
    go_wp2
    refine bodyPost_ret (v := _) ?_ rfl ⟨rfl, (((below4 HB3.out).setCell (by simp; omega) _).setCell (by simp; omega) _).setCell (by simp; omega) _⟩
    simp [results, Try.results29, go_sem, V3, *]

theorem three_any (x y z : Int) (w : World) :
    Calls Try.prog 29 #[R2 x, R2 y, R2 z] w fun e w' => e = .returned (nv x y z) ∧ Below w.heap.size w w' := by
  have k : ∀ t : Int, ∃ v : Int, (fit t = true → v = t) ∧ ∀ u, Calls Try.prog 42 #[R2 t] u fun e w' => e = .returned (.tuple #[.int .i64 v, .bool (fit t)]) ∧ Below u.heap.size u w' := by
    intro t
    cases hf : fit t
    · exact ⟨0, fun h => (by cases h), fun u => rInt_no t hf u⟩
    · exact ⟨t, fun _ => rfl, fun u => rInt_yes t hf u⟩
  obtain ⟨vx, ex, kx⟩ := k x
  obtain ⟨vy, ey, ky⟩ := k y
  obtain ⟨vz, ez, kz⟩ := k z
  have h := three_core _ _ _ _ _ _ vx vy vz (fit x) (fit y) (fit z) w kx ky kz
  have e : (if (fit x && fit y && fit z) = true then Value.tuple #[V3 vx vy vz, .int .i64 0] else .tuple #[V3 0 0 0, .int .i64 9]) = nv x y z := by
    unfold nv
    by_cases hh : (fit x && fit y && fit z) = true
    · rw [if_pos hh, if_pos hh]
      have hq := Bool.and_eq_true_iff.1 hh
      have hp := Bool.and_eq_true_iff.1 hq.1
      rw [ex hp.1, ey hp.2, ez hq.2]
    · rw [if_neg hh, if_neg hh]
  rw [e] at h
  exact h

theorem three_ok {x0 x1 x2 : Int} (h0 : fit x0 = true) (h1 : fit x1 = true) (h2 : fit x2 = true) (w : World) :
    Calls Try.prog 29 #[R2 x0, R2 x1, R2 x2] w fun e w' => e = .returned (.tuple #[.agg #[.int .i64 x0, .int .i64 x1, .int .i64 x2], .int .i64 0]) ∧ Below w.heap.size w w' := by
  have h := three_any x0 x1 x2 w
  rw [nv_ok h0 h1 h2] at h
  exact h
theorem three_no {x0 x1 x2 : Int} (hf : (fit x0 && fit x1 && fit x2) = false) (w : World) :
    Calls Try.prog 29 #[R2 x0, R2 x1, R2 x2] w fun e w' => e = .returned (.tuple #[.agg #[.int .i64 0, .int .i64 0, .int .i64 0], .int .i64 9]) ∧ Below w.heap.size w w' := by
  have h := three_any x0 x1 x2 w
  unfold nv at h
  rw [hf] at h
  exact h
end Go.Proofs.Ytklekpbfjcpjlaa
