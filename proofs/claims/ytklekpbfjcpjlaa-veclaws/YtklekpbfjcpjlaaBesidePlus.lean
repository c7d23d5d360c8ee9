/- What beside does with the function plus. -/
import Derived.Test.YtklekpbfjcpjlaaBeside
namespace Go.Proofs.Ytklekpbfjcpjlaa
open Go.RowKit
attribute [local go_sem ↓] Go.wp_at_zero Go.wp_at_succ

set_option maxHeartbeats 400000 in
theorem beside_plus (x0 x1 x2 y0 y1 y2 z0 z1 z2 : Int) (w : World)
    (h0 : ∀ u, Calls Try.prog 27 #[V2 x0, V2 y0] u fun e w' => e = .returned (V2 z0) ∧ Below u.heap.size u w')
    (h1 : ∀ u, Calls Try.prog 27 #[V2 x1, V2 y1] u fun e w' => e = .returned (V2 z1) ∧ Below u.heap.size u w')
    (h2 : ∀ u, Calls Try.prog 27 #[V2 x2, V2 y2] u fun e w' => e = .returned (V2 z2) ∧ Below u.heap.size u w') :
    Calls Try.prog 25 #[V6 x0 x1 x2, V6 y0 y1 y2, .func (.func 27) #[] #[]] w fun e w' => e = .returned (V6 z0 z1 z2) ∧ Below w.heap.size w w' := by
  unfold V2 at h0 h1 h2
  have H0 := hide h0; have H1 := hide h1; have H2 := hide h2
  clear h0 h1 h2
  unfold V6
  go_enter Try.func25, Try.ntmps25
  go_wp2_with fail
  go_loopw [9] (fun i wr => ∃ k : Nat, k ≤ 3 ∧ i = .int .i64 k ∧ Kb (w.heap.size + 1 + 1 + 1) (2 * k) z0 z1 z2 ((((w.alloc (.cells #[.int .u64 (lo x0), .int .u64 (hi x0), .int .u64 (lo x1), .int .u64 (hi x1), .int .u64 (lo x2), .int .u64 (hi x2)] 46)).alloc (.cells #[.int .u64 (lo y0), .int .u64 (hi y0), .int .u64 (lo y1), .int .u64 (hi y1), .int .u64 (lo y2), .int .u64 (hi y2)] 46)).alloc (.cells #[.int .u64 0, .int .u64 0, .int .u64 0, .int .u64 0, .int .u64 0, .int .u64 0] 46)).alloc (.cells #[.int .u64 0, .int .u64 0, .int .u64 0, .int .u64 0, .int .u64 0, .int .u64 0] 46)) wr) (fun i _ => 3 - (intOf i).toNat)
  case atStart => exact ⟨0, by omega, rfl, besideS x0 x1 x2 y0 y1 y2 z0 z1 z2 w⟩
  case round =>
    obtain ⟨k, hk, rfl, hK⟩ := hrel
    have hcase : k = 0 ∨ k = 1 ∨ k = 2 ∨ k = 3 := by omega
    clear hk
    rcases hcase with rfl | rfl | rfl | rfl
    · go_wp2_with fail
      go_region_held3 (fun w' => w'.cell? ⟨w.heap.size, 0, none⟩ = some (.int .u64 (lo x0)) ∧
          w'.cell? ⟨w.heap.size, 1, none⟩ = some (.int .u64 (hi x0)) ∧
          w'.cell? ⟨w.heap.size + 1, 0, none⟩ = some (.int .u64 (lo y0)) ∧
          w'.cell? ⟨w.heap.size + 1, 1, none⟩ = some (.int .u64 (hi y0)) ∧
          w'.cell? ⟨w.heap.size + 1 + 1 + 1, 0, none⟩ = some (tv w' (w.heap.size + 1 + 1 + 1) 0) ∧
          w'.cell? ⟨w.heap.size + 1 + 1 + 1, 1, none⟩ = some (tv w' (w.heap.size + 1 + 1 + 1) 1) ∧
          w'.frozen? ⟨w.heap.size + 1 + 1 + 1, 0, none⟩ = false ∧
          w'.frozen? ⟨w.heap.size + 1 + 1 + 1, 1, none⟩ = false ∧
          Kb (w.heap.size + 1 + 1 + 1) 0 z0 z1 z2 ((((w.alloc (.cells #[.int .u64 (lo x0), .int .u64 (hi x0), .int .u64 (lo x1), .int .u64 (hi x1), .int .u64 (lo x2), .int .u64 (hi x2)] 46)).alloc (.cells #[.int .u64 (lo y0), .int .u64 (hi y0), .int .u64 (lo y1), .int .u64 (hi y1), .int .u64 (lo y2), .int .u64 (hi y2)] 46)).alloc (.cells #[.int .u64 0, .int .u64 0, .int .u64 0, .int .u64 0, .int .u64 0, .int .u64 0] 46)).alloc (.cells #[.int .u64 0, .int .u64 0, .int .u64 0, .int .u64 0, .int .u64 0, .int .u64 0] 46)) w')
        (((with_reducible refine besideS0 x0 x1 x2 y0 y1 y2 z0 z1 z2 w _ ?_); first | ((with_reducible refine Kb.set ?_ _ _ (by decide)); (with_reducible refine Kb.set ?_ _ _ (by decide)); go_split_ands; with_reducible assumption) | ((with_reducible refine Kb.call ?_ hb); go_split_ands; with_reducible assumption) | (with_reducible exact Kb.drew hK)))
        (first | (go_at_call 27; refine (H0.out _).mono ?_; rintro e w' ⟨rfl, hb⟩))
      go_split_ands
      go_wp2
      go_roundw
      case rel => exact ⟨1, by decide, rfl, Kb.two (m := 0) (by with_reducible assumption) rfl rfl (by decide) rfl rfl⟩
      case measure => simp [intOf]
    · go_wp2_with fail
      go_region_held3 (fun w' => w'.cell? ⟨w.heap.size, 2, none⟩ = some (.int .u64 (lo x1)) ∧
          w'.cell? ⟨w.heap.size, 3, none⟩ = some (.int .u64 (hi x1)) ∧
          w'.cell? ⟨w.heap.size + 1, 2, none⟩ = some (.int .u64 (lo y1)) ∧
          w'.cell? ⟨w.heap.size + 1, 3, none⟩ = some (.int .u64 (hi y1)) ∧
          w'.cell? ⟨w.heap.size + 1 + 1 + 1, 2, none⟩ = some (tv w' (w.heap.size + 1 + 1 + 1) 2) ∧
          w'.cell? ⟨w.heap.size + 1 + 1 + 1, 3, none⟩ = some (tv w' (w.heap.size + 1 + 1 + 1) 3) ∧
          w'.frozen? ⟨w.heap.size + 1 + 1 + 1, 2, none⟩ = false ∧
          w'.frozen? ⟨w.heap.size + 1 + 1 + 1, 3, none⟩ = false ∧
          Kb (w.heap.size + 1 + 1 + 1) 2 z0 z1 z2 ((((w.alloc (.cells #[.int .u64 (lo x0), .int .u64 (hi x0), .int .u64 (lo x1), .int .u64 (hi x1), .int .u64 (lo x2), .int .u64 (hi x2)] 46)).alloc (.cells #[.int .u64 (lo y0), .int .u64 (hi y0), .int .u64 (lo y1), .int .u64 (hi y1), .int .u64 (lo y2), .int .u64 (hi y2)] 46)).alloc (.cells #[.int .u64 0, .int .u64 0, .int .u64 0, .int .u64 0, .int .u64 0, .int .u64 0] 46)).alloc (.cells #[.int .u64 0, .int .u64 0, .int .u64 0, .int .u64 0, .int .u64 0, .int .u64 0] 46)) w')
        (((with_reducible refine besideS1 x0 x1 x2 y0 y1 y2 z0 z1 z2 w _ ?_); first | ((with_reducible refine Kb.set ?_ _ _ (by decide)); (with_reducible refine Kb.set ?_ _ _ (by decide)); go_split_ands; with_reducible assumption) | ((with_reducible refine Kb.call ?_ hb); go_split_ands; with_reducible assumption) | (with_reducible exact Kb.drew hK)))
        (first | (go_at_call 27; refine (H1.out _).mono ?_; rintro e w' ⟨rfl, hb⟩))
      go_split_ands
      go_wp2
      go_roundw
      case rel => exact ⟨2, by decide, rfl, Kb.two (m := 2) (by with_reducible assumption) rfl rfl (by decide) rfl rfl⟩
      case measure => simp [intOf]
    · go_wp2_with fail
      go_region_held3 (fun w' => w'.cell? ⟨w.heap.size, 4, none⟩ = some (.int .u64 (lo x2)) ∧
          w'.cell? ⟨w.heap.size, 5, none⟩ = some (.int .u64 (hi x2)) ∧
          w'.cell? ⟨w.heap.size + 1, 4, none⟩ = some (.int .u64 (lo y2)) ∧
          w'.cell? ⟨w.heap.size + 1, 5, none⟩ = some (.int .u64 (hi y2)) ∧
          w'.cell? ⟨w.heap.size + 1 + 1 + 1, 4, none⟩ = some (tv w' (w.heap.size + 1 + 1 + 1) 4) ∧
          w'.cell? ⟨w.heap.size + 1 + 1 + 1, 5, none⟩ = some (tv w' (w.heap.size + 1 + 1 + 1) 5) ∧
          w'.frozen? ⟨w.heap.size + 1 + 1 + 1, 4, none⟩ = false ∧
          w'.frozen? ⟨w.heap.size + 1 + 1 + 1, 5, none⟩ = false ∧
          Kb (w.heap.size + 1 + 1 + 1) 4 z0 z1 z2 ((((w.alloc (.cells #[.int .u64 (lo x0), .int .u64 (hi x0), .int .u64 (lo x1), .int .u64 (hi x1), .int .u64 (lo x2), .int .u64 (hi x2)] 46)).alloc (.cells #[.int .u64 (lo y0), .int .u64 (hi y0), .int .u64 (lo y1), .int .u64 (hi y1), .int .u64 (lo y2), .int .u64 (hi y2)] 46)).alloc (.cells #[.int .u64 0, .int .u64 0, .int .u64 0, .int .u64 0, .int .u64 0, .int .u64 0] 46)).alloc (.cells #[.int .u64 0, .int .u64 0, .int .u64 0, .int .u64 0, .int .u64 0, .int .u64 0] 46)) w')
        (((with_reducible refine besideS2 x0 x1 x2 y0 y1 y2 z0 z1 z2 w _ ?_); first | ((with_reducible refine Kb.set ?_ _ _ (by decide)); (with_reducible refine Kb.set ?_ _ _ (by decide)); go_split_ands; with_reducible assumption) | ((with_reducible refine Kb.call ?_ hb); go_split_ands; with_reducible assumption) | (with_reducible exact Kb.drew hK)))
        (first | (go_at_call 27; refine (H2.out _).mono ?_; rintro e w' ⟨rfl, hb⟩))
      go_split_ands
      go_wp2
      go_roundw
      case rel => exact ⟨3, by decide, rfl, Kb.two (m := 4) (by with_reducible assumption) rfl rfl (by decide) rfl rfl⟩
      case measure => simp [intOf]
    · have hE := besideE x0 x1 x2 y0 y1 y2 z0 z1 z2 w wr hK
      have HK := hide hK
      clear hK
      go_split_ands
      go_wp2
      exact bodyPost_ret (v := V6 z0 z1 z2) (by simp [results, Try.results25, go_sem, V6, *]) rfl ⟨rfl, ((((((Kp.out HK.out.1 (by omega) (grow4 w _ _ _ _)).setCell (by simp; omega) _).setCell (by simp; omega) _).setCell (by simp; omega) _).setCell (by simp; omega) _).setCell (by simp; omega) _).setCell (by simp; omega) _⟩
end Go.Proofs.Ytklekpbfjcpjlaa
