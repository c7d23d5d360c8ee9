/- What Sum does: a loop over a list that is only read. -/
import Derived.Test.YtklekpbfjcpjlaaTwo
import Derived.Test.YtklekpbfjcpjlaaBesidePlus
namespace Go.Proofs.Ytklekpbfjcpjlaa
open Go.RowKit
attribute [local go_sem ↓] Go.wp_at_zero Go.wp_at_succ

/-- The sum of the first k. -/
def sumTo (f : Nat → Int) : Nat → Int
  | 0 => 0
  | k + 1 => sumTo f k + f k
theorem sumTo_bd (f : Nat → Int) (n : Nat) (hf : ∀ i, i < n → I64 (f i)) : ∀ k, k ≤ n → -((k : Int) * 9223372036854775808) ≤ sumTo f k ∧ sumTo f k ≤ (k : Int) * 9223372036854775808
  | 0, _ => by simp [sumTo]
  | k + 1, h => by
    have ih := sumTo_bd f n hf k (by omega)
    have hk := hf k (by omega)
    unfold I64 at hk
    unfold sumTo
    omega
theorem sumTo_W128 (f : Nat → Int) (n : Nat) (hf : ∀ i, i < n → I64 (f i)) (hn : n ≤ 4611686018427387904) : W128 (sumTo f n) := by
  have h := sumTo_bd f n hf n (Nat.le_refl _)
  unfold W128; omega
theorem Kb.alloc {n m : Nat} {z0 z1 z2 : Int} {W u : World} (h : Kb n m z0 z1 z2 W u) (o : Obj) : Kb n m z0 z1 z2 W (u.alloc o) := h.call ((Below.refl _ _).alloc (Nat.le_refl _) _)
theorem Kb.six {n : Nat} {z0 z1 z2 : Int} {W u : World} (h : Kp n 6 W u) : Kb n 6 z0 z1 z2 W ((((((u.setCell ⟨n, 0, none⟩ (.int .u64 (lo z0))).setCell ⟨n, 1, none⟩ (.int .u64 (hi z0))).setCell ⟨n, 2, none⟩ (.int .u64 (lo z1))).setCell ⟨n, 3, none⟩ (.int .u64 (hi z1))).setCell ⟨n, 4, none⟩ (.int .u64 (lo z2))).setCell ⟨n, 5, none⟩ (.int .u64 (hi z2))) := by
  have hk : Kp n 6 W ((((((u.setCell ⟨n, 0, none⟩ (.int .u64 (lo z0))).setCell ⟨n, 1, none⟩ (.int .u64 (hi z0))).setCell ⟨n, 2, none⟩ (.int .u64 (lo z1))).setCell ⟨n, 3, none⟩ (.int .u64 (hi z1))).setCell ⟨n, 4, none⟩ (.int .u64 (lo z2))).setCell ⟨n, 5, none⟩ (.int .u64 (hi z2))) := ((((((h.set 0 (.int .u64 (lo z0))).set 1 (.int .u64 (hi z0))).set 2 (.int .u64 (lo z1))).set 3 (.int .u64 (hi z1))).set 4 (.int .u64 (lo z2))).set 5 (.int .u64 (hi z2)))
  have hr := read6 _ _ _ _ _ _ hk
  refine ⟨hk, fun o ho => ?_⟩
  have hc : o = 0 ∨ o = 1 ∨ o = 2 ∨ o = 3 ∨ o = 4 ∨ o = 5 := by omega
  rcases hc with rfl | rfl | rfl | rfl | rfl | rfl
  · exact hr.1
  · exact hr.2.1
  · exact hr.2.2.1
  · exact hr.2.2.2.1
  · exact hr.2.2.2.2.1
  · exact hr.2.2.2.2.2
theorem sumS (z0 z1 z2 : Int) (w u : World) (hk : Kb (w.heap.size + 1) 6 (z0) (z1) (z2) ((w.alloc (.cells #[.int .i64 0, .int .i64 0, .int .i64 0] 23)).alloc (.cells #[.int .u64 0, .int .u64 0, .int .u64 0, .int .u64 0, .int .u64 0, .int .u64 0] 46)) u) :
    u.cell? ⟨w.heap.size + 1, 0, none⟩ = some (.int .u64 (lo z0)) ∧
    u.cell? ⟨w.heap.size + 1, 1, none⟩ = some (.int .u64 (hi z0)) ∧
    u.cell? ⟨w.heap.size + 1, 2, none⟩ = some (.int .u64 (lo z1)) ∧
    u.cell? ⟨w.heap.size + 1, 3, none⟩ = some (.int .u64 (hi z1)) ∧
    u.cell? ⟨w.heap.size + 1, 4, none⟩ = some (.int .u64 (lo z2)) ∧
    u.cell? ⟨w.heap.size + 1, 5, none⟩ = some (.int .u64 (hi z2)) ∧
    u.frozen? ⟨w.heap.size + 1, 0, none⟩ = false ∧
    u.frozen? ⟨w.heap.size + 1, 1, none⟩ = false ∧
    u.frozen? ⟨w.heap.size + 1, 2, none⟩ = false ∧
    u.frozen? ⟨w.heap.size + 1, 3, none⟩ = false ∧
    u.frozen? ⟨w.heap.size + 1, 4, none⟩ = false ∧
    u.frozen? ⟨w.heap.size + 1, 5, none⟩ = false :=
  ⟨(hk.1.2.2.1 0 (by decide)).trans (congrArg some (hk.2 0 (by decide))),
    (hk.1.2.2.1 1 (by decide)).trans (congrArg some (hk.2 1 (by decide))),
    (hk.1.2.2.1 2 (by decide)).trans (congrArg some (hk.2 2 (by decide))),
    (hk.1.2.2.1 3 (by decide)).trans (congrArg some (hk.2 3 (by decide))),
    (hk.1.2.2.1 4 (by decide)).trans (congrArg some (hk.2 4 (by decide))),
    (hk.1.2.2.1 5 (by decide)).trans (congrArg some (hk.2 5 (by decide))),
    (hk.1.2.1 _ _ (by omega)).trans (by simp [go_sem]),
    (hk.1.2.1 _ _ (by omega)).trans (by simp [go_sem]),
    (hk.1.2.1 _ _ (by omega)).trans (by simp [go_sem]),
    (hk.1.2.1 _ _ (by omega)).trans (by simp [go_sem]),
    (hk.1.2.1 _ _ (by omega)).trans (by simp [go_sem]),
    (hk.1.2.1 _ _ (by omega)).trans (by simp [go_sem])⟩
theorem sumE (z0 z1 z2 : Int) (w u : World) (hk : Kb (w.heap.size + 1) 6 (z0) (z1) (z2) ((w.alloc (.cells #[.int .i64 0, .int .i64 0, .int .i64 0] 23)).alloc (.cells #[.int .u64 0, .int .u64 0, .int .u64 0, .int .u64 0, .int .u64 0, .int .u64 0] 46)) u) :
    u.cell? ⟨w.heap.size, 0, none⟩ = some (.int .i64 0) ∧
    u.cell? ⟨w.heap.size, 1, none⟩ = some (.int .i64 0) ∧
    u.cell? ⟨w.heap.size, 2, none⟩ = some (.int .i64 0) ∧
    u.frozen? ⟨w.heap.size, 0, none⟩ = false ∧
    u.frozen? ⟨w.heap.size, 1, none⟩ = false ∧
    u.frozen? ⟨w.heap.size, 2, none⟩ = false :=
  ⟨(hk.1.1 _ _ (by omega)).trans (by simp [go_sem]),
    (hk.1.1 _ _ (by omega)).trans (by simp [go_sem]),
    (hk.1.1 _ _ (by omega)).trans (by simp [go_sem]),
    (hk.1.2.1 _ _ (by omega)).trans (by simp [go_sem]),
    (hk.1.2.1 _ _ (by omega)).trans (by simp [go_sem]),
    (hk.1.2.1 _ _ (by omega)).trans (by simp [go_sem])⟩
theorem sum0 (w : World) : Kb (w.heap.size + 1) 6 (0) (0) (0) ((w.alloc (.cells #[.int .i64 0, .int .i64 0, .int .i64 0] 23)).alloc (.cells #[.int .u64 0, .int .u64 0, .int .u64 0, .int .u64 0, .int .u64 0, .int .u64 0] 46)) ((w.alloc (.cells #[.int .i64 0, .int .i64 0, .int .i64 0] 23)).alloc (.cells #[.int .u64 0, .int .u64 0, .int .u64 0, .int .u64 0, .int .u64 0, .int .u64 0] 46)) := by
  have h : Kp (w.heap.size + 1) 6 ((w.alloc (.cells #[.int .i64 0, .int .i64 0, .int .i64 0] 23)).alloc (.cells #[.int .u64 0, .int .u64 0, .int .u64 0, .int .u64 0, .int .u64 0, .int .u64 0] 46)) ((w.alloc (.cells #[.int .i64 0, .int .i64 0, .int .i64 0] 23)).alloc (.cells #[.int .u64 0, .int .u64 0, .int .u64 0, .int .u64 0, .int .u64 0, .int .u64 0] 46)) := Kp.begin0 (by simp) (by simp)
  refine ⟨h, fun o ho => ?_⟩
  have e := h.2.2.1 o ho
  have hc : o = 0 ∨ o = 1 ∨ o = 2 ∨ o = 3 ∨ o = 4 ∨ o = 5 := by omega
  rcases hc with rfl | rfl | rfl | rfl | rfl | rfl <;> (have e2 := e.symm; simp [go_sem] at e2; rw [e2]; rfl)

set_option maxHeartbeats 400000 in
theorem Sum_some (b off len cap : Nat) (X Y Z : Nat → Int) (w : World) (hlen : len ≤ 4611686018427387904) (hb0 : b < w.heap.size)
    (hX : ∀ i, i < len → I64 (X i)) (hY : ∀ i, i < len → I64 (Y i)) (hZ : ∀ i, i < len → I64 (Z i))
    (hc : ∀ i, i < len → w.cell? ⟨b, off + i * 3, none⟩ = some (.int .i64 (X i)) ∧ w.cell? ⟨b, off + i * 3 + 1, none⟩ = some (.int .i64 (Y i)) ∧ w.cell? ⟨b, off + i * 3 + 2, none⟩ = some (.int .i64 (Z i))) :
    Calls Try.prog 15 #[.slice (some ⟨b, off, none⟩) len cap] w fun e w' => e = .returned (nv (sumTo X len) (sumTo Y len) (sumTo Z len)) ∧ Below w.heap.size w w' := by
  have HX := hide hX; have HY := hide hY; have HZ := hide hZ; have HC := hide hc
  clear hX hY hZ hc
  go_enter Try.func15, Try.ntmps15
  go_wp2_with fail
  go_loopw [9] (fun i wr => ∃ k : Nat, k ≤ len ∧ i = .int .i64 k ∧ Kb (w.heap.size + 1) 6 (sumTo X k) (sumTo Y k) (sumTo Z k) ((w.alloc (.cells #[.int .i64 0, .int .i64 0, .int .i64 0] 23)).alloc (.cells #[.int .u64 0, .int .u64 0, .int .u64 0, .int .u64 0, .int .u64 0, .int .u64 0] 46)) wr) (fun i _ => len - (intOf i).toNat)
  case atStart => exact ⟨0, Nat.zero_le _, rfl, sum0 w⟩
  case round =>
    obtain ⟨k, hk, rfl, hK⟩ := hrel
    by_cases hlt : k < len
    · obtain ⟨c0, c1, c2⟩ := HC.out k hlt
      have hS := sumS _ _ _ w wr hK
      have hsz : w.heap.size + 1 < wr.heap.size := hK.1.2.2.2.1
      have d0 : wr.cell? ⟨b, off + k * 3, none⟩ = some (.int .i64 (X k)) := (hK.1.1 _ _ (by omega)).trans (by simp [go_sem, hb0, c0])
      have d1 : wr.cell? ⟨b, off + k * 3 + 1, none⟩ = some (.int .i64 (Y k)) := (hK.1.1 _ _ (by omega)).trans (by simp [go_sem, hb0, c1])
      have d2 : wr.cell? ⟨b, off + k * 3 + 2, none⟩ = some (.int .i64 (Z k)) := (hK.1.1 _ _ (by omega)).trans (by simp [go_sem, hb0, c2])
      have HK := hide hK
      clear hK c0 c1 c2
      go_split_ands
      go_wp2_with fail
      clear d0 d1 d2
      go_region_with (first
        | (go_at_call 26; refine (widen_any (X k) (Y k) (Z k) (HX.out k hlt) (HY.out k hlt) (HZ.out k hlt) _).mono ?_; rintro e w1 ⟨rfl, hb1⟩; have hK1 := Kb.call (Kb.drew (Kb.alloc HK.out _)) hb1; have hS1 := sumS _ _ _ w w1 hK1)
        | (go_at_call 25; refine (beside_plus (sumTo X k) (sumTo Y k) (sumTo Z k) (X k) (Y k) (Z k) (sumTo X k + X k) (sumTo Y k + Y k) (sumTo Z k + Z k) _ (fun u => plus_any _ _ u) (fun u => plus_any _ _ u) (fun u => plus_any _ _ u)).mono ?_; rintro e w2 ⟨rfl, hb2⟩; have hK2 := Kb.call hK1 hb2; have hS2 := sumS _ _ _ w w2 hK2; unfold V6))
      all_goals
        go_wp2
        go_roundw
        case rel => exact ⟨k + 1, hlt, by go_num, Kb.six hK2.1⟩
        case measure => simp [intOf]; omega
    · have hke : k = len := by omega
      subst hke
      have hw0 := sumTo_W128 X k HX.out hlen
      have hw1 := sumTo_W128 Y k HY.out hlen
      have hw2 := sumTo_W128 Z k HZ.out hlen
      have HW := hide (And.intro hw0 (And.intro hw1 hw2))
      have hS := sumS _ _ _ w wr hK
      have HK := hide hK
      clear hK hw0 hw1 hw2
      go_split_ands
      cases hf : (fit (sumTo X k) && fit (sumTo Y k) && fit (sumTo Z k))
      · have HF := hide hf
        have HN : Hid (nv (sumTo X k) (sumTo Y k) (sumTo Z k) = .tuple #[V3 0 0 0, .int .i64 9]) := by unfold nv; rw [hf]; rfl
        clear hf
        go_wp2_with fail
        refine (narrow_no HW.out.1 HW.out.2.1 HW.out.2.2 HF.out _).mono ?_
        rintro e w1 ⟨rfl, hb1⟩
        have hK1 := Kb.call HK.out hb1
        have hS1 := sumE _ _ _ w w1 hK1
        have HK1 := hide hK1
        clear hK1
        go_wp2
        exact bodyPost_ret (v := nv (sumTo X k) (sumTo Y k) (sumTo Z k)) (by rw [HN.out]; simp [results, Try.results15, go_sem, V3, *]) rfl ⟨rfl, (((Kp.out HK1.out.1 (by omega) (grow2 w _ _)).setCell (by simp) _).setCell (by simp) _).setCell (by simp) _⟩
      · have hq := Bool.and_eq_true_iff.1 hf
        have hp := Bool.and_eq_true_iff.1 hq.1
        have HF : Hid (I64 (sumTo X k) ∧ I64 (sumTo Y k) ∧ I64 (sumTo Z k)) := ⟨fit_I64 hp.1, fit_I64 hp.2, fit_I64 hq.2⟩
        have HN := hide (nv_ok hp.1 hp.2 hq.2)
        clear hf hq hp
        go_wp2_with fail
        refine (narrow_ok HF.out.1 HF.out.2.1 HF.out.2.2 _).mono ?_
        rintro e w1 ⟨rfl, hb1⟩
        have hK1 := Kb.call HK.out hb1
        have hS1 := sumE _ _ _ w w1 hK1
        have HK1 := hide hK1
        clear hK1
        go_wp2
        exact bodyPost_ret (v := nv (sumTo X k) (sumTo Y k) (sumTo Z k)) (by rw [HN.out]; simp [results, Try.results15, go_sem, V3, *]) rfl ⟨rfl, (((Kp.out HK1.out.1 (by omega) (grow2 w _ _)).setCell (by simp) _).setCell (by simp) _).setCell (by simp) _⟩
end Go.Proofs.Ytklekpbfjcpjlaa
