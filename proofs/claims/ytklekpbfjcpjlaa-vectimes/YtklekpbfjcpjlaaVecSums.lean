/- The walk of the law VecSums over its callees' contracts. -/
import Derived.Test.YtklekpbfjcpjlaaRSum
import Derived.Test.YtklekpbfjcpjlaaHold
import Derived.Test.YtklekpbfjcpjlaaAlive
import Derived.Test.YtklekpbfjcpjlaaVecsIn
namespace Go.Proofs.Ytklekpbfjcpjlaa
open Go.RowKit
attribute [local go_sem ↓] eq23

set_option maxHeartbeats 400000 in
theorem Sum_zero (a : Option Addr) (cap : Nat) (w : World) :
    Calls Try.prog 15 #[.slice a 0 cap] w fun e w' => e = .returned (.tuple #[.agg #[.int .i64 0, .int .i64 0, .int .i64 0], .int .i64 0]) ∧ Below w.heap.size w w' := by
  go_enter Try.func15, Try.ntmps15
  go_wp2_with fail
  go_loopw [9] (fun i wr => i = .int .i64 0 ∧ wr = (w.alloc (.cells #[.int .i64 0, .int .i64 0, .int .i64 0] 23)).alloc (.cells #[.int .u64 0, .int .u64 0, .int .u64 0, .int .u64 0, .int .u64 0, .int .u64 0] 46)) (fun _ _ => 0)
  case atStart => exact ⟨rfl, rfl⟩
  case round =>
    obtain ⟨rfl, rfl⟩ := hrel
    go_wp2_with fail
    refine (narrow_ok (x0 := 0) (x1 := 0) (x2 := 0) I64_0 I64_0 I64_0 _).mono ?_
    rintro e w1 ⟨rfl, hb1⟩
    have hS := sumE 0 0 0 w w1 (Kb.call (sum0 w) hb1)
    have HB := hide hb1
    clear hb1
    go_wp2
    exact bodyPost_ret (v := .tuple #[.agg #[.int .i64 0, .int .i64 0, .int .i64 0], .int .i64 0]) (by simp [results, Try.results15, go_sem, *]) rfl ⟨rfl, (((below2 HB.out).setCell (by simp) _).setCell (by simp) _).setCell (by simp) _⟩

set_option maxHeartbeats 400000 in
theorem RSum_zero (a : Option Addr) (cap : Nat) (w : World) :
    Calls Try.prog 16 #[.slice a 0 cap] w fun e w' => e = .returned (.tuple #[.agg #[.int .i64 0, .int .i64 0, .int .i64 0], .int .i64 0]) ∧ Below w.heap.size w w' := by
  go_enter Try.func16, Try.ntmps16
  go_wp2_with fail
  go_loopw [7] (fun i wr => i = .int .i64 0 ∧ wr = (((w.alloc (.cells #[.int .i64 0, .int .i64 0, .int .i64 0] 23)).alloc (.cells #[.int .i64 0, .int .i64 0] 54)).alloc (.cells #[.int .i64 0, .int .i64 0] 54)).alloc (.cells #[.int .i64 0, .int .i64 0] 54)) (fun _ _ => 0)
  case atStart => exact ⟨rfl, rfl⟩
  case round =>
    obtain ⟨rfl, rfl⟩ := hrel
    go_wp2_with fail
    refine (three_ok (x0 := 0) (x1 := 0) (x2 := 0) rfl rfl rfl _).mono ?_
    rintro e w1 ⟨rfl, hb1⟩
    have hS := rsumE w w1 0 0 0 ((rsum0 w).call hb1)
    have HB := hide hb1
    clear hb1
    go_wp2
    exact bodyPost_ret (v := .tuple #[.agg #[.int .i64 0, .int .i64 0, .int .i64 0], .int .i64 0]) (by simp [results, Try.results16, go_sem, *]) rfl ⟨rfl, (((below4 HB.out).setCell (by simp) _).setCell (by simp) _).setCell (by simp) _⟩

/-- Both sums of a list that is short enough are one. -/
theorem both_sums (a : Option Addr) (len cap : Nat) (X Y Z : Nat → Int) (W : World) (hv : Vecs a len X Y Z W) (hlen : len ≤ 4096) :
    ∃ p0 p1 p2 pe : Int, (∀ u, Below W.heap.size W u → Calls Try.prog 15 #[.slice a len cap] u fun e w' => e = .returned (.tuple #[.agg #[.int .i64 p0, .int .i64 p1, .int .i64 p2], .int .i64 pe]) ∧ Below u.heap.size u w') ∧
      (∀ u, Below W.heap.size W u → Calls Try.prog 16 #[.slice a len cap] u fun e w' => e = .returned (.tuple #[.agg #[.int .i64 p0, .int .i64 p1, .int .i64 p2], .int .i64 pe]) ∧ Below u.heap.size u w') := by
  rcases hv with rfl | ⟨b, off, rfl, hb, hc⟩
  · exact ⟨0, 0, 0, 0, fun u _ => Sum_zero a cap u, fun u _ => RSum_zero a cap u⟩
  · obtain ⟨p0, p1, p2, pe, hp⟩ := nv_form (sumTo X len) (sumTo Y len) (sumTo Z len)
    have hcu : ∀ u, Below W.heap.size W u → ∀ i, i < len → u.cell? ⟨b, off + i * 3, none⟩ = some (.int .i64 (X i)) ∧ u.cell? ⟨b, off + i * 3 + 1, none⟩ = some (.int .i64 (Y i)) ∧ u.cell? ⟨b, off + i * 3 + 2, none⟩ = some (.int .i64 (Z i)) := fun u hu i hi =>
      ⟨((bcell hu).1 _ _ hb).trans (hc i hi).2.1, ((bcell hu).1 _ _ hb).trans (hc i hi).2.2.1, ((bcell hu).1 _ _ hb).trans (hc i hi).2.2.2⟩
    refine ⟨p0, p1, p2, pe, fun u hu => ?_, fun u hu => ?_⟩
    · have h := Sum_some b off len cap X Y Z u (by omega) (Nat.lt_of_lt_of_le hb hu.size) (fun i hi => (hc i hi).1.1) (fun i hi => (hc i hi).1.2.1) (fun i hi => (hc i hi).1.2.2) (hcu u hu)
      rw [hp] at h
      exact h
    · have h := RSum_some b off len cap X Y Z u (by omega) (Nat.lt_of_lt_of_le hb hu.size) (fun i hi => (hc i hi).1.1) (fun i hi => (hc i hi).1.2.1) (fun i hi => (hc i hi).1.2.2) (hcu u hu)
      rw [hp] at h
      exact h

set_option maxHeartbeats 1000000 in
theorem VecSums_any (a : Option Addr) (len cap : Nat) (X Y Z : Nat → Int) (hmax : len ≤ maxLen) (w : World) (hv : Vecs a len X Y Z w) :
    Calls Try.prog 4 #[.slice a len cap] w fun e w' => e = .returned (.bool true) ∧ Below w.heap.size w w' := by
  unfold maxLen at hmax
  by_cases hl : len ≤ 4096
  · obtain ⟨p0, p1, p2, pe, hS, hR⟩ := both_sums a len cap X Y Z w hv hl
    have HS := hide hS
    have HR := hide hR
    have hl2 : ¬ (4096 : Int) < (len : Int) := by omega
    clear hS hR hv hmax hl
    go_enter Try.func4, Try.ntmps4
    go_wp2_with fail
    refine (HS.out _ (Below.refl _ _)).mono ?_
    rintro e w1 ⟨rfl, hb1⟩
    have HB1 := hide hb1
    clear hb1
    go_wp2_with fail
    refine (HR.out _ (HB1.out.trans ((grow1 w1 _).mono HB1.out.size))).mono ?_
    rintro e w2 ⟨rfl, hb2⟩
    have h1 := (H3.new w1 p0 p1 p2 23 rfl).call hb2
    unfold H3 at h1
    have HB2 := hide (HB1.out.trans (((grow1 w1 _).trans (hb2.mono (by simp))).mono HB1.out.size))
    clear hb2 HB1
    go_wp2_with fail
    refine (alive_any _).mono ?_
    rintro e w3 ⟨rfl, hb3⟩
    have HB3 := hide (HB2.out.trans (((grow1 w2 _).trans (hb3.mono (by simp))).mono HB2.out.size))
    clear hb3
    go_wp2
    go_ret
    exact ⟨rfl, HB3.out⟩
  · have hl2 : (4096 : Int) < (len : Int) := by omega
    clear hv hl
    go_enter Try.func4, Try.ntmps4
    go_wp2_with fail
    refine (alive_any _).mono ?_
    rintro e w3 ⟨rfl, hb3⟩
    have HB3 := hide hb3
    clear hb3
    go_wp2
    go_ret
    exact ⟨rfl, HB3.out⟩
end Go.Proofs.Ytklekpbfjcpjlaa
