/- What the smallest functions of package vec do: walks. -/
import Derived.Test.YtklekpbfjcpjlaaRows
import Derived.Test.YtklekpbfjcpjlaaMath
import Derived.WalkKit
import Derived.WalkSpells
import Derived.Shelf.Spec.BitsCarry
namespace Go.Proofs.Ytklekpbfjcpjlaa
open Go.RowKit

theorem u64_wrap (n : Int) : IntKind.u64.wrap n = n % 18446744073709551616 := by simp [IntKind.wrap, IntKind.bits, IntKind.signed]
theorem sgn_wrap (n : Int) : wrap64 n = sgn n := by unfold wrap64 sgn; rfl

/-- A number of two words. -/
def V2 (x : Int) : Value := .agg #[.int .u64 (lo x), .int .u64 (hi x)]

theorem ret_agg2 {a b c d : Int} (h : a = c) (k : b = d) : Ending.returned (.agg #[.int .u64 a, .int .u64 b]) = .returned (.agg #[.int .u64 c, .int .u64 d]) := by rw [h, k]
theorem ret_int {k : IntKind} {a b : Int} (h : a = b) : Ending.returned (.int k a) = .returned (.int k b) := by rw [h]

theorem ret_bool {a b : Bool} (h : a = b) : Ending.returned (.bool a) = .returned (.bool b) := by rw [h]

set_option maxHeartbeats 400000 in
theorem wideOf_any (n : Int) (h : I64 n) (w : World) :
    Calls Try.prog 39 #[.int .i64 n] w fun e w' => e = .returned (V2 n) ∧ Below w.heap.size w w' := by
  unfold V2
  have e1 := hi_of n h
  have H : Hid ((n / 9223372036854775808) % 18446744073709551616 = hi n) := e1
  clear e1 h
  go_enter Try.func39, Try.ntmps39
  go_wp2
  simp [bodyPost, results, Try.results39, go_sem]
  exact ⟨⟨u64_wrap n, (u64_wrap _).trans H.out⟩, (Below.refl _ _).alloc (Nat.le_refl _) _⟩

set_option maxHeartbeats 400000 in
theorem word_any (x : Int) (w : World) :
    Calls Try.prog 41 #[V2 x] w fun e w' => e = .returned (.int .i64 (sgn x)) ∧ Below w.heap.size w w' := by
  unfold V2
  go_enter Try.func41, Try.ntmps41
  go_wp2
  go_ret
  exact ⟨ret_int (by rw [sgn_wrap]; unfold sgn lo; omega), (Below.refl _ _).alloc (Nat.le_refl _) _⟩

set_option maxHeartbeats 400000 in
theorem negative_any (x : Int) (w : World) (h : -85070591730234615865843651857942052864 ≤ x ∧ x ≤ 85070591730234615865843651857942052864) :
    Calls Try.prog 45 #[V2 x] w fun e w' => e = .returned (.bool (decide (x < 0))) ∧ Below w.heap.size w w' := by
  unfold V2
  have H : Hid (decide (sgn (hi x) < 0) = decide (x < 0)) := by
    apply decide_eq_decide.2; unfold sgn hi; omega
  clear h
  go_enter Try.func45, Try.ntmps45
  go_wp2
  go_ret
  exact ⟨ret_bool (by rw [sgn_wrap]; exact H.out), (Below.refl _ _).alloc (Nat.le_refl _) _⟩

theorem add64 (x y c : Int) (hx : 0 ≤ x) (hy : 0 ≤ y) (hc0 : 0 ≤ c) (hc : c ≤ 1) (w : World) : (callFunc 40 #[.int .u64 x, .int .u64 y, .int .u64 c]).run Try.prog w =
    .ok (.value (.tuple #[.int .u64 ((x + y + c) % 18446744073709551616), .int .u64 ((x + y + c) / 18446744073709551616)])) w := by
  rw [run_callFunc_extern Try.func40 (by kernel_rfl) (by kernel_rfl) (by kernel_rfl) (e := add64Entry) (by kernel_rfl), run_add64 x y c hx hy hc0 hc]
  simp only [Result.andThen]

theorem sub64 (x y b : Int) (hx : 0 ≤ x) (hy : 0 ≤ y) (hy' : y < 18446744073709551616) (hb0 : 0 ≤ b) (hb : b ≤ 1) (w : World) : (callFunc 43 #[.int .u64 x, .int .u64 y, .int .u64 b]).run Try.prog w =
    .ok (.value (.tuple #[.int .u64 ((x - y - b) % 18446744073709551616), .int .u64 (bor x (y + b))])) w := by
  unfold bor
  obtain ⟨x, rfl⟩ := Int.eq_ofNat_of_zero_le hx
  obtain ⟨y, rfl⟩ := Int.eq_ofNat_of_zero_le hy
  obtain ⟨b, rfl⟩ := Int.eq_ofNat_of_zero_le hb0
  have e1 : (((x + 18446744073709551616 - y - b) % 18446744073709551616 : Nat) : Int) = ((x : Int) - y - b) % 18446744073709551616 := by omega
  have e2 : ((if x < y + b then 1 else 0 : Nat) : Int) = if (x : Int) < y + b then 1 else 0 := by split <;> split <;> omega
  rw [← e1, ← e2]
  rw [run_callFunc_extern Try.func43 (by kernel_rfl) (by kernel_rfl) (by kernel_rfl) (e := sub64Entry) (by kernel_rfl), run_sub64 x y b (by omega)]
  rfl
theorem add64_0 (x y : Int) (hx : 0 ≤ x) (hy : 0 ≤ y) (w : World) : (callFunc 40 #[.int .u64 x, .int .u64 y, .int .u64 0]).run Try.prog w =
    .ok (.value (.tuple #[.int .u64 ((x + y) % 18446744073709551616), .int .u64 ((x + y) / 18446744073709551616)])) w := by
  simpa using add64 x y 0 hx hy (Int.le_refl 0) (by decide) w
theorem sub64_0 (x y : Int) (hx : 0 ≤ x) (hy : 0 ≤ y) (hy' : y < 18446744073709551616) (w : World) : (callFunc 43 #[.int .u64 x, .int .u64 y, .int .u64 0]).run Try.prog w =
    .ok (.value (.tuple #[.int .u64 ((x - y) % 18446744073709551616), .int .u64 (bor x y)])) w := by
  simpa using sub64 x y 0 hx hy hy' (Int.le_refl 0) (by decide) w

set_option maxHeartbeats 400000 in
theorem plus_any (x y : Int) (w : World) :
    Calls Try.prog 27 #[V2 x, V2 y] w fun e w' => e = .returned (V2 (x + y)) ∧ Below w.heap.size w w' := by
  unfold V2
  obtain ⟨b1, b2⟩ := lo_bd x; obtain ⟨d1, d2⟩ := lo_bd y; obtain ⟨a1, a2⟩ := hi_bd x; obtain ⟨c1, c2⟩ := hi_bd y
  have k0 : 0 ≤ (lo x + lo y) / 18446744073709551616 := by omega
  have k1 : (lo x + lo y) / 18446744073709551616 ≤ 1 := by omega
  go_enter Try.func27, Try.ntmps27
  go_wp2_with (first | simp only [add64_0 (lo x) (lo y) b1 d1] | simp only [add64 (hi x) (hi y) _ a1 c1 k0 k1])
  simp [bodyPost, results, Try.results27, go_sem]
  exact ⟨⟨lo_add x y, hi_add x y⟩, (((Below.refl _ _).alloc (Nat.le_refl _) _).alloc (by simp) _).alloc (by simp; omega) _⟩

set_option maxHeartbeats 400000 in
theorem minus_any (x y : Int) (w : World) :
    Calls Try.prog 32 #[V2 x, V2 y] w fun e w' => e = .returned (V2 (x - y)) ∧ Below w.heap.size w w' := by
  unfold V2
  obtain ⟨b1, b2⟩ := lo_bd x; obtain ⟨d1, d2⟩ := lo_bd y; obtain ⟨a1, a2⟩ := hi_bd x; obtain ⟨c1, c2⟩ := hi_bd y
  obtain ⟨k0, k1⟩ := bor_bd (lo x) (lo y)
  go_enter Try.func32, Try.ntmps32
  go_wp2_with (first | simp only [sub64_0 (lo x) (lo y) b1 d1 d2] | simp only [sub64 (hi x) (hi y) _ a1 c1 c2 k0 k1])
  simp [bodyPost, results, Try.results32, go_sem]
  exact ⟨⟨lo_sub x y, hi_sub x y⟩, (((Below.refl _ _).alloc (Nat.le_refl _) _).alloc (by simp) _).alloc (by simp; omega) _⟩
end Go.Proofs.Ytklekpbfjcpjlaa
