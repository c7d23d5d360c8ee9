/- What bits.Mul64 (by the library of proofs) and times do. -/
import Derived.Test.YtklekpbfjcpjlaaKeep
import Derived.Test.YtklekpbfjcpjlaaTimesM
import Derived.Shelf.Bits.Mul64
namespace Go.Proofs.Ytklekpbfjcpjlaa
open Go.RowKit Go.Shelf

/-- Where the library's own product of words stands in this program. -/
def mulRen : Go.Shelf.Ren := ⟨fun n => if n = 264 then 44 else n, fun n => if n = 46 then 66 else if n = 53 then 42 else n, fun n => n⟩
theorem mulLaid : Lays.n264 Try.prog mulRen where
  mixed := by kernel_rfl
  f264 := by kernel_rfl
  t46 := by kernel_rfl
  a46 := fun w => Try.isAgg66 w
  z46 := fun w => Try.sizeOf66 w
  v46 := fun w => Try.zeroValue66 w
  t53 := by kernel_rfl
  a53 := fun w => Try.isAgg42 w
  z53 := fun w => Try.sizeOf42 w
  v53 := fun w => Try.zeroValue42 w
theorem mul64_nat (x y : Nat) (hx : x < 18446744073709551616) (hy : y < 18446744073709551616) (w : World) :
    Calls Try.prog 44 #[.int .u64 x, .int .u64 y] w fun e w' => e = .returned (.tuple #[.int .u64 ((x * y / 18446744073709551616 : Nat) : Int), .int .u64 ((x * y % 18446744073709551616 : Nat) : Int)]) ∧ w' = w :=
  Any.bits_Mul64 mulLaid x y hx hy w
theorem mul64_int (x y : Int) (hx : 0 ≤ x ∧ x < 18446744073709551616) (hy : 0 ≤ y ∧ y < 18446744073709551616) (w : World) :
    Calls Try.prog 44 #[.int .u64 x, .int .u64 y] w fun e w' => e = .returned (.tuple #[.int .u64 (x * y / 18446744073709551616), .int .u64 (x * y % 18446744073709551616)]) ∧ w' = w := by
  obtain ⟨a, rfl⟩ := Int.eq_ofNat_of_zero_le hx.1
  obtain ⟨b, rfl⟩ := Int.eq_ofNat_of_zero_le hy.1
  have h := mul64_nat a b (by omega) (by omega) w
  rw [show ((a * b / 18446744073709551616 : Nat) : Int) = (a : Int) * (b : Int) / 18446744073709551616 from by rw [← Int.natCast_mul]; rfl,
    show ((a * b % 18446744073709551616 : Nat) : Int) = (a : Int) * (b : Int) % 18446744073709551616 from by rw [← Int.natCast_mul]; rfl] at h
  exact h

theorem hi_wraps (P A B : Int) : IntKind.u64.wrap (IntKind.u64.wrap (P + IntKind.u64.wrap A) + IntKind.u64.wrap B) = (P + (A + B)) % 18446744073709551616 := by
  simp only [u64_wrap]; omega
set_option maxHeartbeats 400000 in
theorem times_any (x y : Int) (w : World) :
    Calls Try.prog 35 #[V2 x, V2 y] w fun e w' => e = .returned (V2 (x * y)) ∧ Below w.heap.size w w' := by
  unfold V2
  have HE := hide (And.intro (lo_mul x y) (hi_mul x y))
  have HB := hide (And.intro (lo_bd x) (lo_bd y))
  go_enter Try.func35, Try.ntmps35
  go_wp2_with fail
  refine (mul64_int _ _ HB.out.1 HB.out.2 _).mono ?_
  rintro e w1 ⟨rfl, rfl⟩
  go_wp2
  refine bodyPost_ret (v := V2 (x * y)) ?_ rfl ⟨rfl, grow3 w _ _ _⟩
  simp [results, Try.results35, go_sem, V2]
  exact ⟨HE.out.1, (hi_wraps _ _ _).trans HE.out.2⟩
end Go.Proofs.Ytklekpbfjcpjlaa
