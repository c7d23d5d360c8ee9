/- Products of numbers of two words: plain facts. -/
import Derived.Test.YtklekpbfjcpjlaaMath
namespace Go.Proofs.Ytklekpbfjcpjlaa

theorem split2 (x : Int) : ∃ q : Int, x = lo x + 18446744073709551616 * hi x + 340282366920938463463374607431768211456 * q := by
  refine ⟨x / 340282366920938463463374607431768211456, ?_⟩
  unfold lo hi; omega
theorem prod2 (a b q c d r : Int) : (a + 18446744073709551616 * b + 340282366920938463463374607431768211456 * q) * (c + 18446744073709551616 * d + 340282366920938463463374607431768211456 * r) =
    a * c + 18446744073709551616 * (a * d + b * c) + 340282366920938463463374607431768211456 * (b * d + a * r + q * c + 18446744073709551616 * (b * r + q * d) + 340282366920938463463374607431768211456 * (q * r)) := by
  have e1 : ∀ u v k : Int, u * (k * v) = k * (u * v) := fun u v k => Int.mul_left_comm u k v
  have e2 : ∀ u v k : Int, k * u * v = k * (u * v) := fun u v k => Int.mul_assoc k u v
  simp only [Int.add_mul, Int.mul_add]
  rw [e1 a d, e1 a r, e2 b, e2 b, e2 b, e2 q, e2 q, e2 q, e1 b d, e1 b r, e1 q d, e1 q r]
  omega
theorem lo_mul (x y : Int) : (lo x * lo y) % 18446744073709551616 = lo (x * y) := by
  obtain ⟨q, hq⟩ := split2 x
  obtain ⟨r, hr⟩ := split2 y
  have e : x * y = _ := (congr (congrArg HMul.hMul hq) hr).trans (prod2 (lo x) (hi x) q (lo y) (hi y) r)
  rw [e]
  generalize lo x * lo y = A
  generalize lo x * hi y + hi x * lo y = B
  generalize hi x * hi y + lo x * r + q * lo y + 18446744073709551616 * (hi x * r + q * hi y) + 340282366920938463463374607431768211456 * (q * r) = C
  unfold lo; omega
theorem hi_mul (x y : Int) : ((lo x * lo y) / 18446744073709551616 + (lo x * hi y + hi x * lo y)) % 18446744073709551616 = hi (x * y) := by
  obtain ⟨q, hq⟩ := split2 x
  obtain ⟨r, hr⟩ := split2 y
  have e : x * y = _ := (congr (congrArg HMul.hMul hq) hr).trans (prod2 (lo x) (hi x) q (lo y) (hi y) r)
  rw [e]
  generalize lo x * lo y = A
  generalize lo x * hi y + hi x * lo y = B
  generalize hi x * hi y + lo x * r + q * lo y + 18446744073709551616 * (hi x * r + q * hi y) + 340282366920938463463374607431768211456 * (q * r) = C
  unfold hi; omega
theorem abs_mul_le (x y : Int) (hx : I64 x) (hy : I64 y) : -85070591730234615865843651857942052864 ≤ x * y ∧ x * y ≤ 85070591730234615865843651857942052864 := by
  unfold I64 at hx hy
  have h : x.natAbs * y.natAbs ≤ 9223372036854775808 * 9223372036854775808 := Nat.mul_le_mul (by omega) (by omega)
  have e : (x * y).natAbs = x.natAbs * y.natAbs := Int.natAbs_mul x y
  rw [← e] at h
  omega
theorem W128_mul {x y : Int} (hx : I64 x) (hy : I64 y) : W128 (x * y) := by
  have := abs_mul_le x y hx hy
  unfold W128; omega
end Go.Proofs.Ytklekpbfjcpjlaa
