/- Plain facts on whole numbers of two words and on three of them side by side: no program in sight. -/
namespace Go.Proofs.Ytklekpbfjcpjlaa

/-- The low word of x. -/
def lo (x : Int) : Int := x % 18446744073709551616
/-- The high word of x, in two's complement of two words. -/
def hi (x : Int) : Int := (x / 18446744073709551616) % 18446744073709551616
/-- The number that int64 has, of x. -/
def sgn (x : Int) : Int := (x + 9223372036854775808) % 18446744073709551616 - 9223372036854775808
/-- x is a number of int64. -/
def I64 (x : Int) : Prop := -9223372036854775808 ≤ x ∧ x ≤ 9223372036854775807
/-- The borrow, under a name. -/
def bor (x y : Int) : Int := if x < y then 1 else 0

theorem lo_bd (x : Int) : 0 ≤ lo x ∧ lo x < 18446744073709551616 := by unfold lo; omega
theorem hi_bd (x : Int) : 0 ≤ hi x ∧ hi x < 18446744073709551616 := by unfold hi; omega
theorem bor_bd (x y : Int) : 0 ≤ bor x y ∧ bor x y ≤ 1 := by unfold bor; split <;> omega

theorem lo_add (x y : Int) : (lo x + lo y) % 18446744073709551616 = lo (x + y) := by unfold lo; omega
theorem hi_add (x y : Int) : (hi x + hi y + (lo x + lo y) / 18446744073709551616) % 18446744073709551616 = hi (x + y) := by unfold lo hi; omega
theorem lo_sub (x y : Int) : (lo x - lo y) % 18446744073709551616 = lo (x - y) := by unfold lo; omega
theorem hi_sub (x y : Int) : (hi x - hi y - bor (lo x) (lo y)) % 18446744073709551616 = hi (x - y) := by unfold bor lo hi; split <;> omega
theorem lo_of (n : Int) : n % 18446744073709551616 = lo n := rfl
theorem hi_of (n : Int) (h : I64 n) : (n / 9223372036854775808) % 18446744073709551616 = hi n := by unfold I64 at h; unfold hi; omega

def imax (x y : Int) : Int := if x < y then y else x
def imin (x y : Int) : Int := if x < y then x else y
theorem imax_I64 {x y : Int} (hx : I64 x) (hy : I64 y) : I64 (imax x y) := by unfold imax; split <;> assumption
theorem imin_I64 {x y : Int} (hx : I64 x) (hy : I64 y) : I64 (imin x y) := by unfold imin; split <;> assumption
/-- x is within what two words have. -/
def W128 (x : Int) : Prop := -170141183460469231731687303715884105728 ≤ x ∧ x < 170141183460469231731687303715884105728
/-- Does int64 have x? -/
def fit (x : Int) : Bool := decide (-9223372036854775808 ≤ x ∧ x ≤ 9223372036854775807)
theorem fit_I64 {x : Int} (h : fit x = true) : I64 x := by unfold fit at h; unfold I64; exact of_decide_eq_true h
theorem fit_of {x : Int} (h : I64 x) : fit x = true := by unfold I64 at h; unfold fit; exact decide_eq_true h
theorem sgn_bd (x : Int) : I64 (sgn x) := by unfold sgn I64; omega
theorem sgn_eq {x : Int} (h : fit x = true) : sgn x = x := by have := fit_I64 h; unfold I64 at this; unfold sgn; omega
theorem lo_sgn (x : Int) : lo (sgn x) = lo x := by unfold lo sgn; omega
theorem hi_sgn {x : Int} (h : W128 x) (hf : fit x = false) : ¬ hi (sgn x) = hi x := by
  have h1 : ¬ (-9223372036854775808 ≤ x ∧ x ≤ 9223372036854775807) := of_decide_eq_false hf
  unfold W128 at h; unfold hi sgn; omega

theorem W128_of {x : Int} (h : I64 x) : W128 x := by unfold I64 at h; unfold W128; omega
theorem W128_add {x y : Int} (h : I64 x) (k : I64 y) : W128 (x + y) := by unfold I64 at h k; unfold W128; omega
theorem W128_sub {x y : Int} (h : I64 x) (k : I64 y) : W128 (x - y) := by unfold I64 at h k; unfold W128; omega

end Go.Proofs.Ytklekpbfjcpjlaa
