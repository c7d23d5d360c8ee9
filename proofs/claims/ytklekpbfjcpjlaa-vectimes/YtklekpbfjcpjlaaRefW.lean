/- What the document's own wide numbers do. -/
import Derived.Test.YtklekpbfjcpjlaaMay
import Derived.Laws.BitsAllLaws
namespace Go.Proofs.Ytklekpbfjcpjlaa
open Go.RowKit

theorem i64_mask32 (n : Int) : bits .and .i64 n 4294967295 = n % 4294967296 := by
  have hm : (BitVec.ofInt 64 4294967295).toNat = 2 ^ 32 - 1 := by decide
  have key : (BitVec.ofInt 64 n &&& BitVec.ofInt 64 4294967295).toNat = (n % ((2 ^ 64 : Nat) : Int)).toNat % 2 ^ 32 := by
    rw [BitVec.toNat_and, BitVec.toNat_ofInt, hm, Nat.and_two_pow_sub_one_eq_mod]
  show IntKind.i64.wrap ((BitVec.ofInt 64 n &&& BitVec.ofInt 64 4294967295).toNat : Nat) = n % 4294967296
  rw [key, IntKind.wrap_i64]
  omega
theorem i64_join32 (a b : Int) (h1 : -2147483648 ≤ a) (h2 : a ≤ 2147483647) (h3 : 0 ≤ b) (h4 : b < 4294967296) : bits .or .i64 (a * 4294967296) b = a * 4294967296 + b := by
  have key : (BitVec.ofInt 64 (a * 4294967296) ||| BitVec.ofInt 64 b).toNat = ((a * 4294967296) % ((2 ^ 64 : Nat) : Int)).toNat + b.toNat := by
    rw [BitVec.toNat_or, BitVec.toNat_ofInt, BitVec.toNat_ofInt]
    rw [show (b % ((2 ^ 64 : Nat) : Int)).toNat = b.toNat from by omega]
    exact nat_join 32 _ _ (by omega) (by omega)
  show IntKind.i64.wrap ((BitVec.ofInt 64 (a * 4294967296) ||| BitVec.ofInt 64 b).toNat : Nat) = a * 4294967296 + b
  rw [key, IntKind.wrap_i64]
  omega

theorem ret_tup {a b : Int} {c : Bool} (h : a = b) : Ending.returned (.tuple #[.int .i64 a, .bool c]) = .returned (.tuple #[.int .i64 b, .bool c]) := by rw [h]
/-- A number of the document's, in two halves. -/
def R2 (x : Int) : Value := .agg #[.int .i64 (x / 4294967296), .int .i64 (x % 4294967296)]
/-- x is within what the document's numbers are used for. -/
def RB (x : Int) : Prop := -9903520314283042199192993792 ≤ x ∧ x ≤ 9903520314283042199192993792
theorem RB_of {x : Int} (h : I64 x) : RB x := by unfold I64 at h; unfold RB; omega

set_option maxHeartbeats 400000 in
theorem rOf_any (x : Int) (w : World) :
    Calls Try.prog 30 #[.int .i64 x] w fun e w' => e = .returned (R2 x) ∧ Below w.heap.size w w' := by
  go_enter Try.func30, Try.ntmps30
  go_wp2
  exact bodyPost_ret (v := R2 x) (by simp [results, Try.results30, go_sem, R2, i64_mask32]) rfl ⟨rfl, grow1 w _⟩

theorem rAdd_hi (x y : Int) (hx : RB x) (hy : RB y) : wrap64 (wrap64 (x / 4294967296 + y / 4294967296) + wrap64 (x % 4294967296 + y % 4294967296) / 4294967296) = (x + y) / 4294967296 := by
  unfold RB at hx hy
  have a1 : wrap64 (x / 4294967296 + y / 4294967296) = x / 4294967296 + y / 4294967296 := by rw [sgn_wrap]; unfold sgn; omega
  have a2 : wrap64 (x % 4294967296 + y % 4294967296) = x % 4294967296 + y % 4294967296 := by rw [sgn_wrap]; unfold sgn; omega
  rw [a1, a2, sgn_wrap]
  unfold sgn
  omega
theorem rAdd_lo (x y : Int) : wrap64 (x % 4294967296 + y % 4294967296) % 4294967296 = (x + y) % 4294967296 := by
  simp only [sgn_wrap]
  unfold sgn
  omega
set_option maxHeartbeats 400000 in
theorem rWAdd_any (x y : Int) (hx : RB x) (hy : RB y) (w : World) :
    Calls Try.prog 31 #[R2 x, R2 y] w fun e w' => e = .returned (R2 (x + y)) ∧ Below w.heap.size w w' := by
  have HE := hide (And.intro (rAdd_hi x y hx hy) (rAdd_lo x y))
  clear hx hy
  unfold R2
  generalize hxa : x / 4294967296 = xa at *
  generalize hxb : x % 4294967296 = xb at *
  generalize hya : y / 4294967296 = ya at *
  generalize hyb : y % 4294967296 = yb at *
  clear hxa hxb hya hyb
  go_enter Try.func31, Try.ntmps31
  go_wp2
  refine bodyPost_ret (v := R2 (x + y)) ?_ rfl ⟨rfl, grow3 w _ _ _⟩
  simp [results, Try.results31, go_sem, R2, i64_mask32]
  exact HE.out

set_option maxHeartbeats 400000 in
theorem rMinus_any (x : Int) (hx : RB x) (w : World) :
    Calls Try.prog 33 #[R2 x] w fun e w' => e = .returned (R2 (-x)) ∧ Below w.heap.size w w' := by
  unfold R2
  by_cases h : x % 4294967296 = 0
  · have hb : (x % 4294967296 == 0) = true := by simpa using h
    have e1 : wrap64 (-(x / 4294967296)) = (-x) / 4294967296 := by unfold RB at hx; rw [sgn_wrap]; unfold sgn; omega
    have e2 : (-x) % 4294967296 = 0 := by omega
    have HE := hide (And.intro e1 e2)
    clear h hx e1 e2
    generalize hxa : x / 4294967296 = xa at *
    generalize hxb : x % 4294967296 = xb at *
    clear hxa hxb
    go_enter Try.func33, Try.ntmps33
    go_wp2
    refine bodyPost_ret (v := R2 (-x)) ?_ rfl ⟨rfl, grow2 w _ _⟩
    simp [results, Try.results33, go_sem, R2]
    exact ⟨HE.out.1, HE.out.2.symm⟩
  · have hb : (x % 4294967296 == 0) = false := by simpa using h
    have e1 : wrap64 (wrap64 (-(x / 4294967296)) - 1) = (-x) / 4294967296 := by unfold RB at hx; simp only [sgn_wrap]; unfold sgn; omega
    have e2 : wrap64 (4294967296 - x % 4294967296) = (-x) % 4294967296 := by rw [sgn_wrap]; unfold sgn; omega
    have HE := hide (And.intro e1 e2)
    clear h hx e1 e2
    generalize hxa : x / 4294967296 = xa at *
    generalize hxb : x % 4294967296 = xb at *
    clear hxa hxb
    go_enter Try.func33, Try.ntmps33
    go_wp2
    refine bodyPost_ret (v := R2 (-x)) ?_ rfl ⟨rfl, grow2 w _ _⟩
    simp [results, Try.results33, go_sem, R2]
    exact HE.out

set_option maxHeartbeats 400000 in
theorem rInt_yes (x : Int) (hf : fit x = true) (w : World) :
    Calls Try.prog 42 #[R2 x] w fun e w' => e = .returned (.tuple #[.int .i64 x, .bool true]) ∧ Below w.heap.size w w' := by
  have hi := fit_I64 hf
  unfold I64 at hi
  have h1 : ¬ x / 4294967296 < -2147483648 := by omega
  have h2 : ¬ 2147483647 < x / 4294967296 := by omega
  have e1 : bits .or .i64 (x / 4294967296 * 4294967296) (x % 4294967296) = x := by rw [i64_join32 _ _ (by omega) (by omega) (by omega) (by omega)]; omega
  have HE := hide e1
  clear hi e1 hf
  unfold R2
  generalize hxa : x / 4294967296 = xa at *
  generalize hxb : x % 4294967296 = xb at *
  clear hxa hxb
  go_enter Try.func42, Try.ntmps42
  go_wp2
  go_ret2
  exact ⟨ret_tup HE.out, grow1 w _⟩
set_option maxHeartbeats 400000 in
theorem rInt_no (x : Int) (hf : fit x = false) (w : World) :
    Calls Try.prog 42 #[R2 x] w fun e w' => e = .returned (.tuple #[.int .i64 0, .bool false]) ∧ Below w.heap.size w w' := by
  have hn : ¬ (-9223372036854775808 ≤ x ∧ x ≤ 9223372036854775807) := of_decide_eq_false hf
  unfold R2
  by_cases h1 : x / 4294967296 < -2147483648
  · clear hn hf
    generalize hxa : x / 4294967296 = xa at *
    generalize hxb : x % 4294967296 = xb at *
    clear hxa hxb
    go_enter Try.func42, Try.ntmps42
    go_wp2
    go_ret2
    exact ⟨rfl, grow1 w _⟩
  · have h2 : 2147483647 < x / 4294967296 := by omega
    clear hn hf
    generalize hxa : x / 4294967296 = xa at *
    generalize hxb : x % 4294967296 = xb at *
    clear hxa hxb
    go_enter Try.func42, Try.ntmps42
    go_wp2
    go_ret2
    exact ⟨rfl, grow1 w _⟩
end Go.Proofs.Ytklekpbfjcpjlaa
