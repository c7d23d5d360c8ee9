/- The program's net: what is small: made, isAddress, Compare, between, Len. -/
import Derived.Test.YtdfioggeiagihaaMe0
namespace Go.Proofs.Ytdfioggeiagihaa
open Go Go.RowKit

theorem neqMap (w : World) (r : Option Nat) : (binOp .neq 57 (.map r) (.map none)).run Try.prog w = .ok (.bool (!r.isNone)) w := run_neq_map_nil w _ _ _ r Try.underlying57
theorem pMade (p b : Nat) (vL : Value) (st : Nt) (w : World) (h : PAt w p b vL st) : Calls Try.prog 33 #[.pointer (some ⟨p, 0, none⟩)] w fun e w' => e = .returned (.bool true) ∧ w' = w := by
  obtain ⟨c0, c1, c2⟩ := h.cells
  have qM := neqMap
  clear h
  go_enter Try.func33, Try.ntmps33
  go_wp2
  go_ret
  exact ⟨rfl, rfl⟩
theorem nMade (w : World) : Calls Try.prog 33 #[.pointer none] w fun e w' => e = .returned (.bool false) ∧ w' = w := by
  go_enter Try.func33, Try.ntmps33
  go_wp2
  go_ret
  exact ⟨rfl, rfl⟩
theorem pAddr (a : Int) (w : World) : Calls Try.prog 34 #[.int .i64 a] w fun e w' => e = .returned (.bool (adr a)) ∧ w' = w := by
  unfold adr
  by_cases h1 : 0 ≤ a
  · by_cases h2 : a < 256
    · rw [decide_eq_true ⟨h1, h2⟩]
      go_enter Try.func34, Try.ntmps34
      go_wp2
      go_ret
      exact ⟨rfl, rfl⟩
    · rw [decide_eq_false (fun h => h2 h.2)]
      go_enter Try.func34, Try.ntmps34
      go_wp2
      go_ret
      exact ⟨rfl, rfl⟩
  · rw [decide_eq_false (fun h => h1 h.1)]
    go_enter Try.func34, Try.ntmps34
    go_wp2
    go_ret
    exact ⟨rfl, rfl⟩
def cmpN (a b : Nat) : Int := if a < b then -1 else if b < a then 1 else 0
theorem pNaN (a : Nat) (w : World) : Calls Try.prog 56 #[.int .u64 (a : Int)] w fun e w' => e = .returned (.bool false) ∧ w' = w := by
  go_enter Try.func56, Try.ntmps56
  go_wp2
  go_ret
  exact ⟨by simp, rfl⟩
theorem pCmp (a b : Nat) (w : World) : Calls Try.prog 52 #[.int .u64 (a : Int), .int .u64 (b : Int)] w fun e w' => e = .returned (.int .i64 (cmpN a b)) ∧ w' = w := by
  have KN := fun x z => hide (pNaN x z)
  unfold cmpN
  by_cases h1 : a < b
  · rw [if_pos h1]
    have h1z : (a : Int) < (b : Int) := by omega
    go_enter Try.func52, Try.ntmps52
    go_wp2_with fail
    refine (KN _ _).out.mono ?_
    rintro e w1 ⟨rfl, hw⟩
    obtain rfl := hw.symm
    clear hw
    go_wp2_with fail
    refine (KN _ _).out.mono ?_
    rintro e w1 ⟨rfl, hw⟩
    obtain rfl := hw.symm
    clear hw
    go_wp2
    go_ret
    exact ⟨rfl, rfl⟩
  · rw [if_neg h1]
    by_cases h2 : b < a
    · rw [if_pos h2]
      have h1z : ¬ (a : Int) < (b : Int) := by omega
      have h2z : (b : Int) < (a : Int) := by omega
      go_enter Try.func52, Try.ntmps52
      go_wp2_with fail
      refine (KN _ _).out.mono ?_
      rintro e w1 ⟨rfl, hw⟩
      obtain rfl := hw.symm
      clear hw
      go_wp2_with fail
      refine (KN _ _).out.mono ?_
      rintro e w1 ⟨rfl, hw⟩
      obtain rfl := hw.symm
      clear hw
      go_wp2
      go_ret
      exact ⟨rfl, rfl⟩
    · rw [if_neg h2]
      have h1z : ¬ (a : Int) < (b : Int) := by omega
      have h2z : ¬ (b : Int) < (a : Int) := by omega
      go_enter Try.func52, Try.ntmps52
      go_wp2_with fail
      refine (KN _ _).out.mono ?_
      rintro e w1 ⟨rfl, hw⟩
      obtain rfl := hw.symm
      clear hw
      go_wp2_with fail
      refine (KN _ _).out.mono ?_
      rintro e w1 ⟨rfl, hw⟩
      obtain rfl := hw.symm
      clear hw
      go_wp2
      go_ret
      exact ⟨rfl, rfl⟩
theorem pFindFn (x : Lt) (id : Nat) (w : World) : Calls Try.prog 51 #[x.val, .int .u64 (id : Int)] w fun e w' => e = .returned (.int .i64 (cmpN x.id id)) ∧ Below w.heap.size w w' := by
  obtain ⟨xi, xa, xb, xs, xg⟩ := x
  have KC := fun z => hide (pCmp xi id z)
  show Calls Try.prog 51 #[.agg #[.int .u64 (xi : Int), .int .i64 xa, .int .i64 xb, .string xs, .int .i64 (xg : Int)], .int .u64 (id : Int)] w fun e w' => e = .returned (.int .i64 (cmpN xi id)) ∧ Below w.heap.size w w'
  have HX := hide (Box.new w #[.int .u64 (xi : Int), .int .i64 xa, .int .i64 xb, .string xs, .int .i64 (xg : Int)] 41)
  have HB := hide (one_below w (.cells #[.int .u64 (xi : Int), .int .i64 xa, .int .i64 xb, .string xs, .int .i64 (xg : Int)] 41))
  go_enter Try.func51, Try.ntmps51
  go_upto_region 1 with fail
  generalize w.alloc (.cells #[.int .u64 (xi : Int), .int .i64 xa, .int .i64 xb, .string xs, .int .i64 (xg : Int)] 41) = w1 at *
  generalize hB : w.heap.size = B at *
  have HBe := hide hB
  clear hB
  obtain ⟨c0, c1, c2, c3, c4⟩ := HX.out.five
  go_wp2_with fail
  refine (KC _).out.mono ?_
  rintro e w2 ⟨rfl, rfl⟩
  go_wp2
  go_ret
  exact ⟨rfl, by rw [HBe.out]; exact HB.out⟩
theorem pBetween (a b : Int) (w : World) : Calls Try.prog 44 #[.int .i64 a, .int .i64 b] w fun e w' => e = .returned (.agg #[.int .i64 (min a b), .int .i64 (max a b)]) ∧ Below w.heap.size w w' := by
  have HB : ∀ x y, Below w.heap.size w (w.alloc (.cells #[.int .i64 x, .int .i64 y] 70)) := fun x y => one_below w _
  have c0 : ∀ (x y : Int), (w.alloc (.cells #[.int .i64 x, .int .i64 y] 70)).cell? ⟨w.heap.size, 0, none⟩ = some (.int .i64 x) := fun x y => Box.get (heap_alloc_last w (.cells #[.int .i64 x, .int .i64 y] 70)) 0 rfl
  have c1 : ∀ (x y : Int), (w.alloc (.cells #[.int .i64 x, .int .i64 y] 70)).cell? ⟨w.heap.size, 1, none⟩ = some (.int .i64 y) := fun x y => Box.get (heap_alloc_last w (.cells #[.int .i64 x, .int .i64 y] 70)) 1 rfl
  rcases Int.lt_trichotomy a b with h | h | h
  · rw [Int.min_eq_left (Int.le_of_lt h), Int.max_eq_right (Int.le_of_lt h)]
    go_enter Try.func44, Try.ntmps44
    go_wp2
    all_goals
      first
      | (exfalso; omega)
      | exact bodyPost_ret (v := .agg #[.int .i64 a, .int .i64 b]) (by simp [results, Try.results44, go_sem, c0, c1]) rfl ⟨rfl, HB _ _⟩
  · subst h
    rw [Int.min_self, Int.max_self]
    go_enter Try.func44, Try.ntmps44
    go_wp2
    all_goals
      first
      | (exfalso; omega)
      | exact bodyPost_ret (v := .agg #[.int .i64 a, .int .i64 a]) (by simp [results, Try.results44, go_sem, c0, c1]) rfl ⟨rfl, HB _ _⟩
  · rw [Int.min_eq_right (Int.le_of_lt h), Int.max_eq_left (Int.le_of_lt h)]
    go_enter Try.func44, Try.ntmps44
    go_wp2
    all_goals
      first
      | (exfalso; omega)
      | exact bodyPost_ret (v := .agg #[.int .i64 b, .int .i64 a]) (by simp [results, Try.results44, go_sem, c0, c1]) rfl ⟨rfl, HB _ _⟩
theorem pRowLen (a : Option Addr) (n c : Nat) (w : World) : Calls Try.prog 47 #[.slice a n c] w fun e w' => e = .returned (.int .i64 (n : Int)) ∧ w' = w := by
  go_enter Try.func47, Try.ntmps47
  go_wp2
  go_ret
  exact ⟨rfl, rfl⟩
theorem pLen (p b : Nat) (vL : Value) (st : Nt) (w : World) (h : PAt w p b vL st) : Calls Try.prog 26 #[.pointer (some ⟨p, 0, none⟩)] w fun e w' => e = .returned (.int .i64 (st.l.length : Int)) ∧ w' = w := by
  obtain ⟨a, c, rfl, -⟩ := h.ls.slice
  obtain ⟨c0, c1, c2⟩ := h.cells
  clear h
  go_enter Try.func26, Try.ntmps26
  go_wp2
  go_ret
  exact ⟨rfl, rfl⟩
theorem nLen (w : World) : Calls Try.prog 26 #[.pointer none] w fun e w' => e = .returned (.int .i64 0) ∧ w' = w := by
  go_enter Try.func26, Try.ntmps26
  go_wp2
  go_ret
  exact ⟨rfl, rfl⟩
end Go.Proofs.Ytdfioggeiagihaa
