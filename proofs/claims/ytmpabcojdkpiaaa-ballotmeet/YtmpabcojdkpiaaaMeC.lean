/- The program's Majority, sum, Quorum. -/
import Derived.Test.YtmpabcojdkpiaaaMeA
namespace Go.Proofs.Ytmpabcojdkpiaaa
open Go Go.RowKit

theorem tup_eq {a b c d : Value} (h : a = b) (k : c = d) : Ending.returned (.tuple #[a, c]) = Ending.returned (.tuple #[b, d]) := by rw [h, k]
theorem int_eq {x y : Int} (h : x = y) : Value.int .i64 x = Value.int .i64 y := by rw [h]
theorem boolv_eq {x y : Bool} (h : x = y) : Value.bool x = Value.bool y := by rw [h]
set_option maxHeartbeats 1000000 in
theorem majority_any (n : Int) (u : World) : Calls Try.prog 14 #[.int .i64 n] u fun e v => e = .returned (.tuple #[.int .i64 (((majority n).1 : Nat) : Int), .int .i64 (((majority n).2 : Nat) : Int)]) ∧ Below u.heap.size u v := by
  by_cases c1 : 1 ≤ n ∧ n ≤ 7
  · have HM : Hid (majority n = (n.toNat / 2 + 1, 0)) := by unfold Hid majority; rw [(size_iff n).2 c1, if_pos rfl]
    have HT : Hid (((n.toNat / 2 + 1 : Nat) : Int) = n / 2 + 1) := by unfold Hid; omega
    generalize majority n = M at *
    obtain ⟨k1, k2⟩ := c1
    go_enter Try.func14, Try.ntmps14
    go_wp2
    go_ret2
    refine ⟨?_, Below.refl _ _⟩
    rw [HM.out]
    exact tup_eq (int_eq HT.out.symm) rfl
  · have HM : Hid (majority n = (0, 2)) := by
      unfold Hid majority
      rw [if_neg (fun h => c1 ((size_iff n).1 h))]
    generalize majority n = M at *
    go_enter Try.func14, Try.ntmps14
    by_cases c2 : n < 1
    · go_wp2
      go_ret2
      exact ⟨by rw [HM.out]; rfl, Below.refl _ _⟩
    · have c3 : 7 < n := by omega
      go_wp2
      go_ret2
      exact ⟨by rw [HM.out]; rfl, Below.refl _ _⟩
/-- Who is named. -/
def mk (l : List Int) (i : Nat) : Int := if (i : Int) ∈ l then 1 else 0
def rowM (l : List Int) : Array Value := #[.int .i64 (mk l 0), .int .i64 (mk l 1), .int .i64 (mk l 2), .int .i64 (mk l 3), .int .i64 (mk l 4), .int .i64 (mk l 5), .int .i64 (mk l 6)]
theorem rowM_get (l : List Int) (i : Nat) (h : i < 7) : (rowM l)[i]? = some (.int .i64 (mk l i)) := by
  rcases (by omega : i = 0 ∨ i = 1 ∨ i = 2 ∨ i = 3 ∨ i = 4 ∨ i = 5 ∨ i = 6) with rfl | rfl | rfl | rfl | rfl | rfl | rfl <;> rfl
theorem named_mk (l : List Int) (i : Nat) : ((named l (i + 1) : Nat) : Int) = (named l i : Int) + mk l i := by
  rw [show named l (i + 1) = named l i + if (i : Int) ∈ l then 1 else 0 from rfl]
  unfold mk
  split <;> omega
theorem mk_more (l : List Int) (j : Nat) (h : j < l.length) (i : Nat) : mk (l.take (j + 1)) i = if l[j] = (i : Int) then 1 else mk (l.take j) i := by
  unfold mk
  rw [List.take_succ_eq_append_getElem h]
  simp only [List.mem_append, List.mem_singleton]
  by_cases h1 : l[j] = (i : Int)
  · rw [if_pos h1, if_pos (Or.inr h1.symm)]
  · rw [if_neg h1]
    by_cases h2 : (i : Int) ∈ l.take j
    · rw [if_pos h2, if_pos (Or.inl h2)]
    · rw [if_neg h2, if_neg (fun hh => hh.elim h2 (fun hh => h1 hh.symm))]
theorem rowM_put (l : List Int) (j : Nat) (h : j < l.length) (x : Nat) (hx : x < 7) (hl : l[j] = (x : Int)) : (rowM (l.take j)).setIfInBounds x (.int .i64 1) = rowM (l.take (j + 1)) := by
  unfold rowM
  simp only [mk_more l j h, hl]
  rcases (by omega : x = 0 ∨ x = 1 ∨ x = 2 ∨ x = 3 ∨ x = 4 ∨ x = 5 ∨ x = 6) with rfl | rfl | rfl | rfl | rfl | rfl | rfl <;> rfl
theorem seven {w : World} {X : Nat} {T : TypeId} {l : List Int} (h : Box w X (rowM l) T) : w.cell? ⟨X, 0, none⟩ = some (.int .i64 (mk l 0)) ∧ w.cell? ⟨X, 1, none⟩ = some (.int .i64 (mk l 1)) ∧ w.cell? ⟨X, 2, none⟩ = some (.int .i64 (mk l 2)) ∧ w.cell? ⟨X, 3, none⟩ = some (.int .i64 (mk l 3)) ∧ w.cell? ⟨X, 4, none⟩ = some (.int .i64 (mk l 4)) ∧ w.cell? ⟨X, 5, none⟩ = some (.int .i64 (mk l 5)) ∧ w.cell? ⟨X, 6, none⟩ = some (.int .i64 (mk l 6)) :=
  ⟨h.get 0 rfl, h.get 1 rfl, h.get 2 rfl, h.get 3 rfl, h.get 4 rfl, h.get 5 rfl, h.get 6 rfl⟩
theorem named_past (l : List Int) (n : Nat) (h : ∀ x ∈ l, x < (n : Int)) : ∀ k, named l (n + k) = named l n
  | 0 => rfl
  | k + 1 => by
    rw [show named l (n + (k + 1)) = named l (n + k) + if ((n + k : Nat) : Int) ∈ l then 1 else 0 from rfl, named_past l n h k, if_neg]
    · rfl
    · intro hh
      have := h _ hh
      omega
/-- The first of some numbers, added. -/
def pre (f : Nat → Int) : Nat → Int
  | 0 => 0
  | k + 1 => pre f k + f k
theorem pre_le {f : Nat → Int} (h : ∀ i, 0 ≤ f i ∧ f i ≤ 1) : ∀ k, 0 ≤ pre f k ∧ pre f k ≤ k
  | 0 => ⟨Int.le_refl _, Int.le_refl _⟩
  | k + 1 => by
    have h1 := pre_le h k
    have h2 := h k
    show 0 ≤ pre f k + f k ∧ pre f k + f k ≤ ((k + 1 : Nat) : Int)
    omega
set_option maxHeartbeats 4000000 in
theorem sum7 (f : Nat → Int) (u : World) (hf : ∀ i, 0 ≤ f i ∧ f i ≤ 1) : Calls Try.prog 22 #[.agg #[.int .i64 (f 0), .int .i64 (f 1), .int .i64 (f 2), .int .i64 (f 3), .int .i64 (f 4), .int .i64 (f 5), .int .i64 (f 6)]] u fun e v => e = .returned (.int .i64 (pre f 7)) ∧ Below u.heap.size u v := by
  have HL := hide (fun k => pre_le hf k)
  have HS : Hid (∀ k, pre f (k + 1) = pre f k + f k) := fun _ => rfl
  have HF := hide hf
  clear hf
  go_enter Try.func22, Try.ntmps22
  go_wp2_with fail
  go_loopw [3, 5, 7] (fun t _ k w => ∃ x : Nat, x ≤ 7 ∧ k = .int .i64 (x : Int) ∧ t = .int .i64 (pre f x) ∧ Below u.heap.size u w) (fun _ _ k _ => 7 - (intOf k).toNat)
  case atStart => exact ⟨0, Nat.zero_le _, rfl, rfl, one_below u _⟩
  case round =>
    obtain ⟨x, hx, rfl, rfl, hb⟩ := hrel
    have HB := hide hb
    clear hb
    by_cases hlt : x < 7
    · have a1 := HL.out x
      have a2 := HF.out x
      have a3 := HS.out x
      rcases (by omega : x = 0 ∨ x = 1 ∨ x = 2 ∨ x = 3 ∨ x = 4 ∨ x = 5 ∨ x = 6) with rfl | rfl | rfl | rfl | rfl | rfl | rfl
      · have HR := hide (a3)
        clear a3
        generalize pre f 0 = P at *
        have i0 : ∀ w, (Instr.index 50 (.agg #[.int .i64 (f 0), .int .i64 (f 1), .int .i64 (f 2), .int .i64 (f 3), .int .i64 (f 4), .int .i64 (f 5), .int .i64 (f 6)]) (.int .i64 0)).run Try.prog w = .ok (.int .i64 (f 0)) w := fun _ => by kernel_rfl
        go_wp2
        go_round
        case rel => exact ⟨1, by omega, rfl, by rw [HR.out], HB.out⟩
        case measure => simp [intOf]
      · have HR := hide (a3)
        clear a3
        generalize pre f 1 = P at *
        have i0 : ∀ w, (Instr.index 50 (.agg #[.int .i64 (f 0), .int .i64 (f 1), .int .i64 (f 2), .int .i64 (f 3), .int .i64 (f 4), .int .i64 (f 5), .int .i64 (f 6)]) (.int .i64 1)).run Try.prog w = .ok (.int .i64 (f 1)) w := fun _ => by kernel_rfl
        go_wp2
        go_round
        case rel => exact ⟨2, by omega, rfl, by rw [HR.out], HB.out⟩
        case measure => simp [intOf]
      · have HR := hide (a3)
        clear a3
        generalize pre f 2 = P at *
        have i0 : ∀ w, (Instr.index 50 (.agg #[.int .i64 (f 0), .int .i64 (f 1), .int .i64 (f 2), .int .i64 (f 3), .int .i64 (f 4), .int .i64 (f 5), .int .i64 (f 6)]) (.int .i64 2)).run Try.prog w = .ok (.int .i64 (f 2)) w := fun _ => by kernel_rfl
        go_wp2
        go_round
        case rel => exact ⟨3, by omega, rfl, by rw [HR.out], HB.out⟩
        case measure => simp [intOf]
      · have HR := hide (a3)
        clear a3
        generalize pre f 3 = P at *
        have i0 : ∀ w, (Instr.index 50 (.agg #[.int .i64 (f 0), .int .i64 (f 1), .int .i64 (f 2), .int .i64 (f 3), .int .i64 (f 4), .int .i64 (f 5), .int .i64 (f 6)]) (.int .i64 3)).run Try.prog w = .ok (.int .i64 (f 3)) w := fun _ => by kernel_rfl
        go_wp2
        go_round
        case rel => exact ⟨4, by omega, rfl, by rw [HR.out], HB.out⟩
        case measure => simp [intOf]
      · have HR := hide (a3)
        clear a3
        generalize pre f 4 = P at *
        have i0 : ∀ w, (Instr.index 50 (.agg #[.int .i64 (f 0), .int .i64 (f 1), .int .i64 (f 2), .int .i64 (f 3), .int .i64 (f 4), .int .i64 (f 5), .int .i64 (f 6)]) (.int .i64 4)).run Try.prog w = .ok (.int .i64 (f 4)) w := fun _ => by kernel_rfl
        go_wp2
        go_round
        case rel => exact ⟨5, by omega, rfl, by rw [HR.out], HB.out⟩
        case measure => simp [intOf]
      · have HR := hide (a3)
        clear a3
        generalize pre f 5 = P at *
        have i0 : ∀ w, (Instr.index 50 (.agg #[.int .i64 (f 0), .int .i64 (f 1), .int .i64 (f 2), .int .i64 (f 3), .int .i64 (f 4), .int .i64 (f 5), .int .i64 (f 6)]) (.int .i64 5)).run Try.prog w = .ok (.int .i64 (f 5)) w := fun _ => by kernel_rfl
        go_wp2
        go_round
        case rel => exact ⟨6, by omega, rfl, by rw [HR.out], HB.out⟩
        case measure => simp [intOf]
      · have HR := hide (a3)
        clear a3
        generalize pre f 6 = P at *
        have i0 : ∀ w, (Instr.index 50 (.agg #[.int .i64 (f 0), .int .i64 (f 1), .int .i64 (f 2), .int .i64 (f 3), .int .i64 (f 4), .int .i64 (f 5), .int .i64 (f 6)]) (.int .i64 6)).run Try.prog w = .ok (.int .i64 (f 6)) w := fun _ => by kernel_rfl
        go_wp2
        go_round
        case rel => exact ⟨7, by omega, rfl, by rw [HR.out], HB.out⟩
        case measure => simp [intOf]
    · have hx7 : x = 7 := by omega
      subst hx7
      go_wp2
      go_ret
      exact ⟨rfl, HB.out⟩
theorem mk_le (l : List Int) (i : Nat) : 0 ≤ mk l i ∧ mk l i ≤ 1 := by unfold mk; split <;> omega
theorem pre_named (l : List Int) : ∀ k, pre (mk l) k = ((named l k : Nat) : Int)
  | 0 => rfl
  | k + 1 => by rw [named_mk, ← pre_named l k]; rfl
theorem sum_any (l : List Int) (u : World) : Calls Try.prog 22 #[.agg (rowM l)] u fun e v => e = .returned (.int .i64 ((named l 7 : Nat) : Int)) ∧ Below u.heap.size u v := by
  have h := sum7 (mk l) u (mk_le l)
  rw [pre_named] at h
  exact h
theorem quorum_no {l : List Int} {n : Int} (h : ¬ (1 ≤ n ∧ n ≤ 7)) : quorum l n = (false, 2) := by
  unfold quorum
  rw [if_neg (fun hh => h ((size_iff n).1 hh))]
theorem quorum_out {l : List Int} {n : Int} (h : 1 ≤ n ∧ n ≤ 7) (j : Nat) (hj : j < l.length) (hx : ¬ (0 ≤ l[j] ∧ l[j] < n)) : quorum l n = (false, 2) := by
  unfold quorum
  rw [if_pos ((size_iff n).2 h), if_neg]
  intro hh
  unfold allIn at hh
  rw [List.all_eq_true] at hh
  exact hx (of_decide_eq_true (hh _ (List.getElem_mem hj)))
theorem quorum_in {l : List Int} {n : Nat} (h : 1 ≤ n ∧ n ≤ 7) (hx : ∀ x ∈ l, 0 ≤ x ∧ x < (n : Int)) : quorum l n = (decide ((n : Int) / 2 + 1 ≤ ((named l 7 : Nat) : Int)), 0) := by
  have h' : 1 ≤ (n : Int) ∧ (n : Int) ≤ 7 := by omega
  unfold quorum
  rw [if_pos ((size_iff _).2 h'), if_pos]
  · rw [Int.toNat_natCast]
    have e := named_past l n (fun x hm => (hx x hm).2) (7 - n)
    rw [show n + (7 - n) = 7 by omega] at e
    rw [e]
    refine congrArg (fun b => (b, 0)) (decide_eq_decide.2 ?_)
    omega
  · unfold allIn
    rw [List.all_eq_true]
    exact fun x hm => decide_eq_true (hx x hm)
theorem take_in {l : List Int} {n : Int} {j : Nat} (hj : j < l.length) (h : ∀ x ∈ l.take j, 0 ≤ x ∧ x < n) (hx : 0 ≤ l[j] ∧ l[j] < n) : ∀ x ∈ l.take (j + 1), 0 ≤ x ∧ x < n := by
  intro x hm
  rw [List.take_succ_eq_append_getElem hj, List.mem_append, List.mem_singleton] at hm
  rcases hm with hm | hm
  · exact h x hm
  · rw [hm]; exact hx
end Go.Proofs.Ytmpabcojdkpiaaa
