/- The program's checkpoints: which slot, and why there is none. -/
import Derived.Test.YtiebhdgpnloieaaDoorKit
import Derived.Test.YtiebhdgpnloieaaDoorCa
namespace Go.Proofs.YtiebhdgpnloieaaDoor
open Go Go.RowKit Frm
set_option maxHeartbeats 400000 in
theorem slotOf_core (q : Nat) (o n h : Int) (g m : Nat) (w : World) (hw2 : wrap64 h = h) (hw3 : wrap64 ((m : Int) * h) = (m : Int) * h) (hw4 : wrap64 (o + (m : Int) * h) = o + (m : Int) * h) (hq : Int.tdiv n 2 = h) (hm : (g : Int) % 2 = (m : Int)) :
    Calls Tryd.prog 35 #[.agg #[.pointer (some ⟨q, 0, none⟩), .int .i64 o, .int .i64 n], .int .u64 (g : Int)] w fun e w' => e = .returned (.agg #[.pointer (some ⟨q, 0, none⟩), .int .i64 (o + (m : Int) * h), .int .i64 h, .int .u64 (m : Int)]) ∧ Below w.heap.size w w' := by
  go_enter Tryd.func35, Tryd.ntmps35
  go_wp2_with fail
  go_quiet (fail)
  go_wp2
  exact bodyPost_ret (v := .agg #[.pointer (some ⟨q, 0, none⟩), .int .i64 (o + (m : Int) * h), .int .i64 h, .int .u64 (m : Int)]) (by simp [results, Tryd.results35, go_sem]) rfl ⟨rfl, (((((below_drewN (two_below w _ _) _).setCell (Nat.le_succ _) _).setCell (Nat.le_succ _) _).setCell (Nat.le_succ _) _).setCell (Nat.le_succ _) _)⟩
/-- A slot, as a value. -/
def slotV (q a k g : Nat) : Value := .agg #[.pointer (some ⟨q, 0, none⟩), .int .i64 (a : Int), .int .i64 (k : Int), .int .u64 ((g % 2 : Nat) : Int)]
theorem slotOf_any (q : Nat) (o n : Int) (g : Nat) (w : World) (ho : 0 ≤ o ∧ o ≤ 4096) (hn : 0 ≤ n ∧ n ≤ 4096) :
    Calls Tryd.prog 35 #[.agg #[.pointer (some ⟨q, 0, none⟩), .int .i64 o, .int .i64 n], .int .u64 (g : Int)] w fun e w' => e = .returned (slotV q (slotAt o n g) (n.toNat / 2) g) ∧ Below w.heap.size w w' := by
  have hg2 : g % 2 < 2 := Nat.mod_lt _ (by decide)
  have e1 : (((n.toNat / 2 : Nat) : Nat) : Int) = n / 2 := by omega
  have e2 : ((slotAt o n g : Nat) : Int) = o + ((g % 2 : Nat) : Int) * (n / 2) := by
    unfold slotAt
    rcases (by omega : g % 2 = 0 ∨ g % 2 = 1) with h | h
    · rw [h]; omega
    · rw [h]; omega
  have hmul : ((g % 2 : Nat) : Int) * (n / 2) ≤ 4096 ∧ 0 ≤ ((g % 2 : Nat) : Int) * (n / 2) := by
    rcases (by omega : g % 2 = 0 ∨ g % 2 = 1) with h | h
    · rw [h]; omega
    · rw [h]; omega
  unfold slotV
  rw [e1, e2]
  exact slotOf_core q o n (n / 2) g (g % 2) w (by unfold wrap64; omega) (by unfold wrap64; omega) (by unfold wrap64; omega) (tdiv2 (by omega)) (by omega)
set_option maxHeartbeats 400000 in
/-- Why there are no such blocks. -/
theorem fault_core (q : Value) (S o n r : Int) (w : World) (c : Nat)
    (hS : ∀ u, Below w.heap.size w u → Calls Tryd.prog 41 #[q] u fun e v => e = .returned (.int .i64 S) ∧ Below u.heap.size u v)
    (hR : ∀ u, Calls Tryd.prog 7 #[.int .i64 n] u fun e v => e = .returned (.int .i64 r) ∧ v = u) (hw : wrap64 (S - n) = S - n ∨ r = 0)
    (hc : c = if S = 0 then 1 else if r = 0 ∨ o < 0 ∨ S - n < o then 2 else 0) :
    Calls Tryd.prog 33 #[.agg #[q, .int .i64 o, .int .i64 n]] w fun e w' => e = .returned (.int .i64 (c : Int)) ∧ Below w.heap.size w w' := by
  have hc0 := new_cell w #[q, .int .i64 o, .int .i64 n] 80 0 rfl
  have hc1 := new_cell w #[q, .int .i64 o, .int .i64 n] 80 1 rfl
  have hc2 := new_cell w #[q, .int .i64 o, .int .i64 n] 80 2 rfl
  have HB := hide (one_below w (.cells #[q, .int .i64 o, .int .i64 n] 80))
  have HL : Hid (w.heap.size < (w.alloc (.cells #[q, .int .i64 o, .int .i64 n] 80)).heap.size) := by simp [Hid]
  have HR := hide hR
  have HS := hide (hS _ HB.out)
  clear hS hR
  go_enter Tryd.func33, Tryd.ntmps33
  go_wp2_with fail
  generalize w.alloc (.cells #[q, .int .i64 o, .int .i64 n] 80) = W at *
  refine HS.out.mono ?_
  rintro e w1 ⟨rfl, hb1⟩
  have hd1 := (kept_cell hb1 w.heap.size 1 HL.out).trans hc1
  have hd2 := (kept_cell hb1 w.heap.size 2 HL.out).trans hc2
  have HB1 : Hid (Below w.heap.size w w1) := HB.out.trans (hb1.mono (Nat.le_of_lt HL.out))
  have HW := hide hw
  clear hb1 hc0 hc1 hc2 HB HL HS hw
  by_cases h0 : S = 0
  · rw [if_pos h0] at hc
    subst hc h0
    go_wp2
    go_ret
    exact ⟨rfl, HB1.out⟩
  · rw [if_neg h0] at hc
    by_cases hr : r = 0
    · rw [if_pos (Or.inl hr)] at hc
      subst hc hr
      have h0b : (S == 0) = false := beq_eq_false_iff_ne.2 h0
      go_wp2_with (go_at_call 7; refine (HR.out _).mono ?_; rintro e w2 ⟨rfl, rfl⟩)
      go_ret
      exact ⟨rfl, HB1.out⟩
    · have hrb : (r == 0) = false := beq_eq_false_iff_ne.2 hr
      have hwS := HW.out.resolve_right hr
      by_cases ho : o < 0
      · rw [if_pos (Or.inr (Or.inl ho))] at hc
        subst hc
        go_wp2_with (go_at_call 7; refine (HR.out _).mono ?_; rintro e w2 ⟨rfl, rfl⟩)
        go_ret
        exact ⟨rfl, HB1.out⟩
      · by_cases hs : S - n < o
        · rw [if_pos (Or.inr (Or.inr hs))] at hc
          subst hc
          go_wp2_with (go_at_call 7; refine (HR.out _).mono ?_; rintro e w2 ⟨rfl, rfl⟩)
          go_ret
          exact ⟨rfl, HB1.out⟩
        · rw [if_neg (by omega)] at hc
          subst hc
          go_wp2_with (go_at_call 7; refine (HR.out _).mono ?_; rintro e w2 ⟨rfl, rfl⟩)
          go_ret
          exact ⟨rfl, HB1.out⟩
end Go.Proofs.YtiebhdgpnloieaaDoor
