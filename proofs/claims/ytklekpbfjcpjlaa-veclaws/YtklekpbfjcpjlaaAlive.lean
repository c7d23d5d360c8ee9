/- What Sum does with a list of three; that the known answers are answered. -/
import Derived.Test.YtklekpbfjcpjlaaSum
import Derived.Test.YtklekpbfjcpjlaaAdd
import Derived.Test.YtklekpbfjcpjlaaMay
namespace Go.Proofs.Ytklekpbfjcpjlaa
open Go.RowKit
attribute [local go_sem ↓] eq23

/-- One of three. -/
def pick3 (a b c : Int) : Nat → Int
  | 0 => a
  | 1 => b
  | _ => c
theorem pick3_I64 {a b c : Int} (h : I64 a ∧ I64 b ∧ I64 c) : ∀ i, i < 3 → I64 (pick3 a b c i)
  | 0, _ => h.1
  | 1, _ => h.2.1
  | 2, _ => h.2.2
  | _ + 3, h => absurd h (by omega)
theorem sum3 (a b c : Int) : sumTo (pick3 a b c) 3 = a + b + c := by
  show ((0 + a) + b) + c = a + b + c; omega
theorem Sum3_any (b cap : Nat) (a0 a1 a2 b0 b1 b2 c0 c1 c2 : Int) (w : World) (hb : b < w.heap.size)
    (h0 : I64 a0 ∧ I64 b0 ∧ I64 c0) (h1 : I64 a1 ∧ I64 b1 ∧ I64 c1) (h2 : I64 a2 ∧ I64 b2 ∧ I64 c2)
    (hc : w.cell? ⟨b, 0, none⟩ = some (.int .i64 a0) ∧ w.cell? ⟨b, 1, none⟩ = some (.int .i64 a1) ∧ w.cell? ⟨b, 2, none⟩ = some (.int .i64 a2) ∧ w.cell? ⟨b, 3, none⟩ = some (.int .i64 b0) ∧ w.cell? ⟨b, 4, none⟩ = some (.int .i64 b1) ∧ w.cell? ⟨b, 5, none⟩ = some (.int .i64 b2) ∧ w.cell? ⟨b, 6, none⟩ = some (.int .i64 c0) ∧ w.cell? ⟨b, 7, none⟩ = some (.int .i64 c1) ∧ w.cell? ⟨b, 8, none⟩ = some (.int .i64 c2)) :
    Calls Try.prog 15 #[.slice (some ⟨b, 0, none⟩) 3 cap] w fun e w' => e = .returned (nv (a0 + b0 + c0) (a1 + b1 + c1) (a2 + b2 + c2)) ∧ Below w.heap.size w w' := by
  have h := Sum_some b 0 3 cap (pick3 a0 b0 c0) (pick3 a1 b1 c1) (pick3 a2 b2 c2) w (by decide) hb (pick3_I64 h0) (pick3_I64 h1) (pick3_I64 h2) ?_
  · rw [sum3, sum3, sum3] at h
    exact h
  · obtain ⟨k0, k1, k2, k3, k4, k5, k6, k7, k8⟩ := hc
    intro i hi
    have hcase : i = 0 ∨ i = 1 ∨ i = 2 := by omega
    rcases hcase with rfl | rfl | rfl
    · exact ⟨k0, k1, k2⟩
    · exact ⟨k3, k4, k5⟩
    · exact ⟨k6, k7, k8⟩

theorem I64_lit {x : Int} (h : decide (-9223372036854775808 ≤ x ∧ x ≤ 9223372036854775807) = true) : I64 x := by unfold I64; exact of_decide_eq_true h
theorem aliveA (w : World) : Calls Try.prog 8 #[.agg #[.int .i64 1, .int .i64 2, .int .i64 3], .agg #[.int .i64 4, .int .i64 5, .int .i64 6]] w fun e w' =>
    e = .returned (.tuple #[.agg #[.int .i64 5, .int .i64 7, .int .i64 9], .int .i64 0]) ∧ Below w.heap.size w w' := by
  have h := Add_any 1 2 3 4 5 6 ⟨I64_lit rfl, I64_lit rfl, I64_lit rfl, I64_lit rfl, I64_lit rfl, I64_lit rfl⟩ w
  rw [nv_ok (by decide) (by decide) (by decide)] at h
  exact h
theorem aliveB (w : World) : Calls Try.prog 8 #[.agg #[.int .i64 9223372036854775807, .int .i64 0, .int .i64 0], .agg #[.int .i64 1, .int .i64 0, .int .i64 0]] w fun e w' =>
    e = .returned (.tuple #[.agg #[.int .i64 0, .int .i64 0, .int .i64 0], .int .i64 9]) ∧ Below w.heap.size w w' := by
  have h := Add_any 9223372036854775807 0 0 1 0 0 ⟨I64_lit rfl, I64_lit rfl, I64_lit rfl, I64_lit rfl, I64_lit rfl, I64_lit rfl⟩ w
  rw [nv_no (Or.inl (by decide))] at h
  exact h
theorem aliveC (b cap : Nat) (w : World) (hb : b < w.heap.size)
    (hc : w.cell? ⟨b, 0, none⟩ = some (.int .i64 (9223372036854775807)) ∧ w.cell? ⟨b, 1, none⟩ = some (.int .i64 (0)) ∧ w.cell? ⟨b, 2, none⟩ = some (.int .i64 (0)) ∧ w.cell? ⟨b, 3, none⟩ = some (.int .i64 (1)) ∧ w.cell? ⟨b, 4, none⟩ = some (.int .i64 (0)) ∧ w.cell? ⟨b, 5, none⟩ = some (.int .i64 (0)) ∧ w.cell? ⟨b, 6, none⟩ = some (.int .i64 (-1)) ∧ w.cell? ⟨b, 7, none⟩ = some (.int .i64 (0)) ∧ w.cell? ⟨b, 8, none⟩ = some (.int .i64 (0))) :
    Calls Try.prog 15 #[.slice (some ⟨b, 0, none⟩) 3 cap] w fun e w' => e = .returned (.tuple #[.agg #[.int .i64 9223372036854775807, .int .i64 0, .int .i64 0], .int .i64 0]) ∧ Below w.heap.size w w' := by
  have h := Sum3_any b cap 9223372036854775807 0 0 1 0 0 (-1) 0 0 w hb ⟨I64_lit rfl, I64_lit rfl, I64_lit rfl⟩ ⟨I64_0, I64_0, I64_0⟩ ⟨I64_0, I64_0, I64_0⟩ hc
  rw [nv_ok (by decide) (by decide) (by decide)] at h
  exact h
theorem aliveD (w : World) : Calls Try.prog 19 #[.agg #[.int .i64 1, .int .i64 0, .int .i64 0], .agg #[.int .i64 2, .int .i64 0, .int .i64 0]] w fun e w' => e = .returned (.bool true) ∧ Below w.heap.size w w' :=
  Fits_any 1 0 0 2 0 0 ⟨I64_lit rfl, I64_0, I64_0, I64_lit rfl, I64_0, I64_0⟩ w
theorem aliveE (w : World) : Calls Try.prog 19 #[.agg #[.int .i64 3, .int .i64 0, .int .i64 0], .agg #[.int .i64 2, .int .i64 0, .int .i64 0]] w fun e w' => e = .returned (.bool false) ∧ Below w.heap.size w w' :=
  Fits_any 3 0 0 2 0 0 ⟨I64_lit rfl, I64_0, I64_0, I64_lit rfl, I64_0, I64_0⟩ w
theorem aliveF (w : World) : Calls Try.prog 17 #[.agg #[.int .i64 1, .int .i64 0, .int .i64 0]] w fun e w' => e = .returned (.bool true) ∧ Below w.heap.size w w' :=
  May_any 1 0 0 ⟨I64_lit rfl, I64_0, I64_0⟩ w
theorem aliveG (w : World) : Calls Try.prog 17 #[.agg #[.int .i64 (-1), .int .i64 0, .int .i64 0]] w fun e w' => e = .returned (.bool false) ∧ Below w.heap.size w w' :=
  May_any (-1) 0 0 ⟨I64_lit rfl, I64_0, I64_0⟩ w

set_option maxHeartbeats 1000000 in
theorem alive_any (w : World) : Calls Try.prog 14 #[] w fun e w' => e = .returned (.bool true) ∧ Below w.heap.size w w' := by
  go_enter Try.func14, Try.ntmps14
  go_wp2_with fail
  refine (aliveA _).mono ?_
  rintro e w1 ⟨rfl, hb1⟩
  have HB1 := hide hb1
  clear hb1
  go_wp2_with fail
  refine (aliveB _).mono ?_
  rintro e w2 ⟨rfl, hb2⟩
  have k0 : w2.cell? ⟨w1.heap.size, 0, none⟩ = some (.int .i64 5) := bcellA hb2 (by simp) (by simp [go_sem])
  have k1 : w2.cell? ⟨w1.heap.size, 1, none⟩ = some (.int .i64 7) := bcellA hb2 (by simp) (by simp [go_sem])
  have k2 : w2.cell? ⟨w1.heap.size, 2, none⟩ = some (.int .i64 9) := bcellA hb2 (by simp) (by simp [go_sem])
  have z2 : w1.heap.size < w2.heap.size := by have := hb2.size; simp at this; omega
  have HB2 := hide (HB1.out.trans ((grow1 w1 _).mono HB1.out.size) |>.trans (hb2.mono (by have := HB1.out.size; simp; omega)))
  clear hb2 HB1
  go_wp2_with fail
  refine (aliveC (w2.heap.size + 1) 3 _ (by simp) (by simp [go_sem])).mono ?_
  rintro e w3 ⟨rfl, hb3⟩
  have m0 : w3.cell? ⟨w1.heap.size, 0, none⟩ = some (.int .i64 5) := bcellA hb3 (by simp; omega) (by simp [go_sem, k0, z2, Nat.lt_succ_of_lt z2])
  have m1 : w3.cell? ⟨w1.heap.size, 1, none⟩ = some (.int .i64 7) := bcellA hb3 (by simp; omega) (by simp [go_sem, k1, z2, Nat.lt_succ_of_lt z2])
  have m2 : w3.cell? ⟨w1.heap.size, 2, none⟩ = some (.int .i64 9) := bcellA hb3 (by simp; omega) (by simp [go_sem, k2, z2, Nat.lt_succ_of_lt z2])
  have z3 : w1.heap.size < w3.heap.size := by have := hb3.size; simp at this; omega
  have HB3 := hide ((HB2.out.trans ((grow2 w2 _ _).mono HB2.out.size)).trans (hb3.mono (by have := HB2.out.size; simp; omega)))
  clear hb3 HB2 k0 k1 k2 z2
  go_wp2_with (first
    | (go_at_call_of 19 (Value.int .i64 1); refine (aliveD _).mono ?_; rintro e w4 ⟨rfl, hb4⟩; have HB4 := hide hb4; clear hb4)
    | (go_at_call_of 19 (Value.int .i64 3); refine (aliveE _).mono ?_; rintro e w5 ⟨rfl, hb5⟩; have HB5 := hide hb5; clear hb5)
    | (go_at_call_of 17 (Value.int .i64 1); refine (aliveF _).mono ?_; rintro e w6 ⟨rfl, hb6⟩; have HB6 := hide hb6; clear hb6)
    | (go_at_call 17; refine (aliveG _).mono ?_; rintro e w7 ⟨rfl, hb7⟩; have HB7 := hide hb7; clear hb7))
  go_ret
  have q4 := (grow1 w3 _).trans (HB4.out.mono (grow1 w3 _).size)
  have q5 := bnext q4 HB5.out
  have q6 := bnext q5 HB6.out
  have q7 := bnext q6 HB7.out
  exact ⟨rfl, bnext HB3.out q7⟩
end Go.Proofs.Ytklekpbfjcpjlaa
