/- Ballots, and who is enough, plainly. -/
namespace Go.Proofs.Ytmpabcojdkpiaaa

structure Bl where
  r : Nat
  n : Int
def I64 (x : Int) : Prop := -9223372036854775808 ≤ x ∧ x ≤ 9223372036854775807
def Bl.Ok (b : Bl) : Prop := b.r < 18446744073709551616 ∧ I64 b.n
def noBl : Bl := ⟨0, 0⟩
def node (n : Int) : Bool := decide (0 ≤ n ∧ n < 7)
def may (b : Bl) : Bool := decide ((0 ≤ b.n ∧ b.n < 7) ∧ b.r ≤ 281474976710656)
def above (a b : Bl) : Bool := decide (b.r < a.r ∨ a.r = b.r ∧ b.n < a.n)
def cmpB (a b : Bl) : Int := if above a b = true then 1 else if above b a = true then -1 else 0
/-- The least ballot of a node that is above another one. -/
def least (b : Bl) (n : Int) : Bl := if above ⟨max b.r 1, n⟩ b = true then ⟨max b.r 1, n⟩ else ⟨max b.r 1 + 1, n⟩
def next (b : Bl) (n : Int) : Bl × Nat := if (may b && node n) = false then (noBl, 2) else if may (least b n) = true then (least b n, 0) else (noBl, 9)
def size (n : Int) : Bool := decide (1 ≤ n ∧ n ≤ 7)
def majority (n : Int) : Nat × Nat := if size n = true then (n.toNat / 2 + 1, 0) else (0, 2)
/-- How many of the first nodes are named. -/
def named (l : List Int) : Nat → Nat
  | 0 => 0
  | i + 1 => named l i + if (i : Int) ∈ l then 1 else 0
def allIn (l : List Int) (n : Int) : Bool := l.all (fun v => decide (0 ≤ v ∧ v < n))
def quorum (l : List Int) (n : Int) : Bool × Nat := if size n = true then (if allIn l n = true then (decide (n.toNat / 2 + 1 ≤ named l n.toNat), 0) else (false, 2)) else (false, 2)
theorem may_iff (b : Bl) : may b = true ↔ (0 ≤ b.n ∧ b.n < 7) ∧ b.r ≤ 281474976710656 := by unfold may; exact decide_eq_true_iff
theorem node_iff (n : Int) : node n = true ↔ 0 ≤ n ∧ n < 7 := by unfold node; exact decide_eq_true_iff
theorem size_iff (n : Int) : size n = true ↔ 1 ≤ n ∧ n ≤ 7 := by unfold size; exact decide_eq_true_iff
theorem above_iff (a b : Bl) : above a b = true ↔ b.r < a.r ∨ a.r = b.r ∧ b.n < a.n := by unfold above; exact decide_eq_true_iff
theorem above_not (a b : Bl) : above a b = false ↔ ¬ (b.r < a.r ∨ a.r = b.r ∧ b.n < a.n) := by unfold above; exact decide_eq_false_iff_not
theorem next_ok {b : Bl} {n : Int} (h : next b n ≠ (noBl, 2)) : may b = true ∧ node n = true := by
  unfold next at h
  split at h
  · exact absurd rfl h
  · rename_i hh
    simpa using hh
def same (a b : Bl) : Bool := a.r == b.r && a.n == b.n
theorem same_iff (a b : Bl) : same a b = true ↔ a = b := by
  obtain ⟨r, n⟩ := a
  obtain ⟨s, m⟩ := b
  unfold same
  rw [Bool.and_eq_true, beq_iff_eq, beq_iff_eq, Bl.mk.injEq]
/-- Ways of Next. -/
theorem next_cases {q : Bl × Nat → Prop} (b : Bl) (n : Int) (h2 : ¬ (((0 ≤ b.n ∧ b.n < 7) ∧ b.r ≤ 281474976710656) ∧ 0 ≤ n ∧ n < 7) → q (noBl, 2)) (h9 : ((0 ≤ b.n ∧ b.n < 7) ∧ b.r ≤ 281474976710656) → (0 ≤ n ∧ n < 7) → 281474976710656 < (least b n).r → q (noBl, 9))
    (h0 : ((0 ≤ b.n ∧ b.n < 7) ∧ b.r ≤ 281474976710656) → (0 ≤ n ∧ n < 7) → (least b n).r ≤ 281474976710656 → q (least b n, 0)) : q (next b n) := by
  have hl : (least b n).n = n := by unfold least; split <;> rfl
  unfold next
  split
  · rename_i h
    refine h2 (fun hh => ?_)
    rw [(may_iff b).2 hh.1, (node_iff n).2 hh.2] at h
    cases h
  · rename_i h
    have h' : may b = true ∧ node n = true := by simpa using h
    have hb := (may_iff b).1 h'.1
    have hn := (node_iff n).1 h'.2
    split
    · rename_i hm
      exact h0 hb hn ((may_iff _).1 hm).2
    · rename_i hm
      refine h9 hb hn ?_
      rw [may_iff, hl] at hm
      omega
theorem cmpB_turn (a b : Bl) : cmpB a b = - cmpB b a := by
  unfold cmpB
  cases h1 : above a b with
  | true =>
    cases h2 : above b a with
    | true => rw [above_iff] at h1 h2; omega
    | false => simp
  | false =>
    cases h2 : above b a with
    | true => simp
    | false => simp
theorem cmpB_zero (a b : Bl) : cmpB a b = 0 ↔ a = b := by
  obtain ⟨r, n⟩ := a
  obtain ⟨s, m⟩ := b
  unfold cmpB
  rw [Bl.mk.injEq]
  cases h1 : above ⟨r, n⟩ ⟨s, m⟩ with
  | true => rw [above_iff] at h1; simp at h1 ⊢; omega
  | false =>
    cases h2 : above ⟨s, m⟩ ⟨r, n⟩ with
    | true => rw [above_iff] at h2; simp at h2 ⊢; omega
    | false => rw [above_not] at h1 h2; simp at h1 h2 ⊢; omega
theorem cmpB_one (a b : Bl) : cmpB a b = 1 ↔ above a b = true := by
  unfold cmpB
  cases h1 : above a b with
  | true => simp
  | false => cases h2 : above b a <;> simp
theorem cmpB_le (a b : Bl) : cmpB a b ≤ 0 ↔ above a b = false := by
  unfold cmpB
  cases h1 : above a b with
  | true => simp
  | false => cases h2 : above b a <;> simp
theorem cmpB_ge (a b : Bl) : 0 ≤ cmpB a b ↔ above b a = false := by
  rw [cmpB_turn, ← cmpB_le b a]; omega
theorem cmpB_i64 (a b : Bl) : -1 ≤ cmpB a b ∧ cmpB a b ≤ 1 := by
  unfold cmpB
  split
  · omega
  · split <;> omega
theorem above_trans {a b c : Bl} (h1 : above a b = false) (h2 : above b c = false) : above a c = false := by
  rw [above_not] at h1 h2 ⊢; omega
theorem above_more {a b c : Bl} (h1 : above a b = true) (h2 : above c b = false) : above a c = true := by
  rw [above_not] at h2; rw [above_iff] at h1 ⊢; omega
theorem least_n (b : Bl) (n : Int) : (least b n).n = n := by unfold least; split <;> rfl
theorem least_above (b : Bl) (n : Int) : above (least b n) b = true := by
  unfold least
  split
  · assumption
  · rename_i h
    rw [above_iff] at h ⊢
    simp at h ⊢
    omega
theorem least_round (b : Bl) (n : Int) : 1 ≤ (least b n).r ∧ (least b n).r ≤ b.r + 1 := by
  unfold least
  split
  · rename_i h
    rw [above_iff] at h
    simp at h ⊢
    omega
  · rename_i h
    rw [above_iff] at h
    simp at h ⊢
    omega
theorem least_least (b c : Bl) (n : Int) (hn : c.n = n) (hr : 1 ≤ c.r) (ha : above c b = true) : above (least b n) c = false := by
  obtain ⟨s, m⟩ := c
  simp at hn hr
  subst hn
  rw [above_iff] at ha
  rw [above_not]
  unfold least
  split
  · simp at ha ⊢
    omega
  · rename_i h
    rw [above_iff] at h
    simp at ha h ⊢
    omega
theorem named_le (l : List Int) : ∀ i, named l i ≤ i
  | 0 => Nat.le_refl _
  | i + 1 => by
    have := named_le l i
    unfold named
    split <;> omega
/-- Two lists without a node in common. -/
theorem named_apart {a b : List Int} (h : ∀ x ∈ a, x ∉ b) : ∀ i, named a i + named b i ≤ i
  | 0 => Nat.le_refl _
  | i + 1 => by
    have := named_apart h i
    unfold named
    by_cases h1 : (i : Int) ∈ a
    · have h2 := h _ h1
      rw [if_pos h1, if_neg h2]
      omega
    · rw [if_neg h1]
      split <;> omega
/-- Any two quorums meet. -/
theorem quorums_meet {a b : List Int} {n : Int} (ha : quorum a n = (true, 0)) (hb : quorum b n = (true, 0)) : ∃ x, x ∈ a ∧ x ∈ b := by
  have key : ∀ l : List Int, quorum l n = (true, 0) → n.toNat / 2 + 1 ≤ named l n.toNat := fun l h => by
    unfold quorum at h
    split at h
    · split at h
      · rw [Prod.mk.injEq] at h
        exact of_decide_eq_true h.1
      · cases h
    · cases h
  have h1 := key a ha
  have h2 := key b hb
  refine Classical.byContradiction (fun hno => ?_)
  have := named_apart (a := a) (b := b) (fun x hx hb' => hno ⟨x, hx, hb'⟩) n.toNat
  omega
end Go.Proofs.Ytmpabcojdkpiaaa
