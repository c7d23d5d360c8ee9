/- Clocks, plainly: times, the bound, the farthest apart so far. -/
namespace Go.Proofs.Ytkphngljgfoniaa

structure Ck where
  t : List Int
  b : Int
  m : Int
def low (h : Int) (l : List Int) : Int := l.foldl min h
def high (h : Int) (l : List Int) : Int := l.foldl max h
def apart (l : List Int) : Int := high (l.headD 0) l - low (l.headD 0) l
theorem low_snoc (h x : Int) (l : List Int) : low h (l ++ [x]) = min (low h l) x := by unfold low; rw [List.foldl_append]; rfl
theorem high_snoc (h x : Int) (l : List Int) : high h (l ++ [x]) = max (high h l) x := by unfold high; rw [List.foldl_append]; rfl
theorem low_next (h : Int) (l : List Int) (k : Nat) (hk : k < l.length) : low h (l.take (k + 1)) = min (low h (l.take k)) l[k] := by
  rw [List.take_succ_eq_append_getElem hk, low_snoc]
theorem high_next (h : Int) (l : List Int) (k : Nat) (hk : k < l.length) : high h (l.take (k + 1)) = max (high h (l.take k)) l[k] := by
  rw [List.take_succ_eq_append_getElem hk, high_snoc]
theorem low_le : ∀ (l : List Int) (h : Int), low h l ≤ h ∧ ∀ x ∈ l, low h l ≤ x
  | [], h => ⟨Int.le_refl _, by simp⟩
  | y :: l, h => by
    have ih := low_le l (min h y)
    have e : low h (y :: l) = low (min h y) l := rfl
    rw [e]
    refine ⟨by have := ih.1; omega, fun x hx => ?_⟩
    rcases List.mem_cons.1 hx with rfl | hx
    · have := ih.1; omega
    · exact ih.2 x hx
theorem high_le : ∀ (l : List Int) (h : Int), h ≤ high h l ∧ ∀ x ∈ l, x ≤ high h l
  | [], h => ⟨Int.le_refl _, by simp⟩
  | y :: l, h => by
    have ih := high_le l (max h y)
    have e : high h (y :: l) = high (max h y) l := rfl
    rw [e]
    refine ⟨by have := ih.1; omega, fun x hx => ?_⟩
    rcases List.mem_cons.1 hx with rfl | hx
    · have := ih.1; omega
    · exact ih.2 x hx
/-- The least is one of them. -/
theorem low_mem : ∀ (l : List Int) (h : Int), low h l = h ∨ low h l ∈ l
  | [], h => Or.inl rfl
  | y :: l, h => by
    have ih := low_mem l (min h y)
    have e : low h (y :: l) = low (min h y) l := rfl
    rw [e]
    rcases ih with h1 | h1
    · rw [h1]
      by_cases hc : h ≤ y
      · left; omega
      · right; rw [show min h y = y from by omega]; exact List.mem_cons_self ..
    · exact Or.inr (List.mem_cons_of_mem _ h1)
theorem high_mem : ∀ (l : List Int) (h : Int), high h l = h ∨ high h l ∈ l
  | [], h => Or.inl rfl
  | y :: l, h => by
    have ih := high_mem l (max h y)
    have e : high h (y :: l) = high (max h y) l := rfl
    rw [e]
    rcases ih with h1 | h1
    · rw [h1]
      by_cases hc : y ≤ h
      · left; omega
      · right; rw [show max h y = y from by omega]; exact List.mem_cons_self ..
    · exact Or.inr (List.mem_cons_of_mem _ h1)
/-- Whatever one begins with, as long as it is above one of them. -/
theorem low_any (l : List Int) (h h' : Int) (hl : ∃ x ∈ l, x ≤ h) (hl' : ∃ x ∈ l, x ≤ h') : low h l = low h' l := by
  obtain ⟨x, hx, hxh⟩ := hl
  obtain ⟨y, hy, hyh⟩ := hl'
  have a := low_le l h
  have b := low_le l h'
  have a1 := low_mem l h
  have b1 := low_mem l h'
  have c1 : low h l ≤ low h' l := by
    rcases b1 with e | e
    · have := a.2 y hy; omega
    · exact a.2 _ e
  have c2 : low h' l ≤ low h l := by
    rcases a1 with e | e
    · have := b.2 x hx; omega
    · exact b.2 _ e
  omega
theorem high_any (l : List Int) (h h' : Int) (hl : ∃ x ∈ l, h ≤ x) (hl' : ∃ x ∈ l, h' ≤ x) : high h l = high h' l := by
  obtain ⟨x, hx, hxh⟩ := hl
  obtain ⟨y, hy, hyh⟩ := hl'
  have a := high_le l h
  have b := high_le l h'
  have a1 := high_mem l h
  have b1 := high_mem l h'
  have c1 : high h' l ≤ high h l := by
    rcases b1 with e | e
    · have := a.2 y hy; omega
    · exact a.2 _ e
  have c2 : high h l ≤ high h' l := by
    rcases a1 with e | e
    · have := b.2 x hx; omega
    · exact b.2 _ e
  omega
/-- All are times. -/
def Times (l : List Int) : Prop := ∀ x ∈ l, 0 ≤ x ∧ x ≤ 17592186044416
theorem Times.head {l : List Int} (h : Times l) : 0 ≤ l.headD 0 ∧ l.headD 0 ≤ 17592186044416 := by
  cases l with
  | nil => exact ⟨by decide, by decide⟩
  | cons x l => exact h x (List.mem_cons_self ..)
theorem Times.low {l : List Int} (h : Times l) (x : Int) (hx : 0 ≤ x ∧ x ≤ 17592186044416) : 0 ≤ low x l ∧ low x l ≤ 17592186044416 := by
  rcases low_mem l x with e | e
  · rw [e]; exact hx
  · exact h _ e
theorem Times.high {l : List Int} (h : Times l) (x : Int) (hx : 0 ≤ x ∧ x ≤ 17592186044416) : 0 ≤ high x l ∧ high x l ≤ 17592186044416 := by
  rcases high_mem l x with e | e
  · rw [e]; exact hx
  · exact h _ e
theorem Times.take {l : List Int} (h : Times l) (k : Nat) : Times (l.take k) := fun x hx => h x (List.mem_of_mem_take hx)
theorem Times.set {l : List Int} (h : Times l) (k : Nat) (x : Int) (hx : 0 ≤ x ∧ x ≤ 17592186044416) : Times (l.set k x) := fun y hy => by
  rcases List.mem_or_eq_of_mem_set hy with h1 | h1
  · exact h y h1
  · rw [h1]; exact hx
theorem Times.zero (n : Nat) : Times (List.replicate n 0) := fun x hx => by
  obtain ⟨_, rfl⟩ := List.mem_replicate.1 hx
  exact ⟨by decide, by decide⟩
theorem apart_zero (n : Nat) : apart (List.replicate n 0) = 0 := by
  have a := low_mem (List.replicate n (0 : Int)) ((List.replicate n (0 : Int)).headD 0)
  have b := high_mem (List.replicate n (0 : Int)) ((List.replicate n (0 : Int)).headD 0)
  have e : (List.replicate n (0 : Int)).headD 0 = 0 := by cases n <;> rfl
  unfold apart
  rw [e] at a b ⊢
  have a1 : low 0 (List.replicate n (0 : Int)) = 0 := by
    rcases a with a | a
    · exact a
    · exact (List.mem_replicate.1 a).2
  have b1 : high 0 (List.replicate n (0 : Int)) = 0 := by
    rcases b with b | b
    · exact b
    · exact (List.mem_replicate.1 b).2
  rw [a1, b1]; rfl
theorem apart_fit {l : List Int} (h : Times l) : 0 ≤ apart l ∧ apart l ≤ 17592186044416 := by
  unfold apart
  have a := h.low _ h.head
  have b := h.high _ h.head
  have c := low_le l (l.headD 0)
  have d := high_le l (l.headD 0)
  have := c.1
  have := d.1
  omega
/-- Clocks that are in order. -/
structure Ck.Ok (c : Ck) : Prop where
  some : 1 ≤ c.t.length
  few : c.t.length ≤ 128
  times : Times c.t
  bound : 0 ≤ c.b ∧ c.b ≤ 17592186044416
  most : apart c.t ≤ c.m
  fit : 0 ≤ c.m ∧ c.m ≤ 17592186044416
def Ck.new (n : Nat) (b : Int) : Ck := ⟨List.replicate n 0, b, 0⟩
theorem Ck.Ok.new {n : Nat} {b : Int} (h1 : 1 ≤ n) (h2 : n ≤ 128) (hb : 0 ≤ b ∧ b ≤ 17592186044416) : (Ck.new n b).Ok :=
  ⟨by unfold Ck.new; rw [List.length_replicate]; exact h1, by unfold Ck.new; rw [List.length_replicate]; exact h2, Times.zero n, hb, by unfold Ck.new; rw [apart_zero]; exact Int.le_refl _, ⟨Int.le_refl 0, by show (0 : Int) ≤ _; decide⟩⟩
/-- A clock that is there goes on. -/
def Ck.go (c : Ck) (k : Nat) (y : Int) : Ck := ⟨c.t.set k (c.t.getD k 0 + y), c.b, max c.m (apart (c.t.set k (c.t.getD k 0 + y)))⟩
def Ck.tick (c : Ck) (k y : Int) : Nat × Ck :=
  if ¬ (0 ≤ k ∧ k < (c.t.length : Int)) then (5, c)
  else if ¬ (0 ≤ y ∧ y ≤ 17592186044416) then (2, c)
  else if 17592186044416 < c.t.getD k.toNat 0 + y then (9, c)
  else (0, c.go k.toNat y)
theorem Ck.tick_none (c : Ck) (k y : Int) (h : ¬ (0 ≤ k ∧ k < (c.t.length : Int))) : c.tick k y = (5, c) := by unfold Ck.tick; rw [if_pos h]
theorem Ck.tick_arg (c : Ck) (k y : Int) (h : 0 ≤ k ∧ k < (c.t.length : Int)) (h2 : ¬ (0 ≤ y ∧ y ≤ 17592186044416)) : c.tick k y = (2, c) := by unfold Ck.tick; rw [if_neg (fun hh => hh h), if_pos h2]
theorem Ck.tick_over (c : Ck) (k : Nat) (y : Int) (h : k < c.t.length) (h2 : 0 ≤ y ∧ y ≤ 17592186044416) (h3 : 17592186044416 < c.t[k] + y) : c.tick (k : Int) y = (9, c) := by
  unfold Ck.tick
  have e : c.t.getD k 0 = c.t[k] := by rw [List.getD_eq_getElem?_getD, List.getElem?_eq_getElem h]; rfl
  rw [if_neg (fun hh => hh ⟨by omega, by omega⟩), if_neg (fun hh => hh h2), Int.toNat_natCast, e, if_pos h3]
theorem Ck.tick_go (c : Ck) (k : Nat) (y : Int) (h : k < c.t.length) (h2 : 0 ≤ y ∧ y ≤ 17592186044416) (h3 : ¬ 17592186044416 < c.t[k] + y) : c.tick (k : Int) y = (0, ⟨c.t.set k (c.t[k] + y), c.b, max c.m (apart (c.t.set k (c.t[k] + y)))⟩) := by
  unfold Ck.tick Ck.go
  have e : c.t.getD k 0 = c.t[k] := by rw [List.getD_eq_getElem?_getD, List.getElem?_eq_getElem h]; rfl
  rw [if_neg (fun hh => hh ⟨by omega, by omega⟩), if_neg (fun hh => hh h2), Int.toNat_natCast, e, if_neg h3]
theorem Ck.tick_cases {p : Nat × Ck → Prop} (c : Ck) (k y : Int) (h5 : p (5, c)) (h2 : p (2, c)) (h9 : p (9, c))
    (h0 : ∀ (j : Nat) (hj : j < c.t.length), k = (j : Int) → 0 ≤ y → y ≤ 17592186044416 → c.t[j] + y ≤ 17592186044416 → p (0, ⟨c.t.set j (c.t[j] + y), c.b, max c.m (apart (c.t.set j (c.t[j] + y)))⟩)) : p (c.tick k y) := by
  by_cases h : 0 ≤ k ∧ k < (c.t.length : Int)
  · by_cases hy : 0 ≤ y ∧ y ≤ 17592186044416
    · obtain ⟨j, rfl⟩ : ∃ j : Nat, k = (j : Int) := ⟨k.toNat, by omega⟩
      have hj : j < c.t.length := by omega
      by_cases ho : 17592186044416 < c.t[j] + y
      · rw [Ck.tick_over c j y hj hy ho]; exact h9
      · rw [Ck.tick_go c j y hj hy ho]; exact h0 j hj rfl hy.1 hy.2 (by omega)
    · rw [Ck.tick_arg c k y h hy]; exact h2
  · rw [Ck.tick_none c k y h]; exact h5
theorem Ck.Ok.go {c : Ck} (h : c.Ok) (j : Nat) (hj : j < c.t.length) (y : Int) (hy : 0 ≤ y) (hs : c.t[j] + y ≤ 17592186044416) : Ck.Ok ⟨c.t.set j (c.t[j] + y), c.b, max c.m (apart (c.t.set j (c.t[j] + y)))⟩ := by
  have h0 := h.times _ (List.getElem_mem hj)
  have ht : Times (c.t.set j (c.t[j] + y)) := h.times.set j _ (by omega)
  have ha := apart_fit ht
  have hm := h.fit
  exact ⟨by rw [List.length_set]; exact h.some, by rw [List.length_set]; exact h.few, ht, h.bound, by show apart (c.t.set j (c.t[j] + y)) ≤ max c.m (apart (c.t.set j (c.t[j] + y))); omega, by show 0 ≤ max c.m (apart (c.t.set j (c.t[j] + y))) ∧ max c.m (apart (c.t.set j (c.t[j] + y))) ≤ _; omega⟩
theorem Ck.Ok.tick {c : Ck} (h : c.Ok) (k y : Int) : (c.tick k y).2.Ok :=
  Ck.tick_cases (p := fun r => r.2.Ok) c k y h h h (fun j hj _ hy _ hs => h.go j hj y hy hs)
theorem Ck.tick_len (c : Ck) (k y : Int) : (c.tick k y).2.t.length = c.t.length :=
  Ck.tick_cases (p := fun r => r.2.t.length = c.t.length) c k y rfl rfl rfl (fun _ _ _ _ _ _ => List.length_set ..)
theorem Ck.tick_bound (c : Ck) (k y : Int) : (c.tick k y).2.b = c.b :=
  Ck.tick_cases (p := fun r => r.2.b = c.b) c k y rfl rfl rfl (fun _ _ _ _ _ _ => rfl)
/-- No clock goes back; what was the farthest apart is so still, or it is what they are apart now. -/
theorem Ck.tick_up (c : Ck) (k y : Int) (i : Nat) (hi : i < c.t.length) : c.t[i] ≤ (c.tick k y).2.t.getD i 0 :=
  Ck.tick_cases (p := fun r => c.t[i] ≤ r.2.t.getD i 0) c k y
    (by rw [List.getD_eq_getElem?_getD, List.getElem?_eq_getElem hi]; exact Int.le_refl _) (by rw [List.getD_eq_getElem?_getD, List.getElem?_eq_getElem hi]; exact Int.le_refl _) (by rw [List.getD_eq_getElem?_getD, List.getElem?_eq_getElem hi]; exact Int.le_refl _)
    (fun j _ _ hy _ _ => by
      show c.t[i] ≤ (c.t.set j (c.t[j] + y)).getD i 0
      rw [List.getD_eq_getElem?_getD, List.getElem?_eq_getElem (by rw [List.length_set]; exact hi), Option.getD_some]
      by_cases e : j = i
      · subst e; rw [List.getElem_set_self]; omega
      · rw [List.getElem_set_ne e]; exact Int.le_refl _)
theorem Ck.tick_most {c : Ck} (h : c.Ok) (k y : Int) : (c.tick k y).2.m = max c.m (apart (c.tick k y).2.t) :=
  Ck.tick_cases (p := fun r => r.2.m = max c.m (apart r.2.t)) c k y (by have := h.most; show c.m = max c.m (apart c.t); omega) (by have := h.most; show c.m = max c.m (apart c.t); omega) (by have := h.most; show c.m = max c.m (apart c.t); omega) (fun _ _ _ _ _ _ => rfl)
end Go.Proofs.Ytkphngljgfoniaa
