/- Plain facts on numbers as bytes. -/
namespace Go.Proofs.Ytodndkmpjpiidaa

/-- The bytes of a number (f: how many groups there may be). -/
def encF : Nat → Nat → List Nat
  | 0, x => [x]
  | f + 1, x => if x < 128 then [x] else (x % 128 + 128) :: encF f (x / 128)
def enc (x : Nat) : List Nat := encF 10 x
/-- The number at the front, from group i on, acc: what is read so far; and how many bytes it has; (0, 0): there is none. -/
def rdF : List Nat → Nat → Nat → Nat × Nat
  | [], _, _ => (0, 0)
  | c :: r, i, acc =>
    if 10 ≤ i then (0, 0)
    else if i = 9 ∧ 1 < c then (0, 0)
    else if c < 128 then (if c = 0 ∧ 0 < i then (0, 0) else (acc + c % 128 * 128 ^ i, i + 1))
    else rdF r (i + 1) (acc + c % 128 * 128 ^ i)
def rd (l : List Nat) : Nat × Nat := rdF l 0 0

theorem pow128 (i : Nat) : 128 ^ (i + 1) = 128 * 128 ^ i := by rw [Nat.pow_succ, Nat.mul_comm]
theorem pow9 : 128 ^ 9 = 9223372036854775808 := rfl
theorem encF_lt : ∀ f x, x < 128 ^ f → ∀ c ∈ encF f x, c < 256
  | 0, x, h, c, hc => by simp [encF] at hc; simp at h; omega
  | f + 1, x, h, c, hc => by
    unfold encF at hc
    split at hc
    · simp at hc; omega
    · rcases List.mem_cons.1 hc with rfl | hc
      · omega
      · exact encF_lt f (x / 128) (by rw [pow128] at h; omega) c hc
theorem encF_length : ∀ f x, (encF f x).length ≤ f + 1
  | 0, _ => by simp [encF]
  | f + 1, x => by
    unfold encF
    split
    · simp
    · have := encF_length f (x / 128); simp; omega
theorem encF_pos : ∀ f x, 0 < (encF f x).length
  | 0, _ => by simp [encF]
  | f + 1, x => by unfold encF; split <;> simp

/-- What was written is read as itself. -/
theorem rd_encF : ∀ f x i acc t, x < 128 ^ f → x * 128 ^ i < 18446744073709551616 → (0 < i → 0 < x) → i + f ≤ 10 → i < 10 →
    rdF (encF f x ++ t) i acc = (acc + x * 128 ^ i, i + (encF f x).length)
  | 0, x, i, acc, t, hx, _, hi, _, h10 => by
    have hx0 : x = 0 := by simpa using hx
    subst hx0
    have hi0 : i = 0 := by omega
    subst hi0
    simp [encF, rdF]
  | f + 1, x, i, acc, t, hx, hb, hi, hf, h10 => by
    by_cases hs : x < 128
    · have e : encF (f + 1) x = [x] := by unfold encF; rw [if_pos hs]
      rw [e]
      show rdF (x :: t) i acc = _
      have h9 : ¬ (i = 9 ∧ 1 < x) := by
        rintro ⟨rfl, h⟩
        rw [pow9] at hb; omega
      have h0 : ¬ (x = 0 ∧ 0 < i) := fun h => by have := hi h.2; omega
      unfold rdF
      rw [if_neg (by omega), if_neg h9, if_pos hs, if_neg h0, Nat.mod_eq_of_lt hs]
      rfl
    · have e : encF (f + 1) x = (x % 128 + 128) :: encF f (x / 128) := by
        conv => lhs; unfold encF
        rw [if_neg hs]
      rw [e]
      show rdF ((x % 128 + 128) :: (encF f (x / 128) ++ t)) i acc = _
      have h9 : ¬ i = 9 := by
        rintro rfl
        rw [pow9] at hb; omega
      have hm : (x % 128 + 128) % 128 = x % 128 := by omega
      have hp : 128 * (x / 128) + x % 128 = x := Nat.div_add_mod x 128
      have hb2 : x / 128 * 128 ^ (i + 1) + x % 128 * 128 ^ i = x * 128 ^ i := by
        rw [pow128, ← Nat.mul_assoc, ← Nat.add_mul, Nat.mul_comm (x / 128) 128, hp]
      unfold rdF
      rw [if_neg (by omega), if_neg (fun h => h9 h.1), if_neg (by omega), hm]
      rw [rd_encF f (x / 128) (i + 1) _ t (by rw [pow128] at hx; omega) (by omega) (by omega) (by omega) (by omega)]
      simp only [List.length_cons, Prod.mk.injEq]
      omega
theorem rd_enc (x : Nat) (t : List Nat) (hx : x < 18446744073709551616) : rd (enc x ++ t) = (x, (enc x).length) := by
  have h := rd_encF 10 x 0 0 t (by omega) (by simpa using hx) (by omega) (by omega) (by omega)
  simpa [rd, enc] using h

/-- Bytes that are read are written as themselves. -/
theorem enc_rdF : ∀ l i acc v n, (∀ c ∈ l, c < 256) → rdF l i acc = (v, n) → n ≠ 0 →
    ∃ x, v = acc + x * 128 ^ i ∧ i < n ∧ n ≤ 10 ∧ n - i ≤ l.length ∧ encF (10 - i) x = l.take (n - i) ∧ x * 128 ^ i < 18446744073709551616 ∧ (0 < i → 0 < x)
  | [], i, acc, v, n, _, h, hn => by
    simp [rdF] at h
    omega
  | c :: r, i, acc, v, n, hc, h, hn => by
    have hc0 : c < 256 := hc c (by simp)
    unfold rdF at h
    by_cases h10 : 10 ≤ i
    · rw [if_pos h10] at h
      simp at h; omega
    · rw [if_neg h10] at h
      have hpi : 128 ^ i ≤ 128 ^ 9 := Nat.pow_le_pow_right (by decide) (by omega)
      by_cases h9 : i = 9 ∧ 1 < c
      · rw [if_pos h9] at h
        simp at h; omega
      · rw [if_neg h9] at h
        by_cases hs : c < 128
        · rw [if_pos hs] at h
          by_cases h0 : c = 0 ∧ 0 < i
          · rw [if_pos h0] at h
            simp at h; omega
          · rw [if_neg h0] at h
            simp only [Prod.mk.injEq] at h
            obtain ⟨rfl, rfl⟩ := h
            refine ⟨c, by rw [Nat.mod_eq_of_lt hs], by omega, by omega, by simp, ?_, ?_, by omega⟩
            · rw [show i + 1 - i = 1 from by omega, show 10 - i = (9 - i) + 1 from by omega]
              unfold encF
              rw [if_pos hs]
              rfl
            · by_cases e9 : i = 9
              · subst e9
                have : c ≤ 1 := by omega
                rw [pow9]; omega
              · have hp8 : 128 ^ i ≤ 128 ^ 8 := Nat.pow_le_pow_right (by decide) (by omega)
                have : c * 128 ^ i ≤ 127 * 128 ^ 8 := Nat.mul_le_mul (by omega) hp8
                have h8 : 127 * 128 ^ 8 < 18446744073709551616 := by decide
                omega
        · rw [if_neg hs] at h
          have h9' : i ≠ 9 := fun e => h9 ⟨e, by omega⟩
          obtain ⟨x, hv, hin, hn10, hlen, henc, hb, hx⟩ := enc_rdF r (i + 1) _ v n (fun c h => hc c (by simp [h])) h hn
          have hx0 := hx (by omega)
          refine ⟨c % 128 + 128 * x, ?_, by omega, hn10, by simp; omega, ?_, ?_, by omega⟩
          · rw [hv, pow128, Nat.add_mul]
            have e : x * (128 * 128 ^ i) = 128 * x * 128 ^ i := by rw [← Nat.mul_assoc, Nat.mul_comm x 128]
            omega
          · rw [show 10 - i = (10 - (i + 1)) + 1 from by omega, show n - i = (n - (i + 1)) + 1 from by omega]
            conv => lhs; unfold encF
            rw [if_neg (by omega), List.take_succ_cons, ← henc]
            congr 1
            · omega
            · congr 1; omega
          · rw [Nat.add_mul]
            have e : 128 * x * 128 ^ i = x * 128 ^ (i + 1) := by rw [pow128, ← Nat.mul_assoc, Nat.mul_comm x 128]
            rw [e]
            have hd : x * 128 ^ (i + 1) ≤ 18446744073709551616 - 128 ^ (i + 1) := by
              -- both are multiples of 128 ^ (i + 1), which divides 2 ^ 64
              have hdvd : 128 ^ (i + 1) ∣ 18446744073709551616 := by
                have : (18446744073709551616 : Nat) = 2 * 128 ^ 9 := by decide
                rw [this]
                exact Nat.dvd_trans (Nat.pow_dvd_pow 128 (by omega)) (Nat.dvd_mul_left _ _)
              obtain ⟨k, hk⟩ := hdvd
              rw [hk] at hb ⊢
              have hlt : x < k := by
                rw [Nat.mul_comm] at hb
                exact Nat.lt_of_mul_lt_mul_left hb
              have : 128 ^ (i + 1) * k - 128 ^ (i + 1) = 128 ^ (i + 1) * (k - 1) := by rw [Nat.mul_sub, Nat.mul_one]
              rw [this, Nat.mul_comm]
              exact Nat.mul_le_mul_left _ (by omega)
            have hm : c % 128 * 128 ^ i < 128 ^ (i + 1) := by
              rw [pow128]
              exact Nat.mul_lt_mul_of_pos_right (Nat.mod_lt _ (by decide)) (Nat.pow_pos (by decide))
            have hle : 128 ^ (i + 1) ≤ 18446744073709551616 := by
              have := Nat.pow_le_pow_right (n := 128) (by decide) (show i + 1 ≤ 9 by omega)
              rw [pow9] at this; omega
            omega
theorem enc_rd (l : List Nat) (v n : Nat) (hc : ∀ c ∈ l, c < 256) (h : rd l = (v, n)) (hn : n ≠ 0) : enc v = l.take n ∧ n ≤ l.length ∧ v < 18446744073709551616 := by
  obtain ⟨x, hv, _, _, hlen, henc, hb, _⟩ := enc_rdF l 0 0 v n hc h hn
  have e : v = x := by simpa using hv
  subst e
  refine ⟨by unfold enc; simpa using henc, by simpa using hlen, by simpa using hb⟩
end Go.Proofs.Ytodndkmpjpiidaa
