/- What a crash leaves, plain: byte by byte; all writes; none. -/
import Derived.Test.YtiebhdgpnloieaaDoorPlain
namespace Go.Proofs.YtiebhdgpnloieaaDoor

/-- The j-th byte of a text. -/
def byteAt (s : ByteArray) (j : Nat) : Option UInt8 := s.data[j]?
theorem byteAt_append_left {s t : ByteArray} {j : Nat} (h : j < s.size) : byteAt (s ++ t) j = byteAt s j := by
  unfold byteAt
  rw [ByteArray.data_append, Array.getElem?_append_left h]
theorem byteAt_append_right {s t : ByteArray} {j : Nat} (h : s.size ≤ j) : byteAt (s ++ t) j = byteAt t (j - s.size) := by
  unfold byteAt
  rw [ByteArray.data_append, Array.getElem?_append_right h]
  rfl
theorem byteAt_extract {s : ByteArray} {a b j : Nat} (hb : b ≤ s.size) (h : a + j < b) : byteAt (s.extract a b) j = byteAt s (a + j) := by
  unfold byteAt
  rw [ByteArray.data_extract, Array.getElem?_extract, if_pos (by have : s.data.size = s.size := rfl; omega)]
theorem torn_byte {old new : ByteArray} {p : Int} {j : Nat} (ho : old.size = 256) (hn : new.size = 256) (hj : j < 256) : byteAt (torn old new p) j = byteAt old j ∨ byteAt (torn old new p) j = byteAt new j := by
  unfold torn
  have hc : (max (min p 256) 0).toNat ≤ 256 := by omega
  generalize (max (min p 256) 0).toNat = c at *
  have hs : (new.extract 0 c).size = c := by rw [ByteArray.size_extract]; omega
  by_cases h : j < c
  · right
    rw [byteAt_append_left (by omega), byteAt_extract (by omega) (by omega), Nat.zero_add]
  · left
    rw [byteAt_append_right (by omega), hs, byteAt_extract (by omega) (by omega)]
    congr 1
    omega
theorem getD_set_same (s : List ByteArray) (b : Nat) (d : ByteArray) (h : b < s.length) : (s.set b d).getD b noText = d := by
  rw [List.getD_eq_getElem?_getD, List.getElem?_set_self h, Option.getD_some]
theorem getD_set_other (s : List ByteArray) (b m : Nat) (d : ByteArray) (h : b ≠ m) : (s.set b d).getD m noText = s.getD m noText := by
  rw [List.getD_eq_getElem?_getD, List.getElem?_set_ne h, ← List.getD_eq_getElem?_getD]
theorem crashed_at (picks : List Int) (m j : Nat) (hj : j < 256) : ∀ (l : List (Nat × ByteArray)) (i : Nat) (s : List ByteArray), (∀ t ∈ s, t.size = 256) → (∀ w ∈ l, w.1 < s.length ∧ w.2.size = 256) →
    byteAt ((crashed s picks i l).getD m noText) j = byteAt (s.getD m noText) j ∨ ∃ w ∈ l, w.1 = m ∧ byteAt ((crashed s picks i l).getD m noText) j = byteAt w.2 j
  | [], _, _, _, _ => Or.inl rfl
  | w :: l, i, s, h, hl => by
    have hw := hl w (by simp)
    have ho := getD_size h w.1 hw.1
    unfold crashed
    rcases crashed_at picks m j hj l (i + 1) (s.set w.1 (torn (s.getD w.1 noText) w.2 (picks.getD i 0))) (full_set h w.1 _ (torn_size _ _ _ ho hw.2)) (fun x hx => by rw [List.length_set]; exact hl x (List.mem_cons_of_mem _ hx)) with h1 | ⟨x, hx, h2, h3⟩
    · rw [h1]
      by_cases e : w.1 = m
      · subst e
        rw [getD_set_same _ _ _ hw.1]
        rcases torn_byte (p := picks.getD i 0) ho hw.2 hj with h4 | h4
        · exact Or.inl h4
        · exact Or.inr ⟨w, by simp, rfl, h4⟩
      · rw [getD_set_other _ _ _ _ e]
        exact Or.inl rfl
    · exact Or.inr ⟨x, List.mem_cons_of_mem _ hx, h2, h3⟩
theorem crashed_none : ∀ (l : List (Nat × ByteArray)) (i : Nat) (s : List ByteArray), (∀ t ∈ s, t.size = 256) → (∀ w ∈ l, w.1 < s.length ∧ w.2.size = 256) → crashed s [] i l = s
  | [], _, _, _, _ => rfl
  | w :: l, i, s, h, hl => by
    have hw := hl w (by simp)
    have ho := getD_size h w.1 hw.1
    unfold crashed
    have e : s.set w.1 (torn (s.getD w.1 noText) w.2 (([] : List Int).getD i 0)) = s := by
      have e1 : torn (s.getD w.1 noText) w.2 (([] : List Int).getD i 0) = s.getD w.1 noText := by
        show torn (s.getD w.1 noText) w.2 0 = _
        unfold torn
        show w.2.extract 0 0 ++ (s.getD w.1 noText).extract 0 _ = _
        apply ByteArray.ext
        rw [ByteArray.data_append, ByteArray.data_extract, ByteArray.data_extract]
        simp
      rw [e1, List.getD_eq_getElem?_getD, List.getElem?_eq_getElem hw.1, Option.getD_some, List.set_getElem_self]
    rw [e]
    exact crashed_none l (i + 1) s h (fun x hx => hl x (List.mem_cons_of_mem _ hx))
theorem crashed_all (picks : List Int) : ∀ (l : List (Nat × ByteArray)) (i : Nat) (s : List ByteArray), (∀ t ∈ s, t.size = 256) → (∀ w ∈ l, w.1 < s.length ∧ w.2.size = 256) → (∀ j, j < l.length → picks.getD (i + j) 0 = 256) → crashed s picks i l = laid s l
  | [], _, _, _, _, _ => rfl
  | w :: l, i, s, h, hl, hp => by
    have hw := hl w (by simp)
    have ho := getD_size h w.1 hw.1
    unfold crashed laid
    have e : torn (s.getD w.1 noText) w.2 (picks.getD i 0) = w.2 := by
      rw [show picks.getD i 0 = 256 from hp 0 (by simp)]
      unfold torn
      show w.2.extract 0 256 ++ (s.getD w.1 noText).extract 256 _ = _
      rw [ho]
      apply ByteArray.ext
      have h2 : w.2.data.size = 256 := hw.2
      rw [ByteArray.data_append, ByteArray.data_extract, ByteArray.data_extract, ← h2, Array.extract_size]
      rw [Array.extract_empty_of_stop_le_start (Nat.le_refl _), Array.append_empty]
    rw [e]
    exact crashed_all picks l (i + 1) _ (full_set h w.1 _ hw.2) (fun x hx => by rw [List.length_set]; exact hl x (List.mem_cons_of_mem _ hx)) (fun j hj => by
      have := hp (j + 1) (by simpa using hj)
      rw [show i + 1 + j = i + (j + 1) from by omega]; exact this)
theorem joined_byte : ∀ (l : List ByteArray) (s : ByteArray) (k : Nat), (∀ t ∈ l, t.size = 256) → k < 256 * l.length → byteAt (l.foldl (fun s t => s ++ t) s) (s.size + k) = byteAt (l.getD (k / 256) noText) (k % 256)
  | [], _, k, _, hk => absurd hk (by simp)
  | t :: l, s, k, h, hk => by
    rw [List.foldl_cons]
    have ht := h t (by simp)
    by_cases h1 : k < 256
    · rw [Nat.div_eq_of_lt h1, Nat.mod_eq_of_lt h1]
      have : ∀ (l : List ByteArray) (u : ByteArray) (i : Nat), i < u.size → byteAt (l.foldl (fun s t => s ++ t) u) i = byteAt u i := by
        intro l
        induction l with
        | nil => intro u i _; rfl
        | cons t l ih => intro u i hi; rw [List.foldl_cons, ih _ _ (by rw [ByteArray.size_append]; omega), byteAt_append_left hi]
      rw [this l (s ++ t) (s.size + k) (by rw [ByteArray.size_append]; omega), byteAt_append_right (by omega)]
      show _ = byteAt t k
      congr 1
      omega
    · have ih := joined_byte l (s ++ t) (k - 256) (fun u hu => h u (List.mem_cons_of_mem _ hu)) (by rw [List.length_cons] at hk; omega)
      rw [ByteArray.size_append, ht, show s.size + 256 + (k - 256) = s.size + k from by omega] at ih
      rw [ih, show k / 256 = (k - 256) / 256 + 1 from by omega, show k % 256 = (k - 256) % 256 from by omega]
      rfl
theorem joined_at (l : List ByteArray) (k : Nat) (h : ∀ t ∈ l, t.size = 256) (hk : k < 256 * l.length) : byteAt (joined l) k = byteAt (l.getD (k / 256) noText) (k % 256) := by
  have := joined_byte l noText k h hk
  rw [show noText.size + k = k from by show 0 + k = k; omega] at this
  exact this
end Go.Proofs.YtiebhdgpnloieaaDoor
