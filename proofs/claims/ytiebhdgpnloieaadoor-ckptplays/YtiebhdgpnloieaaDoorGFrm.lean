/- Plain facts on the sum of bytes (32 bits, lowest bit first): no program in sight. Plain facts on frames: what a frame is, what is read at the front of bytes, which frames bytes are; no program in sight. -/
namespace Go.Proofs.YtiebhdgpnloieaaDoor.Frm
/-- One bit: shifted down, and, if the bit that fell off was 1, exclusive or with the polynomial. -/
def stp (c : Nat) : Nat := if c % 2 = 1 then (c / 2) ^^^ 2197175160 else c / 2
/-- So many bits. -/
def stps : Nat → Nat → Nat
  | 0, c => c
  | n + 1, c => stps n (stp c)

theorem stp_lt {c : Nat} (h : c < 4294967296) : stp c < 4294967296 := by
  unfold stp
  split
  · exact Nat.xor_lt_two_pow (n := 32) (by omega) (by decide)
  · omega
theorem stps_lt : ∀ n {c : Nat}, c < 4294967296 → stps n c < 4294967296
  | 0, _, h => h
  | n + 1, _, h => stps_lt n (stp_lt h)
theorem stps_add : ∀ n m c, stps (n + m) c = stps m (stps n c)
  | 0, m, c => by rw [Nat.zero_add]; rfl
  | n + 1, m, c => by rw [Nat.succ_add]; exact stps_add n m (stp c)
theorem stps_succ (n c : Nat) : stps (n + 1) c = stp (stps n c) := by
  rw [stps_add n 1 c]; rfl

theorem xor4 (a b p : Nat) : a ^^^ b = (a ^^^ p) ^^^ (b ^^^ p) := by
  rw [Nat.xor_assoc, ← Nat.xor_assoc p b p, Nat.xor_comm p b, Nat.xor_assoc b p p, Nat.xor_self, Nat.xor_zero]
theorem xor_left (a b p : Nat) : a ^^^ b ^^^ p = (a ^^^ p) ^^^ b := by
  rw [Nat.xor_assoc, Nat.xor_comm b p, ← Nat.xor_assoc]
theorem stp_xor (a b : Nat) : stp (a ^^^ b) = stp a ^^^ stp b := by
  have hm : (a ^^^ b) % 2 = 1 ↔ ¬ ((a % 2 = 1) ↔ (b % 2 = 1)) := Nat.xor_mod_two_eq_one
  have hd : (a ^^^ b) / 2 = a / 2 ^^^ b / 2 := Nat.xor_div_two
  unfold stp
  rw [hd]
  by_cases ha : a % 2 = 1 <;> by_cases hb : b % 2 = 1
  · rw [if_neg (fun h => hm.1 h ⟨fun _ => hb, fun _ => ha⟩), if_pos ha, if_pos hb]; exact xor4 _ _ _
  · rw [if_pos (hm.2 fun h => hb (h.1 ha)), if_pos ha, if_neg hb]; exact xor_left _ _ _
  · rw [if_pos (hm.2 fun h => ha (h.2 hb)), if_neg ha, if_pos hb]; exact Nat.xor_assoc _ _ _
  · rw [if_neg (fun h => hm.1 h ⟨fun k => absurd k ha, fun k => absurd k hb⟩), if_neg ha, if_neg hb]
theorem stps_xor : ∀ n a b, stps n (a ^^^ b) = stps n a ^^^ stps n b
  | 0, _, _ => rfl
  | n + 1, a, b => by
    show stps n (stp (a ^^^ b)) = stps n (stp a) ^^^ stps n (stp b)
    rw [stp_xor, stps_xor n]
theorem stp_zero : stp 0 = 0 := rfl
theorem stps_zero : ∀ n, stps n 0 = 0
  | 0 => rfl
  | n + 1 => stps_zero n
theorem stp_ne {c : Nat} (h : c < 4294967296) (h0 : c ≠ 0) : stp c ≠ 0 := by
  unfold stp
  split
  · intro e
    have e2 : c / 2 = 2197175160 := by
      have := congrArg (· ^^^ 2197175160) e
      simpa [Nat.xor_assoc] using this
    omega
  · omega
theorem stps_ne : ∀ n {c : Nat}, c < 4294967296 → c ≠ 0 → stps n c ≠ 0
  | 0, _, _, h0 => h0
  | n + 1, _, h, h0 => stps_ne n (stp_lt h) (stp_ne h h0)

/-- One byte. -/
def upd (c b : Nat) : Nat := stps 8 (c ^^^ b)
/-- All bytes of a list. -/
def fold (c : Nat) : List Nat → Nat
  | [] => c
  | b :: l => fold (upd c b) l
theorem fold_append : ∀ l m c, fold c (l ++ m) = fold (fold c l) m
  | [], _, _ => rfl
  | b :: l, m, c => fold_append l m (upd c b)
theorem upd_lt {c b : Nat} (h : c < 4294967296) (hb : b < 256) : upd c b < 4294967296 :=
  stps_lt 8 (Nat.xor_lt_two_pow (n := 32) h (by omega))
theorem fold_lt : ∀ l {c : Nat}, c < 4294967296 → (∀ b ∈ l, b < 256) → fold c l < 4294967296
  | [], _, h, _ => h
  | b :: l, _, h, hb => fold_lt l (upd_lt h (hb b (by simp))) (fun x hx => hb x (by simp [hx]))
/-- Where it began counts for itself alone. -/
theorem fold_xor : ∀ l a z, fold (a ^^^ z) l = fold a l ^^^ stps (8 * l.length) z
  | [], _, _ => rfl
  | b :: l, a, z => by
    show fold (upd (a ^^^ z) b) l = fold (upd a b) l ^^^ stps (8 * (l.length + 1)) z
    have e : upd (a ^^^ z) b = upd a b ^^^ stps 8 z := by
      unfold upd
      rw [xor_left a z b, stps_xor]
    rw [e, fold_xor l, show 8 * (l.length + 1) = 8 + 8 * l.length from by omega, stps_add]
theorem fold_zeros (n : Nat) : ∀ c, fold c (List.replicate n 0) = stps (8 * n) c := by
  induction n with
  | zero => intro c; rfl
  | succ n ih =>
    intro c
    show fold (upd c 0) (List.replicate n 0) = _
    rw [ih, show 8 * (n + 1) = 8 + 8 * n from by omega, stps_add]
    unfold upd
    rw [Nat.xor_zero]

/-- A byte by a table: the eight lowest bits alone are looked up. -/
theorem stps_shift : ∀ n c, stps n (2 ^ n * c) = c
  | 0, c => by simp [stps]
  | n + 1, c => by
    have e : stp (2 ^ (n + 1) * c) = 2 ^ n * c := by
      unfold stp
      rw [Nat.pow_succ, Nat.mul_comm (2 ^ n) 2, Nat.mul_assoc, if_neg (by omega)]
      omega
    show stps n (stp (2 ^ (n + 1) * c)) = c
    rw [e]; exact stps_shift n c
theorem split_xor (n c : Nat) : c = (2 ^ n * (c / 2 ^ n)) ^^^ (c % 2 ^ n) := by
  apply Nat.eq_of_testBit_eq
  intro i
  rw [Nat.testBit_xor, Nat.testBit_mod_two_pow, Nat.mul_comm, Nat.testBit_mul_two_pow, Nat.testBit_div_two_pow]
  by_cases h : i < n
  · have h2 : ¬ n ≤ i := by omega
    simp [h, h2]
  · have h2 : n ≤ i := by omega
    simp [h, h2, Nat.sub_add_cancel h2]
theorem stps_table (n c : Nat) : stps n c = (c / 2 ^ n) ^^^ stps n (c % 2 ^ n) := by
  have e := congrArg (stps n) (split_xor n c)
  rw [stps_xor, stps_shift] at e
  exact e
theorem upd_table (c b : Nat) (hb : b < 256) : upd c b = (c / 256) ^^^ stps 8 ((c ^^^ b) % 256) := by
  unfold upd
  rw [stps_table 8 (c ^^^ b)]
  have e : (c ^^^ b) / 2 ^ 8 = c / 2 ^ 8 := by
    rw [Nat.xor_div_two_pow]
    rw [Nat.div_eq_of_lt (a := b) (by omega), Nat.xor_zero]
  rw [e]

/-- The bytes as one number, the first the lowest. -/
def num : List Nat → Nat
  | [] => 0
  | b :: l => b ^^^ 256 * num l
/-- What all bytes do is what that many bits do to the number of all of them. -/
theorem fold_num : ∀ l c, fold c l = stps (8 * l.length) (c ^^^ num l)
  | [], c => by show c = c ^^^ 0; rw [Nat.xor_zero]
  | b :: l, c => by
    show fold (upd c b) l = stps (8 * (l.length + 1)) (c ^^^ (b ^^^ 256 * num l))
    rw [fold_num l, show 8 * (l.length + 1) = 8 + 8 * l.length from by omega, stps_add, ← Nat.xor_assoc, stps_xor 8]
    rw [show 256 * num l = 2 ^ 8 * num l from rfl, stps_shift 8]
    rfl
theorem mul_xor (n a b : Nat) : 2 ^ n * (a ^^^ b) = 2 ^ n * a ^^^ 2 ^ n * b := by
  apply Nat.eq_of_testBit_eq
  intro i
  rw [Nat.testBit_xor, Nat.mul_comm, Nat.mul_comm _ a, Nat.mul_comm _ b, Nat.testBit_mul_two_pow, Nat.testBit_mul_two_pow, Nat.testBit_mul_two_pow, Nat.testBit_xor]
  by_cases h : n ≤ i <;> simp [h]
theorem num_set : ∀ (l : List Nat) (i y : Nat) (h : i < l.length), num (l.set i (l[i] ^^^ y)) = num l ^^^ 256 ^ i * y
  | [], _, _, h => absurd h (by simp)
  | b :: l, 0, y, _ => by
    show (b ^^^ y) ^^^ 256 * num l = (b ^^^ 256 * num l) ^^^ 256 ^ 0 * y
    rw [Nat.pow_zero, Nat.one_mul]; exact xor_left _ _ _
  | b :: l, i + 1, y, h => by
    have hi : i < l.length := by simpa using h
    have ih := num_set l i y hi
    show b ^^^ 256 * num (l.set i (l[i] ^^^ y)) = (b ^^^ 256 * num l) ^^^ 256 ^ (i + 1) * y
    rw [ih]
    have e : 256 * (num l ^^^ 256 ^ i * y) = 256 * num l ^^^ 256 * (256 ^ i * y) := by
      exact mul_xor 8 _ _
    rw [e, ← Nat.xor_assoc, Nat.pow_succ, Nat.mul_comm (256 ^ i) 256, Nat.mul_assoc]
/-- Bits that are turned, all within 32 in a row, turn the sum. -/
theorem burst (l m : List Nat) (c k bits : Nat) (hl : m.length = l.length) (hk : k ≤ 8 * l.length) (hn : num m = num l ^^^ 2 ^ k * bits) (hb : bits < 4294967296) (h0 : bits ≠ 0) : fold c m ≠ fold c l := by
  rw [fold_num, fold_num, hl, hn, ← Nat.xor_assoc, stps_xor]
  intro e
  have e2 : stps (8 * l.length) (2 ^ k * bits) = 0 := by
    have := congrArg (stps (8 * l.length) (c ^^^ num l) ^^^ ·) e
    simpa [← Nat.xor_assoc] using this
  rw [show 8 * l.length = k + (8 * l.length - k) from by omega, stps_add, stps_shift] at e2
  exact stps_ne _ hb h0 e2
/-- One bit more of what is turned. -/
theorem bits_succ (b j : Nat) : b % 2 ^ (j + 1) = b % 2 ^ j ^^^ 2 ^ j * (b / 2 ^ j % 2) := by
  apply Nat.eq_of_testBit_eq
  intro i
  rw [Nat.testBit_xor, Nat.testBit_mod_two_pow, Nat.testBit_mod_two_pow, Nat.mul_comm, Nat.testBit_mul_two_pow]
  by_cases h : i < j
  · have h2 : ¬ j ≤ i := by omega
    have h3 : i < j + 1 := by omega
    simp [h, h2, h3]
  · by_cases e : i = j
    · subst e
      have h4 : (b / 2 ^ i % 2).testBit 0 = b.testBit i := by
        rw [Nat.testBit_zero, Nat.testBit_eq_decide_div_mod_eq, Nat.mod_mod]
      simp [h4]
    · have h2 : j ≤ i := by omega
      have h3 : ¬ i < j + 1 := by omega
      have h5 : (b / 2 ^ j % 2).testBit (i - j) = false := by
        apply Nat.testBit_lt_two_pow
        have h6 : b / 2 ^ j % 2 < 2 := Nat.mod_lt _ (by decide)
        have h7 : 2 ^ 1 ≤ 2 ^ (i - j) := Nat.pow_le_pow_right (by decide) (by omega)
        omega
      simp [h, h2, h3, h5]
theorem pow_at (k : Nat) : 256 ^ (k / 8) * 2 ^ (k % 8) = 2 ^ k := by
  rw [show (256 : Nat) = 2 ^ 8 from rfl, ← Nat.pow_mul, ← Nat.pow_add]
  congr 1; omega

/-- All 32 bits turned. -/
def cpl (c : Nat) : Nat := c ^^^ 4294967295
theorem cpl_cpl (c : Nat) : cpl (cpl c) = c := by unfold cpl; rw [Nat.xor_assoc, Nat.xor_self, Nat.xor_zero]
theorem cpl_lt {c : Nat} (h : c < 4294967296) : cpl c < 4294967296 := Nat.xor_lt_two_pow (n := 32) h (by decide)
/-- The sum that goes on. -/
def more (from_ : Nat) (l : List Nat) : Nat := cpl (fold (cpl from_) l)
theorem more_append (f : Nat) (l m : List Nat) : more (more f l) m = more f (l ++ m) := by
  unfold more; rw [cpl_cpl, fold_append]
theorem more_nil (f : Nat) : more f [] = f := cpl_cpl f
/-- Two sums, joined. -/
def join (a b n : Nat) : Nat := cpl (stps (8 * n) (cpl a)) ^^^ b ^^^ cpl (stps (8 * n) (cpl 0))
theorem join_more (a : Nat) (l : List Nat) : join a (more 0 l) l.length = more a l := by
  unfold join more
  have e : fold (cpl a) l = fold (cpl 0) l ^^^ (stps (8 * l.length) (cpl 0) ^^^ stps (8 * l.length) (cpl a)) := by
    rw [← stps_xor, ← fold_xor]
    congr 1
    rw [← Nat.xor_assoc, Nat.xor_self, Nat.zero_xor]
  rw [e]
  generalize fold (cpl 0) l = F
  generalize stps (8 * l.length) (cpl a) = A
  generalize stps (8 * l.length) (cpl 0) = Z
  unfold cpl
  generalize 4294967295 = K
  apply Nat.eq_of_testBit_eq
  intro i
  simp only [Nat.testBit_xor]
  cases F.testBit i <;> cases A.testBit i <;> cases Z.testBit i <;> cases K.testBit i <;> rfl

/-- A sum of numbers that have no bit in common. -/
theorem add_xor (m k : Nat) : 2 ^ (m + 1) * k + 2 ^ m = (2 ^ (m + 1) * k) ^^^ 2 ^ m := by
  have hp : 2 ^ m < 2 ^ (m + 1) := Nat.pow_lt_pow_right (by decide) (by omega)
  have h := split_xor (m + 1) (2 ^ (m + 1) * k + 2 ^ m)
  rw [Nat.mul_add_div (by omega), Nat.div_eq_of_lt hp, Nat.add_zero, Nat.mul_add_mod, Nat.mod_eq_of_lt hp] at h
  exact h
/-- One single bit of a byte. -/
theorem single_bit (j : Nat) (hj : j < 8) : stps 8 (2 ^ (7 - j)) = stps (j + 1) 1 := by
  have h := stps_add (7 - j) (j + 1) (2 ^ (7 - j))
  rw [show (7 - j) + (j + 1) = 8 from by omega] at h
  have h2 := stps_shift (7 - j) 1
  rw [Nat.mul_one] at h2
  rw [h, h2]
/-- The table when the bits down to j, and k rows of bit j, are laid. -/
def lay (j k i : Nat) : Nat := if i % 2 ^ (8 - j) = 0 ∨ (i % 2 ^ (7 - j) = 0 ∧ i < k * 2 ^ (8 - j)) then stps 8 i else 0
theorem lay_start (i : Nat) (hi : i < 256) : lay 0 0 i = 0 := by
  unfold lay
  split
  · have : i = 0 := by simp at *; omega
    subst this; rfl
  · rfl
theorem lay_end (i : Nat) : lay 8 0 i = stps 8 i := by
  unfold lay; rw [if_pos (Or.inl (by simp; omega))]
theorem lay_next (j i : Nat) (hj : j < 8) (hi : i < 256) : lay j (2 ^ j) i = lay (j + 1) 0 i := by
  have hc : j = 0 ∨ j = 1 ∨ j = 2 ∨ j = 3 ∨ j = 4 ∨ j = 5 ∨ j = 6 ∨ j = 7 := by omega
  unfold lay
  rcases hc with rfl | rfl | rfl | rfl | rfl | rfl | rfl | rfl <;> (simp only [Nat.reducePow, Nat.reduceSub, Nat.reduceAdd, Nat.reduceMul]; split <;> split <;> first | rfl | (exfalso; omega))
theorem lay_at (j k : Nat) : lay j k (k * 2 ^ (8 - j)) = stps 8 (k * 2 ^ (8 - j)) := by
  unfold lay; rw [if_pos (Or.inl (Nat.mul_mod_left _ _))]
theorem lay_new (j k : Nat) (hj : j < 8) : lay j k (k * 2 ^ (8 - j)) ^^^ stps (j + 1) 1 = stps 8 (k * 2 ^ (8 - j) + 2 ^ (7 - j)) := by
  rw [lay_at j k, ← single_bit j hj, ← stps_xor, show 8 - j = (7 - j) + 1 from by omega, Nat.mul_comm, ← add_xor]
theorem lay_if {p q : Prop} [Decidable p] [Decidable q] (x : Nat) (h : p ↔ q) : (if p then x else 0) = if q then x else 0 := by
  by_cases hp : p
  · rw [if_pos hp, if_pos (h.1 hp)]
  · rw [if_neg hp, if_neg (fun k => hp (h.2 k))]
theorem lay_succ (j k i : Nat) (hj : j < 8) : lay j (k + 1) i = if i = k * 2 ^ (8 - j) + 2 ^ (7 - j) then stps 8 (k * 2 ^ (8 - j) + 2 ^ (7 - j)) else lay j k i := by
  have hc : j = 0 ∨ j = 1 ∨ j = 2 ∨ j = 3 ∨ j = 4 ∨ j = 5 ∨ j = 6 ∨ j = 7 := by omega
  by_cases e : i = k * 2 ^ (8 - j) + 2 ^ (7 - j)
  · rw [if_pos e, ← e]
    unfold lay
    refine if_pos (Or.inr ?_)
    rcases hc with rfl | rfl | rfl | rfl | rfl | rfl | rfl | rfl <;> (simp only [Nat.reducePow, Nat.reduceSub] at *; omega)
  · rw [if_neg e]
    unfold lay
    refine lay_if _ ?_
    rcases hc with rfl | rfl | rfl | rfl | rfl | rfl | rfl | rfl <;> (simp only [Nat.reducePow, Nat.reduceSub] at *; omega)
theorem lay_in (j k : Nat) (hj : j < 8) (hk : k < 2 ^ j) : k * 2 ^ (8 - j) + 2 ^ (7 - j) < 256 := by
  have hc : j = 0 ∨ j = 1 ∨ j = 2 ∨ j = 3 ∨ j = 4 ∨ j = 5 ∨ j = 6 ∨ j = 7 := by omega
  rcases hc with rfl | rfl | rfl | rfl | rfl | rfl | rfl | rfl <;> (simp only [Nat.reducePow, Nat.reduceSub] at *; omega)
theorem lay_more (j k : Nat) (hj : j < 8) : k * 2 ^ (8 - j) < 256 ↔ k < 2 ^ j := by
  have hc : j = 0 ∨ j = 1 ∨ j = 2 ∨ j = 3 ∨ j = 4 ∨ j = 5 ∨ j = 6 ∨ j = 7 := by omega
  rcases hc with rfl | rfl | rfl | rfl | rfl | rfl | rfl | rfl <;> (simp only [Nat.reducePow, Nat.reduceSub] at *; omega)
theorem lay_lt (j k i : Nat) (hi : i < 256) : lay j k i < 4294967296 := by
  unfold lay; split
  · exact stps_lt 8 (by omega)
  · decide

/-- A byte by the table, as the program says it. -/
theorem upd_by (c b : Nat) (hb : b < 256) : stps 8 (c % 256 ^^^ b) ^^^ c / 256 = upd c b := by
  have e : (c ^^^ b) % 256 = c % 256 ^^^ b := by
    have h := Nat.xor_mod_two_pow (a := c) (b := b) (n := 8)
    rw [show (2 : Nat) ^ 8 = 256 from rfl, Nat.mod_eq_of_lt hb] at h
    exact h
  rw [upd_table c b hb, e, Nat.xor_comm]
end Go.Proofs.YtiebhdgpnloieaaDoor.Frm
namespace Go.Proofs.YtiebhdgpnloieaaDoor.Frm
/-- The bytes of a text as numbers. -/
def bytesOf (s : ByteArray) : List Nat := s.data.toList.map UInt8.toNat
theorem bytesOf_lt (s : ByteArray) : ∀ b ∈ bytesOf s, b < 256 := by
  intro b hb
  obtain ⟨x, _, rfl⟩ := List.mem_map.1 hb
  exact x.toNat_lt
theorem bytesOf_length (s : ByteArray) : (bytesOf s).length = s.size := by unfold bytesOf; simp
theorem bytesOf_append (s t : ByteArray) : bytesOf (s ++ t) = bytesOf s ++ bytesOf t := by
  unfold bytesOf; simp
theorem bytesOf_extract (s : ByteArray) (i j : Nat) : bytesOf (s.extract i j) = ((bytesOf s).take j).drop i := by
  unfold bytesOf
  simp [List.map_take, List.map_drop]
  exact List.drop_take.symm
theorem bytesOf_inj {s t : ByteArray} (h : bytesOf s = bytesOf t) : s = t := by
  unfold bytesOf at h
  have h2 : s.data.toList = t.data.toList := (List.map_inj_right (fun a b h => UInt8.toNat_inj.1 h)).1 h
  exact ByteArray.ext (Array.toList_inj.1 h2)
theorem more_lt {c : Nat} (hc : c < 4294967296) (s : ByteArray) : more c (bytesOf s) < 4294967296 := cpl_lt (fold_lt _ (cpl_lt hc) (bytesOf_lt s))

/-- The number of the first four bytes, the lowest first. -/
def num4 (l : List Nat) : Nat := l.getD 0 0 + 256 * l.getD 1 0 + 65536 * l.getD 2 0 + 16777216 * l.getD 3 0
/-- A number as four bytes. -/
def four (x : Nat) : List Nat := [x % 256, x / 256 % 256, x / 65536 % 256, x / 16777216 % 256]
def textOf (l : List Nat) : ByteArray := ⟨(l.map UInt8.ofNat).toArray⟩
theorem bytesOf_textOf (l : List Nat) (h : ∀ c ∈ l, c < 256) : bytesOf (textOf l) = l := by
  unfold bytesOf textOf
  simp only [List.map_map]
  have e : ∀ c ∈ l, (UInt8.toNat ∘ UInt8.ofNat) c = c := fun c hc => by
    show (UInt8.ofNat c).toNat = c
    rw [UInt8.toNat_ofNat', Nat.mod_eq_of_lt (h c hc)]
  rw [List.map_congr_left e, List.map_id']
theorem four_lt (x : Nat) : ∀ c ∈ four x, c < 256 := by
  intro c hc
  unfold four at hc
  simp at hc
  omega
theorem num4_four (x : Nat) (r : List Nat) (h : x < 4294967296) : num4 (four x ++ r) = x := by
  unfold num4 four
  simp
  omega
theorem num4_lt (l : List Nat) (h : ∀ b ∈ l, b < 256) : num4 l < 4294967296 := by
  have g : ∀ i, l.getD i 0 < 256 := fun i => by
    rw [List.getD_eq_getElem?_getD]
    by_cases hi : i < l.length
    · rw [List.getElem?_eq_getElem hi]; exact h _ (List.getElem_mem hi)
    · rw [List.getElem?_eq_none (by omega)]; decide
  have g0 := g 0; have g1 := g 1; have g2 := g 2; have g3 := g 3
  unfold num4
  omega
theorem num4_take (l : List Nat) (m : Nat) (h : 4 ≤ m) : num4 (l.take m) = num4 l := by
  unfold num4
  simp only [List.getD_eq_getElem?_getD, List.getElem?_take]
  rw [if_pos (by omega), if_pos (by omega), if_pos (by omega), if_pos (by omega)]
def w4 (x : Nat) : ByteArray := textOf (four x)
theorem w4_bytes (x : Nat) : bytesOf (w4 x) = four x := bytesOf_textOf _ (four_lt x)
theorem w4_size (x : Nat) : (w4 x).size = 4 := rfl

/-- A text's frame. -/
def frm (s : ByteArray) : ByteArray := (w4 s.size ++ s) ++ w4 (more 0 (bytesOf (w4 s.size ++ s)))
theorem frm_size (s : ByteArray) : (frm s).size = s.size + 8 := by
  unfold frm; simp only [ByteArray.size_append, w4_size]; omega
theorem frm_bytes (s : ByteArray) : bytesOf (frm s) = (four s.size ++ bytesOf s) ++ four (more 0 (four s.size ++ bytesOf s)) := by
  unfold frm; simp only [bytesOf_append, w4_bytes]

/-- What stands at the front: the text, how many bytes its frame has, the error. -/
def rdf (s : ByteArray) : ByteArray × Nat × Nat :=
  if s.size < 4 then (⟨#[]⟩, 0, 40)
  else if 65536 < num4 (bytesOf s) then (⟨#[]⟩, 0, 4)
  else if s.size < num4 (bytesOf s) + 8 then (⟨#[]⟩, 0, 40)
  else if more 0 ((bytesOf s).take (num4 (bytesOf s) + 4)) ≠ num4 ((bytesOf s).drop (num4 (bytesOf s) + 4)) then (⟨#[]⟩, 0, 41)
  else (s.extract 4 (num4 (bytesOf s) + 4), num4 (bytesOf s) + 8, 0)
theorem rdf_ok (s : ByteArray) (h : (rdf s).2.2 = 0) : 8 ≤ (rdf s).2.1 ∧ (rdf s).2.1 ≤ s.size ∧ (rdf s).2.1 ≤ 65544 := by
  unfold rdf at *
  split at h <;> rename_i h1
  · simp at h
  · split at h <;> rename_i h2
    · simp at h
    · split at h <;> rename_i h3
      · simp at h
      · split at h <;> rename_i h4
        · simp at h
        · rw [if_neg h1, if_neg h2, if_neg h3, if_neg h4]
          simp only
          omega
theorem rdf_e (s : ByteArray) : (rdf s).2.2 = 0 ∨ (rdf s).2.2 = 4 ∨ (rdf s).2.2 = 40 ∨ (rdf s).2.2 = 41 := by
  unfold rdf
  split
  · simp
  · split
    · simp
    · split
      · simp
      · split <;> simp
theorem rdf_n (s : ByteArray) : (rdf s).2.1 ≤ 65544 := by
  unfold rdf
  split
  · simp
  · split
    · simp
    · split
      · simp
      · split
        · simp
        · simp only; omega
theorem rdf_t (s : ByteArray) : (rdf s).1.size ≤ s.size := by
  unfold rdf
  split
  · exact Nat.zero_le _
  · split
    · exact Nat.zero_le _
    · split
      · exact Nat.zero_le _
      · split
        · exact Nat.zero_le _
        · simp only [ByteArray.size_extract]; omega

/-- Which frames bytes are, so many at most. -/
def scnF : Nat → ByteArray → List ByteArray × Nat × Nat
  | 0, _ => ([], 0, 0)
  | m + 1, s => if s.size = 0 then ([], 0, 0)
    else if (rdf s).2.2 = 0 then
      ((rdf s).1 :: (scnF m (s.extract (rdf s).2.1 s.size)).1, (rdf s).2.1 + (scnF m (s.extract (rdf s).2.1 s.size)).2.1, (scnF m (s.extract (rdf s).2.1 s.size)).2.2)
    else ([], 0, (rdf s).2.2)
theorem scnF_zero : ∀ (m : Nat) (s : ByteArray), s.size = 0 → scnF m s = ([], 0, 0)
  | 0, _, _ => rfl
  | m + 1, s, h => by unfold scnF; rw [if_pos h]
theorem scnF_any : ∀ (m n : Nat) (s : ByteArray), s.size ≤ m → s.size ≤ n → scnF m s = scnF n s
  | 0, n, s, hm, _ => by rw [scnF_zero n s (by omega)]; rfl
  | m + 1, 0, s, _, hn => by rw [scnF_zero (m + 1) s (by omega)]; rfl
  | m + 1, n + 1, s, hm, hn => by
    unfold scnF
    by_cases h0 : s.size = 0
    · rw [if_pos h0, if_pos h0]
    · rw [if_neg h0, if_neg h0]
      by_cases he : (rdf s).2.2 = 0
      · have hr := rdf_ok s he
        rw [if_pos he, if_pos he, scnF_any m n (s.extract (rdf s).2.1 s.size) (by rw [ByteArray.size_extract]; omega) (by rw [ByteArray.size_extract]; omega)]
      · rw [if_neg he, if_neg he]
/-- Which frames bytes are. -/
def scn (s : ByteArray) : List ByteArray × Nat × Nat := scnF s.size s
theorem scn_nil (s : ByteArray) (h : s.size = 0) : scn s = ([], 0, 0) := scnF_zero _ s h
theorem scn_err (s : ByteArray) (h : s.size ≠ 0) (he : (rdf s).2.2 ≠ 0) : scn s = ([], 0, (rdf s).2.2) := by
  obtain ⟨m, hm⟩ : ∃ m, s.size = m + 1 := ⟨s.size - 1, by omega⟩
  unfold scn
  rw [hm]
  unfold scnF
  rw [if_neg h, if_neg he]
theorem scn_ok (s : ByteArray) (h : s.size ≠ 0) (he : (rdf s).2.2 = 0) :
    scn s = ((rdf s).1 :: (scn (s.extract (rdf s).2.1 s.size)).1, (rdf s).2.1 + (scn (s.extract (rdf s).2.1 s.size)).2.1, (scn (s.extract (rdf s).2.1 s.size)).2.2) := by
  have hr := rdf_ok s he
  obtain ⟨m, hm⟩ : ∃ m, s.size = m + 1 := ⟨s.size - 1, by omega⟩
  have e : scn (s.extract (rdf s).2.1 s.size) = scnF m (s.extract (rdf s).2.1 s.size) := scnF_any _ _ _ (Nat.le_refl _) (by rw [ByteArray.size_extract]; omega)
  rw [e]
  show scnF s.size s = _
  rw [show scnF s.size s = scnF (m + 1) s from by rw [hm]]
  conv => lhs; unfold scnF
  rw [if_neg h, if_pos he]
/-- What the iterator tells: what is read, again and again, up to the first that can't be; so many at most. -/
def fndF : Nat → ByteArray → List (ByteArray × Nat × Nat)
  | 0, _ => []
  | m + 1, s => if s.size = 0 then [] else if (rdf s).2.2 = 0 then rdf s :: fndF m (s.extract (rdf s).2.1 s.size) else [rdf s]
theorem fndF_zero : ∀ (m : Nat) (s : ByteArray), s.size = 0 → fndF m s = []
  | 0, _, _ => rfl
  | m + 1, s, h => by unfold fndF; rw [if_pos h]
theorem fndF_any : ∀ (m n : Nat) (s : ByteArray), s.size ≤ m → s.size ≤ n → fndF m s = fndF n s
  | 0, n, s, hm, _ => by rw [fndF_zero n s (by omega)]; rfl
  | m + 1, 0, s, _, hn => by rw [fndF_zero (m + 1) s (by omega)]; rfl
  | m + 1, n + 1, s, hm, hn => by
    unfold fndF
    by_cases h0 : s.size = 0
    · rw [if_pos h0, if_pos h0]
    · rw [if_neg h0, if_neg h0]
      by_cases he : (rdf s).2.2 = 0
      · have hr := rdf_ok s he
        rw [if_pos he, if_pos he, fndF_any m n (s.extract (rdf s).2.1 s.size) (by rw [ByteArray.size_extract]; omega) (by rw [ByteArray.size_extract]; omega)]
      · rw [if_neg he, if_neg he]
/-- What the iterator tells. -/
def fnd (s : ByteArray) : List (ByteArray × Nat × Nat) := fndF s.size s
theorem fnd_nil (s : ByteArray) (h : s.size = 0) : fnd s = [] := fndF_zero _ s h
theorem fnd_err (s : ByteArray) (h : s.size ≠ 0) (he : (rdf s).2.2 ≠ 0) : fnd s = [rdf s] := by
  obtain ⟨m, hm⟩ : ∃ m, s.size = m + 1 := ⟨s.size - 1, by omega⟩
  unfold fnd
  rw [hm]
  unfold fndF
  rw [if_neg h, if_neg he]
theorem fnd_ok (s : ByteArray) (h : s.size ≠ 0) (he : (rdf s).2.2 = 0) : fnd s = rdf s :: fnd (s.extract (rdf s).2.1 s.size) := by
  have hr := rdf_ok s he
  obtain ⟨m, hm⟩ : ∃ m, s.size = m + 1 := ⟨s.size - 1, by omega⟩
  have e : fnd (s.extract (rdf s).2.1 s.size) = fndF m (s.extract (rdf s).2.1 s.size) := fndF_any _ _ _ (Nat.le_refl _) (by rw [ByteArray.size_extract]; omega)
  rw [e]
  show fndF s.size s = _
  rw [show fndF s.size s = fndF (m + 1) s from by rw [hm]]
  conv => lhs; unfold fndF
  rw [if_neg h, if_pos he]
/-- The bytes of what came, together. -/
def sumN (l : List (ByteArray × Nat × Nat)) : Nat := (l.map fun x => x.2.1).sum
theorem sumN_snoc (l : List (ByteArray × Nat × Nat)) (x : ByteArray × Nat × Nat) : sumN (l ++ [x]) = sumN l + x.2.1 := by
  unfold sumN; simp
theorem fnd_all : ∀ (m : Nat) (s : ByteArray), s.size ≤ m → (∀ x ∈ fnd s, x.2.2 = 0) → scn s = ((fnd s).map fun x => x.1, sumN (fnd s), 0)
  | m, s, hm, h => by
    by_cases h0 : s.size = 0
    · rw [scn_nil s h0, fnd_nil s h0]; rfl
    · by_cases he : (rdf s).2.2 = 0
      · have hr := rdf_ok s he
        obtain ⟨m', rfl⟩ : ∃ m', m = m' + 1 := ⟨m - 1, by omega⟩
        rw [fnd_ok s h0 he] at h
        have ih := fnd_all m' (s.extract (rdf s).2.1 s.size) (by rw [ByteArray.size_extract]; omega) (fun x hx => h x (List.mem_cons_of_mem _ hx))
        rw [scn_ok s h0 he, fnd_ok s h0 he, ih]
        simp [sumN]
      · rw [fnd_err s h0 he] at h
        exact absurd (h _ (List.mem_singleton.2 rfl)) he
theorem fnd_stop : ∀ (pre : List (ByteArray × Nat × Nat)) (s : ByteArray) (x : ByteArray × Nat × Nat), pre ++ [x] <+: fnd s → (∀ y ∈ pre, y.2.2 = 0) → x.2.2 ≠ 0 →
    scn s = (pre.map fun x => x.1, sumN pre, x.2.2)
  | [], s, x, hp, _, hx => by
    by_cases h0 : s.size = 0
    · rw [fnd_nil s h0] at hp; simp at hp
    · by_cases he : (rdf s).2.2 = 0
      · rw [fnd_ok s h0 he] at hp
        obtain ⟨t, ht⟩ := hp
        simp at ht
        rw [ht.1] at hx
        exact absurd he hx
      · rw [fnd_err s h0 he] at hp
        obtain ⟨t, ht⟩ := hp
        simp at ht
        rw [scn_err s h0 he, ht.1]; rfl
  | y :: pre, s, x, hp, hy, hx => by
    by_cases h0 : s.size = 0
    · rw [fnd_nil s h0] at hp; simp at hp
    · by_cases he : (rdf s).2.2 = 0
      · rw [fnd_ok s h0 he] at hp
        obtain ⟨t, ht⟩ := hp
        simp at ht
        obtain ⟨e1, e2⟩ := ht
        have ih := fnd_stop pre (s.extract (rdf s).2.1 s.size) x ⟨t, by rw [← e2]; simp⟩ (fun z hz => hy z (List.mem_cons_of_mem _ hz)) hx
        rw [scn_ok s h0 he, ih, e1]
        simp [sumN]
      · rw [fnd_err s h0 he] at hp
        obtain ⟨t, ht⟩ := hp
        simp at ht
theorem fnd_length : ∀ (m : Nat) (s : ByteArray), s.size ≤ m → (fnd s).length ≤ s.size
  | m, s, hm => by
    by_cases h0 : s.size = 0
    · rw [fnd_nil s h0]; exact Nat.zero_le _
    · by_cases he : (rdf s).2.2 = 0
      · have hr := rdf_ok s he
        obtain ⟨m', rfl⟩ : ∃ m', m = m' + 1 := ⟨m - 1, by omega⟩
        have ih := fnd_length m' (s.extract (rdf s).2.1 s.size) (by rw [ByteArray.size_extract]; omega)
        rw [fnd_ok s h0 he, List.length_cons]
        rw [ByteArray.size_extract] at ih
        omega
      · rw [fnd_err s h0 he]; simp; omega
theorem scn_bound : ∀ (m : Nat) (s : ByteArray), s.size ≤ m → (scn s).2.1 ≤ s.size ∧ (scn s).1.length ≤ s.size
  | m, s, hm => by
    by_cases h0 : s.size = 0
    · rw [scn_nil s h0]; exact ⟨Nat.zero_le _, Nat.zero_le _⟩
    · by_cases he : (rdf s).2.2 = 0
      · have hr := rdf_ok s he
        obtain ⟨m', rfl⟩ : ∃ m', m = m' + 1 := ⟨m - 1, by omega⟩
        have ih := scn_bound m' (s.extract (rdf s).2.1 s.size) (by rw [ByteArray.size_extract]; omega)
        rw [ByteArray.size_extract] at ih
        rw [scn_ok s h0 he]
        simp only [List.length_cons]
        omega
      · rw [scn_err s h0 he]; exact ⟨Nat.zero_le _, Nat.zero_le _⟩
end Go.Proofs.YtiebhdgpnloieaaDoor.Frm
