/- Plain facts on frames: frames that are put together are read as their texts; cut anywhere, those that are whole are read, and no more; a frame of which bits are turned is not read. -/
import Derived.Test.YtnmbojgjefhoaaaPure
namespace Go.Proofs.Ytnmbojgjefhoaaa

theorem four_length (x : Nat) : (four x).length = 4 := rfl
theorem sum_lt (l : List Nat) (h : ∀ b ∈ l, b < 256) : more 0 l < 4294967296 := cpl_lt (fold_lt _ (cpl_lt (by decide)) h)
/-- The number that a frame tells, and where its parts lie. -/
theorem frm_num (s r : ByteArray) (hs : s.size ≤ 65536) : num4 (bytesOf (frm s ++ r)) = s.size := by
  rw [bytesOf_append, frm_bytes, List.append_assoc, List.append_assoc]
  exact num4_four _ _ (by omega)
theorem rdf_frm (s r : ByteArray) (hs : s.size ≤ 65536) : rdf (frm s ++ r) = (s, s.size + 8, 0) := by
  have hn := frm_num s r hs
  have hz : (frm s ++ r).size = s.size + 8 + r.size := by rw [ByteArray.size_append, frm_size]
  have hb : bytesOf (frm s ++ r) = (four s.size ++ bytesOf s) ++ (four (more 0 (four s.size ++ bytesOf s)) ++ bytesOf r) := by
    rw [bytesOf_append, frm_bytes]; simp
  have hl : (four s.size ++ bytesOf s).length = s.size + 4 := by rw [List.length_append, four_length, bytesOf_length]; omega
  have ht : (bytesOf (frm s ++ r)).take (s.size + 4) = four s.size ++ bytesOf s := by
    rw [hb, List.take_append_of_le_length (by omega), List.take_of_length_le (by omega)]
  have hd : (bytesOf (frm s ++ r)).drop (s.size + 4) = four (more 0 (four s.size ++ bytesOf s)) ++ bytesOf r := by
    rw [hb, List.drop_append_of_le_length (by omega), List.drop_eq_nil_of_le (by omega)]; rfl
  have hby : ∀ b ∈ four s.size ++ bytesOf s, b < 256 := fun b h => (List.mem_append.1 h).elim (four_lt _ b) (bytesOf_lt s b)
  have he : (frm s ++ r).extract 4 (s.size + 4) = s := by
    apply bytesOf_inj
    rw [bytesOf_extract, ht, List.drop_append_of_le_length (by rw [four_length]; exact Nat.le_refl _)]
    rfl
  unfold rdf
  rw [hn, hz, if_neg (by omega), if_neg (by omega), if_neg (by omega), ht, hd, num4_four _ _ (sum_lt _ hby), if_neg (by simp), he]
/-- A frame that is cut is torn. -/
theorem rdf_cut (s r t : ByteArray) (m : Nat) (hs : s.size ≤ 65536) (ht : t = (frm s ++ r).extract 0 m) (hm : m < s.size + 8) : rdf t = (⟨#[]⟩, 0, 40) := by
  have hz : t.size ≤ m := by rw [ht, ByteArray.size_extract]; omega
  unfold rdf
  by_cases h4 : t.size < 4
  · rw [if_pos h4]
  · have hn : num4 (bytesOf t) = s.size := by
      rw [ht, bytesOf_extract, List.drop_zero, num4_take _ _ (by omega), frm_num s r hs]
    rw [if_neg h4, hn, if_neg (by omega), if_pos (by omega)]
theorem extract_append_left (s r : ByteArray) (n c : Nat) (hn : s.size = n) (hc : n ≤ c) : (s ++ r).extract 0 c = s ++ r.extract 0 (c - n) := by
  apply bytesOf_inj
  rw [bytesOf_extract, bytesOf_append, bytesOf_append, bytesOf_extract, List.drop_zero, List.drop_zero, List.take_append, List.take_of_length_le (by rw [bytesOf_length]; omega), bytesOf_length, hn]
theorem extract_append_right (s r : ByteArray) (n : Nat) (hn : s.size = n) : (s ++ r).extract n (s ++ r).size = r := by
  apply bytesOf_inj
  rw [bytesOf_extract, List.take_of_length_le (by rw [bytesOf_length]; exact Nat.le_refl _), bytesOf_append, List.drop_append_of_le_length (by rw [bytesOf_length]; omega), List.drop_eq_nil_of_le (by rw [bytesOf_length]; omega), List.nil_append]
theorem scn_frm (s r : ByteArray) (hs : s.size ≤ 65536) : scn (frm s ++ r) = (s :: (scn r).1, s.size + 8 + (scn r).2.1, (scn r).2.2) := by
  have hr := rdf_frm s r hs
  have hz : (frm s ++ r).size ≠ 0 := by rw [ByteArray.size_append, frm_size]; omega
  rw [scn_ok _ hz (by rw [hr]), hr]
  simp only
  rw [extract_append_right _ _ _ (frm_size s)]
/-- Frames, one behind the other. -/
def cat : List ByteArray → ByteArray
  | [] => ⟨#[]⟩
  | t :: l => frm t ++ cat l
theorem append_nil (s : ByteArray) : s ++ ⟨#[]⟩ = s := by apply bytesOf_inj; rw [bytesOf_append]; simp [bytesOf]
theorem nil_append (s : ByteArray) : (⟨#[]⟩ : ByteArray) ++ s = s := by apply bytesOf_inj; rw [bytesOf_append]; simp [bytesOf]
theorem append_assoc (s t u : ByteArray) : s ++ t ++ u = s ++ (t ++ u) := by apply bytesOf_inj; simp only [bytesOf_append, List.append_assoc]
theorem cat_snoc : ∀ (l : List ByteArray) (t : ByteArray), cat (l ++ [t]) = cat l ++ frm t
  | [], t => by show frm t ++ ⟨#[]⟩ = ⟨#[]⟩ ++ frm t; rw [append_nil, nil_append]
  | u :: l, t => by
    show frm u ++ cat (l ++ [t]) = frm u ++ cat l ++ frm t
    rw [cat_snoc l t, append_assoc]
/-- How many bytes the first k frames have. -/
def ends (l : List ByteArray) (k : Nat) : Nat := (cat (l.take k)).size
theorem ends_zero (l : List ByteArray) : ends l 0 = 0 := rfl
theorem ends_cons (t : ByteArray) (l : List ByteArray) (k : Nat) : ends (t :: l) (k + 1) = t.size + 8 + ends l k := by
  unfold ends
  show (frm t ++ cat (l.take k)).size = _
  rw [ByteArray.size_append, frm_size]
theorem ends_le : ∀ (l : List ByteArray) (k : Nat), ends l k ≤ (cat l).size
  | [], k => by unfold ends; rw [List.take_nil]; exact Nat.le_refl _
  | t :: l, 0 => Nat.zero_le _
  | t :: l, k + 1 => by
    rw [ends_cons]
    show _ ≤ (frm t ++ cat l).size
    rw [ByteArray.size_append, frm_size]
    have := ends_le l k
    omega
theorem ends_all (l : List ByteArray) : ends l l.length = (cat l).size := by unfold ends; rw [List.take_length]
theorem ends_mono (l : List ByteArray) (k : Nat) : k < l.length → ends l k + 8 ≤ ends l (k + 1) := by
  induction l generalizing k with
  | nil => intro h; exact absurd h (by simp)
  | cons t l ih =>
    intro h
    cases k with
    | zero => rw [ends_zero, ends_cons]; omega
    | succ k =>
      rw [ends_cons, ends_cons]
      have := ih k (by simpa using h)
      omega
theorem scn_cut : ∀ (l : List ByteArray) (c k : Nat), (∀ t ∈ l, t.size ≤ 65536) → k ≤ l.length → ends l k ≤ c → c ≤ (cat l).size → (k < l.length → c < ends l (k + 1)) →
    scn ((cat l).extract 0 c) = (l.take k, ends l k, if ends l k = c then 0 else 40)
  | [], c, k, _, hk, _, hc, _ => by
    have h0 : k = 0 := by simpa using hk
    have hc0 : c = 0 := by
      have : (cat []).size = 0 := rfl
      omega
    subst h0; subst hc0
    rw [scn_nil _ (by rw [ByteArray.size_extract]; omega), ends_zero]
    rfl
  | t :: l, c, k, ht, hk, hkc, hc, hlt => by
    have hts := ht t (by simp)
    cases k with
    | zero =>
      have h1 := hlt (by simp)
      rw [ends_cons, ends_zero, Nat.add_zero] at h1
      rw [ends_zero]
      by_cases h0 : c = 0
      · subst h0
        rw [scn_nil _ (by rw [ByteArray.size_extract]; omega)]
        rfl
      · have hr := rdf_cut t (cat l) _ c hts rfl h1
        have hz : ((frm t ++ cat l).extract 0 c).size ≠ 0 := by
          have hs2 : (cat (t :: l)).size = (frm t ++ cat l).size := rfl
          rw [ByteArray.size_extract]; omega
        show scn ((frm t ++ cat l).extract 0 c) = _
        rw [scn_err _ hz (by rw [hr]; decide), hr, if_neg (fun e => h0 e.symm)]
        rfl
    | succ k =>
      rw [ends_cons] at hkc
      have hcs : (cat (t :: l)).size = t.size + 8 + (cat l).size := by
        show (frm t ++ cat l).size = _
        rw [ByteArray.size_append, frm_size]
      have ih := scn_cut l (c - (t.size + 8)) k (fun u hu => ht u (List.mem_cons_of_mem _ hu)) (by simpa using hk) (by omega) (by omega) (fun h => by
        have := hlt (by simpa using h)
        rw [ends_cons] at this
        omega)
      show scn ((frm t ++ cat l).extract 0 c) = _
      rw [extract_append_left _ _ _ _ (frm_size t) (by omega), scn_frm _ _ hts, ih, ends_cons, List.take_succ_cons]
      simp only
      congr 2
      by_cases e : ends l k = c - (t.size + 8)
      · rw [if_pos e, if_pos (by omega)]
      · rw [if_neg e, if_neg (by omega)]

/-! What is turned. -/
theorem num_four (a b c d : Nat) (ha : a < 256) (hb : b < 256) (hc : c < 256) (hd : d < 256) : num [a, b, c, d] = num4 [a, b, c, d] := by
  have g : ∀ x m, x < 256 → x ^^^ 256 * m = x + 256 * m := fun x m hx => by
    have h := split_xor 8 (256 * m + x)
    rw [show (2 : Nat) ^ 8 = 256 from rfl, Nat.mul_add_div (by decide), Nat.div_eq_of_lt hx, Nat.add_zero, Nat.mul_add_mod, Nat.mod_eq_of_lt hx] at h
    rw [Nat.xor_comm, ← h, Nat.add_comm]
  show a ^^^ 256 * (b ^^^ 256 * (c ^^^ 256 * (d ^^^ 256 * 0))) = _
  rw [g d 0 hd, g c _ hc, g b _ hb, g a _ ha]
  unfold num4
  simp
  omega
/-- What a text and its own sum behind it always make. -/
theorem whole_sum (l t : List Nat) (hl : t.length = 4) (ht : ∀ b ∈ t, b < 256) (h : more 0 l = num4 t) : fold (cpl 0) (l ++ t) = stps 32 4294967295 := by
  match t, hl with
  | [a, b, c, d], _ =>
    rw [fold_append, fold_num]
    have e := num_four a b c d (ht a (by simp)) (ht b (by simp)) (ht c (by simp)) (ht d (by simp))
    rw [e, ← h]
    unfold more cpl
    rw [← Nat.xor_assoc, Nat.xor_self, Nat.zero_xor]
    rfl
theorem frm_whole (s : ByteArray) : fold (cpl 0) (bytesOf (frm s)) = stps 32 4294967295 := by
  rw [frm_bytes]
  have hby : ∀ b ∈ four s.size ++ bytesOf s, b < 256 := fun b h => (List.mem_append.1 h).elim (four_lt _ b) (bytesOf_lt s b)
  refine whole_sum _ _ rfl (four_lt _) ?_
  have := num4_four (more 0 (four s.size ++ bytesOf s)) [] (sum_lt _ hby)
  rw [List.append_nil] at this
  exact this.symm
/-- A frame of which bits are turned behind its first four bytes, all within 32 in a row, has another sum. -/
theorem rdf_turned (s t : ByteArray) (k bits : Nat) (hs : s.size ≤ 65536) (hl : t.size = s.size + 8) (h4 : (bytesOf t).take 4 = (bytesOf (frm s)).take 4) (hk : k ≤ 8 * (s.size + 8)) (hn : num (bytesOf t) = num (bytesOf (frm s)) ^^^ 2 ^ k * bits) (hb : bits < 4294967296) (h0 : bits ≠ 0) :
    (rdf t).2.2 = 41 := by
  have hnum : num4 (bytesOf t) = s.size := by
    rw [← num4_take _ 4 (Nat.le_refl _), h4, num4_take _ 4 (Nat.le_refl _)]
    have := frm_num s ⟨#[]⟩ hs
    rw [append_nil] at this
    exact this
  unfold rdf
  rw [hnum, hl, if_neg (by omega), if_neg (by omega), if_neg (by omega)]
  rw [if_pos]
  intro he
  have hlen : ((bytesOf t).drop (s.size + 4)).length = 4 := by rw [List.length_drop, bytesOf_length, hl]; omega
  have hw := whole_sum _ _ hlen (fun b hb => bytesOf_lt t b (List.mem_of_mem_drop hb)) he
  rw [List.take_append_drop] at hw
  have hne := burst (bytesOf (frm s)) (bytesOf t) (cpl 0) k bits (by rw [bytesOf_length, bytesOf_length, hl, frm_size]) (by rw [bytesOf_length, frm_size]; exact hk) hn hb h0
  exact hne (hw.trans (frm_whole s).symm)
end Go.Proofs.Ytnmbojgjefhoaaa
