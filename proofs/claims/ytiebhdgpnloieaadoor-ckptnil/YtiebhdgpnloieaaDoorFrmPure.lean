/- Plain facts on frames: what a frame is, what is read at the front of bytes, which frames bytes are; no program in sight. -/
import Derived.Test.YtiebhdgpnloieaaDoorFrmMath
namespace Go.Proofs.YtiebhdgpnloieaaDoor.Frm
/-- The bytes of a text as numbers. -/
def bytesOf (s : ByteArray) : List Nat := s.data.toList.map UInt8.toNat
theorem bytesOf_lt (s : ByteArray) : ∀ b ∈ bytesOf s, b < 256 := by
  intro b hb
  obtain ⟨x, _, rfl⟩ := List.mem_map.1 hb
  exact x.toNat_lt
theorem bytesOf_length (s : ByteArray) : (bytesOf s).length = s.size := by unfold bytesOf; simp
theorem bytesOf_append (s t : ByteArray) : bytesOf (s ++ t) = bytesOf s ++ bytesOf t := by
  unfold bytesOf; simp
theorem bytesOf_extract (s : ByteArray) (i j : Nat) : bytesOf (s.extract i j) = ((bytesOf s).take j).drop i := by
  unfold bytesOf
  simp [List.map_take, List.map_drop]
  exact List.drop_take.symm
theorem bytesOf_inj {s t : ByteArray} (h : bytesOf s = bytesOf t) : s = t := by
  unfold bytesOf at h
  have h2 : s.data.toList = t.data.toList := (List.map_inj_right (fun a b h => UInt8.toNat_inj.1 h)).1 h
  exact ByteArray.ext (Array.toList_inj.1 h2)
theorem more_lt {c : Nat} (hc : c < 4294967296) (s : ByteArray) : more c (bytesOf s) < 4294967296 := cpl_lt (fold_lt _ (cpl_lt hc) (bytesOf_lt s))

/-- The number of the first four bytes, the lowest first. -/
def num4 (l : List Nat) : Nat := l.getD 0 0 + 256 * l.getD 1 0 + 65536 * l.getD 2 0 + 16777216 * l.getD 3 0
/-- A number as four bytes. -/
def four (x : Nat) : List Nat := [x % 256, x / 256 % 256, x / 65536 % 256, x / 16777216 % 256]
def textOf (l : List Nat) : ByteArray := ⟨(l.map UInt8.ofNat).toArray⟩
theorem bytesOf_textOf (l : List Nat) (h : ∀ c ∈ l, c < 256) : bytesOf (textOf l) = l := by
  unfold bytesOf textOf
  simp only [List.map_map]
  have e : ∀ c ∈ l, (UInt8.toNat ∘ UInt8.ofNat) c = c := fun c hc => by
    show (UInt8.ofNat c).toNat = c
    rw [UInt8.toNat_ofNat', Nat.mod_eq_of_lt (h c hc)]
  rw [List.map_congr_left e, List.map_id']
theorem four_lt (x : Nat) : ∀ c ∈ four x, c < 256 := by
  intro c hc
  unfold four at hc
  simp at hc
  omega
theorem num4_four (x : Nat) (r : List Nat) (h : x < 4294967296) : num4 (four x ++ r) = x := by
  unfold num4 four
  simp
  omega
theorem num4_lt (l : List Nat) (h : ∀ b ∈ l, b < 256) : num4 l < 4294967296 := by
  have g : ∀ i, l.getD i 0 < 256 := fun i => by
    rw [List.getD_eq_getElem?_getD]
    by_cases hi : i < l.length
    · rw [List.getElem?_eq_getElem hi]; exact h _ (List.getElem_mem hi)
    · rw [List.getElem?_eq_none (by omega)]; decide
  have g0 := g 0; have g1 := g 1; have g2 := g 2; have g3 := g 3
  unfold num4
  omega
theorem num4_take (l : List Nat) (m : Nat) (h : 4 ≤ m) : num4 (l.take m) = num4 l := by
  unfold num4
  simp only [List.getD_eq_getElem?_getD, List.getElem?_take]
  rw [if_pos (by omega), if_pos (by omega), if_pos (by omega), if_pos (by omega)]
def w4 (x : Nat) : ByteArray := textOf (four x)
theorem w4_bytes (x : Nat) : bytesOf (w4 x) = four x := bytesOf_textOf _ (four_lt x)
theorem w4_size (x : Nat) : (w4 x).size = 4 := rfl

/-- A text's frame. -/
def frm (s : ByteArray) : ByteArray := (w4 s.size ++ s) ++ w4 (more 0 (bytesOf (w4 s.size ++ s)))
theorem frm_size (s : ByteArray) : (frm s).size = s.size + 8 := by
  unfold frm; simp only [ByteArray.size_append, w4_size]; omega
theorem frm_bytes (s : ByteArray) : bytesOf (frm s) = (four s.size ++ bytesOf s) ++ four (more 0 (four s.size ++ bytesOf s)) := by
  unfold frm; simp only [bytesOf_append, w4_bytes]

/-- What stands at the front: the text, how many bytes its frame has, the error. -/
def rdf (s : ByteArray) : ByteArray × Nat × Nat :=
  if s.size < 4 then (⟨#[]⟩, 0, 40)
  else if 65536 < num4 (bytesOf s) then (⟨#[]⟩, 0, 4)
  else if s.size < num4 (bytesOf s) + 8 then (⟨#[]⟩, 0, 40)
  else if more 0 ((bytesOf s).take (num4 (bytesOf s) + 4)) ≠ num4 ((bytesOf s).drop (num4 (bytesOf s) + 4)) then (⟨#[]⟩, 0, 41)
  else (s.extract 4 (num4 (bytesOf s) + 4), num4 (bytesOf s) + 8, 0)
theorem rdf_ok (s : ByteArray) (h : (rdf s).2.2 = 0) : 8 ≤ (rdf s).2.1 ∧ (rdf s).2.1 ≤ s.size ∧ (rdf s).2.1 ≤ 65544 := by
  unfold rdf at *
  split at h <;> rename_i h1
  · simp at h
  · split at h <;> rename_i h2
    · simp at h
    · split at h <;> rename_i h3
      · simp at h
      · split at h <;> rename_i h4
        · simp at h
        · rw [if_neg h1, if_neg h2, if_neg h3, if_neg h4]
          simp only
          omega
theorem rdf_e (s : ByteArray) : (rdf s).2.2 = 0 ∨ (rdf s).2.2 = 4 ∨ (rdf s).2.2 = 40 ∨ (rdf s).2.2 = 41 := by
  unfold rdf
  split
  · simp
  · split
    · simp
    · split
      · simp
      · split <;> simp
theorem rdf_n (s : ByteArray) : (rdf s).2.1 ≤ 65544 := by
  unfold rdf
  split
  · simp
  · split
    · simp
    · split
      · simp
      · split
        · simp
        · simp only; omega
theorem rdf_t (s : ByteArray) : (rdf s).1.size ≤ s.size := by
  unfold rdf
  split
  · exact Nat.zero_le _
  · split
    · exact Nat.zero_le _
    · split
      · exact Nat.zero_le _
      · split
        · exact Nat.zero_le _
        · simp only [ByteArray.size_extract]; omega

/-- Which frames bytes are, so many at most. -/
def scnF : Nat → ByteArray → List ByteArray × Nat × Nat
  | 0, _ => ([], 0, 0)
  | m + 1, s => if s.size = 0 then ([], 0, 0)
    else if (rdf s).2.2 = 0 then
      ((rdf s).1 :: (scnF m (s.extract (rdf s).2.1 s.size)).1, (rdf s).2.1 + (scnF m (s.extract (rdf s).2.1 s.size)).2.1, (scnF m (s.extract (rdf s).2.1 s.size)).2.2)
    else ([], 0, (rdf s).2.2)
theorem scnF_zero : ∀ (m : Nat) (s : ByteArray), s.size = 0 → scnF m s = ([], 0, 0)
  | 0, _, _ => rfl
  | m + 1, s, h => by unfold scnF; rw [if_pos h]
theorem scnF_any : ∀ (m n : Nat) (s : ByteArray), s.size ≤ m → s.size ≤ n → scnF m s = scnF n s
  | 0, n, s, hm, _ => by rw [scnF_zero n s (by omega)]; rfl
  | m + 1, 0, s, _, hn => by rw [scnF_zero (m + 1) s (by omega)]; rfl
  | m + 1, n + 1, s, hm, hn => by
    unfold scnF
    by_cases h0 : s.size = 0
    · rw [if_pos h0, if_pos h0]
    · rw [if_neg h0, if_neg h0]
      by_cases he : (rdf s).2.2 = 0
      · have hr := rdf_ok s he
        rw [if_pos he, if_pos he, scnF_any m n (s.extract (rdf s).2.1 s.size) (by rw [ByteArray.size_extract]; omega) (by rw [ByteArray.size_extract]; omega)]
      · rw [if_neg he, if_neg he]
/-- Which frames bytes are. -/
def scn (s : ByteArray) : List ByteArray × Nat × Nat := scnF s.size s
theorem scn_nil (s : ByteArray) (h : s.size = 0) : scn s = ([], 0, 0) := scnF_zero _ s h
theorem scn_err (s : ByteArray) (h : s.size ≠ 0) (he : (rdf s).2.2 ≠ 0) : scn s = ([], 0, (rdf s).2.2) := by
  obtain ⟨m, hm⟩ : ∃ m, s.size = m + 1 := ⟨s.size - 1, by omega⟩
  unfold scn
  rw [hm]
  unfold scnF
  rw [if_neg h, if_neg he]
theorem scn_ok (s : ByteArray) (h : s.size ≠ 0) (he : (rdf s).2.2 = 0) :
    scn s = ((rdf s).1 :: (scn (s.extract (rdf s).2.1 s.size)).1, (rdf s).2.1 + (scn (s.extract (rdf s).2.1 s.size)).2.1, (scn (s.extract (rdf s).2.1 s.size)).2.2) := by
  have hr := rdf_ok s he
  obtain ⟨m, hm⟩ : ∃ m, s.size = m + 1 := ⟨s.size - 1, by omega⟩
  have e : scn (s.extract (rdf s).2.1 s.size) = scnF m (s.extract (rdf s).2.1 s.size) := scnF_any _ _ _ (Nat.le_refl _) (by rw [ByteArray.size_extract]; omega)
  rw [e]
  show scnF s.size s = _
  rw [show scnF s.size s = scnF (m + 1) s from by rw [hm]]
  conv => lhs; unfold scnF
  rw [if_neg h, if_pos he]
/-- What the iterator tells: what is read, again and again, up to the first that can't be; so many at most. -/
def fndF : Nat → ByteArray → List (ByteArray × Nat × Nat)
  | 0, _ => []
  | m + 1, s => if s.size = 0 then [] else if (rdf s).2.2 = 0 then rdf s :: fndF m (s.extract (rdf s).2.1 s.size) else [rdf s]
theorem fndF_zero : ∀ (m : Nat) (s : ByteArray), s.size = 0 → fndF m s = []
  | 0, _, _ => rfl
  | m + 1, s, h => by unfold fndF; rw [if_pos h]
theorem fndF_any : ∀ (m n : Nat) (s : ByteArray), s.size ≤ m → s.size ≤ n → fndF m s = fndF n s
  | 0, n, s, hm, _ => by rw [fndF_zero n s (by omega)]; rfl
  | m + 1, 0, s, _, hn => by rw [fndF_zero (m + 1) s (by omega)]; rfl
  | m + 1, n + 1, s, hm, hn => by
    unfold fndF
    by_cases h0 : s.size = 0
    · rw [if_pos h0, if_pos h0]
    · rw [if_neg h0, if_neg h0]
      by_cases he : (rdf s).2.2 = 0
      · have hr := rdf_ok s he
        rw [if_pos he, if_pos he, fndF_any m n (s.extract (rdf s).2.1 s.size) (by rw [ByteArray.size_extract]; omega) (by rw [ByteArray.size_extract]; omega)]
      · rw [if_neg he, if_neg he]
/-- What the iterator tells. -/
def fnd (s : ByteArray) : List (ByteArray × Nat × Nat) := fndF s.size s
theorem fnd_nil (s : ByteArray) (h : s.size = 0) : fnd s = [] := fndF_zero _ s h
theorem fnd_err (s : ByteArray) (h : s.size ≠ 0) (he : (rdf s).2.2 ≠ 0) : fnd s = [rdf s] := by
  obtain ⟨m, hm⟩ : ∃ m, s.size = m + 1 := ⟨s.size - 1, by omega⟩
  unfold fnd
  rw [hm]
  unfold fndF
  rw [if_neg h, if_neg he]
theorem fnd_ok (s : ByteArray) (h : s.size ≠ 0) (he : (rdf s).2.2 = 0) : fnd s = rdf s :: fnd (s.extract (rdf s).2.1 s.size) := by
  have hr := rdf_ok s he
  obtain ⟨m, hm⟩ : ∃ m, s.size = m + 1 := ⟨s.size - 1, by omega⟩
  have e : fnd (s.extract (rdf s).2.1 s.size) = fndF m (s.extract (rdf s).2.1 s.size) := fndF_any _ _ _ (Nat.le_refl _) (by rw [ByteArray.size_extract]; omega)
  rw [e]
  show fndF s.size s = _
  rw [show fndF s.size s = fndF (m + 1) s from by rw [hm]]
  conv => lhs; unfold fndF
  rw [if_neg h, if_pos he]
/-- The bytes of what came, together. -/
def sumN (l : List (ByteArray × Nat × Nat)) : Nat := (l.map fun x => x.2.1).sum
theorem sumN_snoc (l : List (ByteArray × Nat × Nat)) (x : ByteArray × Nat × Nat) : sumN (l ++ [x]) = sumN l + x.2.1 := by
  unfold sumN; simp
theorem fnd_all : ∀ (m : Nat) (s : ByteArray), s.size ≤ m → (∀ x ∈ fnd s, x.2.2 = 0) → scn s = ((fnd s).map fun x => x.1, sumN (fnd s), 0)
  | m, s, hm, h => by
    by_cases h0 : s.size = 0
    · rw [scn_nil s h0, fnd_nil s h0]; rfl
    · by_cases he : (rdf s).2.2 = 0
      · have hr := rdf_ok s he
        obtain ⟨m', rfl⟩ : ∃ m', m = m' + 1 := ⟨m - 1, by omega⟩
        rw [fnd_ok s h0 he] at h
        have ih := fnd_all m' (s.extract (rdf s).2.1 s.size) (by rw [ByteArray.size_extract]; omega) (fun x hx => h x (List.mem_cons_of_mem _ hx))
        rw [scn_ok s h0 he, fnd_ok s h0 he, ih]
        simp [sumN]
      · rw [fnd_err s h0 he] at h
        exact absurd (h _ (List.mem_singleton.2 rfl)) he
theorem fnd_stop : ∀ (pre : List (ByteArray × Nat × Nat)) (s : ByteArray) (x : ByteArray × Nat × Nat), pre ++ [x] <+: fnd s → (∀ y ∈ pre, y.2.2 = 0) → x.2.2 ≠ 0 →
    scn s = (pre.map fun x => x.1, sumN pre, x.2.2)
  | [], s, x, hp, _, hx => by
    by_cases h0 : s.size = 0
    · rw [fnd_nil s h0] at hp; simp at hp
    · by_cases he : (rdf s).2.2 = 0
      · rw [fnd_ok s h0 he] at hp
        obtain ⟨t, ht⟩ := hp
        simp at ht
        rw [ht.1] at hx
        exact absurd he hx
      · rw [fnd_err s h0 he] at hp
        obtain ⟨t, ht⟩ := hp
        simp at ht
        rw [scn_err s h0 he, ht.1]; rfl
  | y :: pre, s, x, hp, hy, hx => by
    by_cases h0 : s.size = 0
    · rw [fnd_nil s h0] at hp; simp at hp
    · by_cases he : (rdf s).2.2 = 0
      · rw [fnd_ok s h0 he] at hp
        obtain ⟨t, ht⟩ := hp
        simp at ht
        obtain ⟨e1, e2⟩ := ht
        have ih := fnd_stop pre (s.extract (rdf s).2.1 s.size) x ⟨t, by rw [← e2]; simp⟩ (fun z hz => hy z (List.mem_cons_of_mem _ hz)) hx
        rw [scn_ok s h0 he, ih, e1]
        simp [sumN]
      · rw [fnd_err s h0 he] at hp
        obtain ⟨t, ht⟩ := hp
        simp at ht
theorem fnd_length : ∀ (m : Nat) (s : ByteArray), s.size ≤ m → (fnd s).length ≤ s.size
  | m, s, hm => by
    by_cases h0 : s.size = 0
    · rw [fnd_nil s h0]; exact Nat.zero_le _
    · by_cases he : (rdf s).2.2 = 0
      · have hr := rdf_ok s he
        obtain ⟨m', rfl⟩ : ∃ m', m = m' + 1 := ⟨m - 1, by omega⟩
        have ih := fnd_length m' (s.extract (rdf s).2.1 s.size) (by rw [ByteArray.size_extract]; omega)
        rw [fnd_ok s h0 he, List.length_cons]
        rw [ByteArray.size_extract] at ih
        omega
      · rw [fnd_err s h0 he]; simp; omega
theorem scn_bound : ∀ (m : Nat) (s : ByteArray), s.size ≤ m → (scn s).2.1 ≤ s.size ∧ (scn s).1.length ≤ s.size
  | m, s, hm => by
    by_cases h0 : s.size = 0
    · rw [scn_nil s h0]; exact ⟨Nat.zero_le _, Nat.zero_le _⟩
    · by_cases he : (rdf s).2.2 = 0
      · have hr := rdf_ok s he
        obtain ⟨m', rfl⟩ : ∃ m', m = m' + 1 := ⟨m - 1, by omega⟩
        have ih := scn_bound m' (s.extract (rdf s).2.1 s.size) (by rw [ByteArray.size_extract]; omega)
        rw [ByteArray.size_extract] at ih
        rw [scn_ok s h0 he]
        simp only [List.length_cons]
        omega
      · rw [scn_err s h0 he]; exact ⟨Nat.zero_le _, Nat.zero_le _⟩
end Go.Proofs.YtiebhdgpnloieaaDoor.Frm