/- Disks, plain: what is sure, what is loose, the fuse; no program in sight. What a crash leaves, plain: byte by byte; all writes; none. -/
namespace Go.Proofs.YtiebhdgpnloieaaDoor

/-- A disk: what is sure, block by block; what is loose, in order; the fuse (below 0: none). -/
structure St where
  sure : List ByteArray
  loose : List (Nat × ByteArray)
  left : Int
/-- 256 bytes 0. -/
def zblock : ByteArray := ⟨(List.replicate 256 0).toArray⟩
theorem zblock_size : zblock.size = 256 := by
  show (List.replicate 256 (0 : UInt8)).toArray.size = 256
  rw [List.size_toArray, List.length_replicate]
def noText : ByteArray := ⟨#[]⟩
/-- One block, written. -/
def put (s : List ByteArray) (b : Nat) (d : ByteArray) : List ByteArray := s.set b d
/-- All writes made sure, in order. -/
def laid (s : List ByteArray) : List (Nat × ByteArray) → List ByteArray
  | [] => s
  | w :: l => laid (s.set w.1 w.2) l
/-- As many bytes of a write as its pick says, the others as they were. -/
def torn (old new : ByteArray) (p : Int) : ByteArray := new.extract 0 (max (min p 256) 0).toNat ++ old.extract (max (min p 256) 0).toNat old.size
/-- What a crash leaves: write by write, from the i-th pick on. -/
def crashed (s : List ByteArray) (picks : List Int) : Nat → List (Nat × ByteArray) → List ByteArray
  | _, [] => s
  | i, w :: l => crashed (s.set w.1 (torn (s.getD w.1 noText) w.2 (picks.getD i 0))) picks (i + 1) l
/-- What stands in block b, looked up from the last write on. -/
def stands (s : List ByteArray) (b : Nat) : List (Nat × ByteArray) → ByteArray
  | [] => s.getD b noText
  | w :: l => if w.1 = b then w.2 else stands s b l
/-- A call that is done. -/
def counted (left : Int) : Int := if 0 < left then left - 1 else left
def St.new (n : Nat) : St := ⟨List.replicate n zblock, [], -1⟩
def St.has (st : St) (b : Int) : Prop := 0 ≤ b ∧ b < (st.sure.length : Int)
def St.write (st : St) (b : Int) (d : ByteArray) : Nat × St :=
  if st.left = 0 then (50, st) else if ¬ (0 ≤ b ∧ b < (st.sure.length : Int)) then (5, st) else if d.size ≠ 256 then (2, st)
  else (0, ⟨st.sure, st.loose ++ [(b.toNat, d)], counted st.left⟩)
def St.sync (st : St) : Nat × St := if st.left = 0 then (50, st) else (0, ⟨laid st.sure st.loose, [], counted st.left⟩)
def St.fuse (st : St) (n : Int) : St := ⟨st.sure, st.loose, max n (-1)⟩
def St.crash (st : St) (picks : List Int) : St := ⟨crashed st.sure picks 0 st.loose, [], -1⟩
def St.read (st : St) (b : Int) : ByteArray × Nat :=
  if st.left = 0 then (noText, 50) else if ¬ (0 ≤ b ∧ b < (st.sure.length : Int)) then (noText, 5) else (stands st.sure b.toNat st.loose.reverse, 0)
/-- Texts, one behind the other. -/
def joined (l : List ByteArray) : ByteArray := l.foldl (fun s t => s ++ t) noText
def St.text (st : St) : ByteArray := joined st.sure
/-- What a disk always is. -/
structure St.Ok (st : St) : Prop where
  few : st.sure.length ≤ 4096
  some : 1 ≤ st.sure.length
  full : ∀ s ∈ st.sure, s.size = 256
  there : ∀ w ∈ st.loose, w.1 < st.sure.length ∧ w.2.size = 256
  left : -1 ≤ st.left ∧ st.left ≤ 9223372036854775807
theorem torn_size (old new : ByteArray) (p : Int) (ho : old.size = 256) (hn : new.size = 256) : (torn old new p).size = 256 := by
  unfold torn
  rw [ByteArray.size_append, ByteArray.size_extract, ByteArray.size_extract]
  omega
theorem laid_length : ∀ (l : List (Nat × ByteArray)) (s : List ByteArray), (laid s l).length = s.length
  | [], _ => rfl
  | w :: l, s => by unfold laid; rw [laid_length l, List.length_set]
theorem crashed_length (picks : List Int) : ∀ (l : List (Nat × ByteArray)) (i : Nat) (s : List ByteArray), (crashed s picks i l).length = s.length
  | [], _, _ => rfl
  | w :: l, i, s => by unfold crashed; rw [crashed_length picks l, List.length_set]
theorem full_set {s : List ByteArray} (h : ∀ t ∈ s, t.size = 256) (b : Nat) (d : ByteArray) (hd : d.size = 256) : ∀ t ∈ s.set b d, t.size = 256 := fun t ht => by
  rcases List.mem_or_eq_of_mem_set ht with h1 | h1
  · exact h t h1
  · rw [h1]; exact hd
theorem getD_size {s : List ByteArray} (h : ∀ t ∈ s, t.size = 256) (b : Nat) (hb : b < s.length) : (s.getD b noText).size = 256 := by
  rw [List.getD_eq_getElem?_getD, List.getElem?_eq_getElem hb, Option.getD_some]
  exact h _ (List.getElem_mem hb)
theorem laid_full : ∀ (l : List (Nat × ByteArray)) (s : List ByteArray), (∀ t ∈ s, t.size = 256) → (∀ w ∈ l, w.2.size = 256) → ∀ t ∈ laid s l, t.size = 256
  | [], _, h, _ => h
  | w :: l, s, h, hl => by
    unfold laid
    exact laid_full l _ (full_set h w.1 w.2 (hl w (by simp))) (fun x hx => hl x (List.mem_cons_of_mem _ hx))
theorem crashed_full (picks : List Int) : ∀ (l : List (Nat × ByteArray)) (i : Nat) (s : List ByteArray), (∀ t ∈ s, t.size = 256) → (∀ w ∈ l, w.1 < s.length ∧ w.2.size = 256) → ∀ t ∈ crashed s picks i l, t.size = 256
  | [], _, _, h, _ => h
  | w :: l, i, s, h, hl => by
    unfold crashed
    have hw := hl w (by simp)
    exact crashed_full picks l (i + 1) _ (full_set h w.1 _ (torn_size _ _ _ (getD_size h w.1 hw.1) hw.2)) (fun x hx => by rw [List.length_set]; exact hl x (List.mem_cons_of_mem _ hx))
theorem counted_ok {x : Int} (h : -1 ≤ x ∧ x ≤ 9223372036854775807) : -1 ≤ counted x ∧ counted x ≤ 9223372036854775807 := by
  unfold counted; split <;> omega
theorem St.Ok.new {n : Nat} (h1 : 1 ≤ n) (h2 : n ≤ 4096) : (St.new n).Ok :=
  ⟨by show (List.replicate n zblock).length ≤ _; rw [List.length_replicate]; exact h2, by show 1 ≤ (List.replicate n zblock).length; rw [List.length_replicate]; exact h1, fun s hs => by rw [List.eq_of_mem_replicate hs]; exact zblock_size, fun w hw => absurd hw (by simp [St.new]), by show (-1 : Int) ≤ -1 ∧ (-1 : Int) ≤ _; omega⟩
theorem St.Ok.write {st : St} (h : st.Ok) (b : Int) (d : ByteArray) : (st.write b d).2.Ok := by
  unfold St.write
  split
  · exact h
  · split
    · exact h
    · split
      · exact h
      · rename_i h1 h2 h3
        exact ⟨h.few, h.some, h.full, fun w hw => by
          rcases List.mem_append.1 hw with h4 | h4
          · exact h.there w h4
          · simp at h4; rw [h4]; exact ⟨by show b.toNat < st.sure.length; omega, by show d.size = 256; omega⟩, counted_ok h.left⟩
theorem St.Ok.sync {st : St} (h : st.Ok) : st.sync.2.Ok := by
  unfold St.sync
  split
  · exact h
  · exact ⟨by show (laid _ _).length ≤ _; rw [laid_length]; exact h.few, by show 1 ≤ (laid _ _).length; rw [laid_length]; exact h.some, laid_full _ _ h.full (fun w hw => (h.there w hw).2), fun w hw => absurd hw (by simp), counted_ok h.left⟩
theorem St.Ok.fuse {st : St} (h : st.Ok) (n : Int) (hn : n ≤ 9223372036854775807) : (st.fuse n).Ok :=
  ⟨h.few, h.some, h.full, h.there, by show (-1 : Int) ≤ max n (-1) ∧ max n (-1) ≤ _; omega⟩
theorem St.Ok.crash {st : St} (h : st.Ok) (picks : List Int) : (st.crash picks).Ok :=
  ⟨by show (crashed _ _ _ _).length ≤ _; rw [crashed_length]; exact h.few, by show 1 ≤ (crashed _ _ _ _).length; rw [crashed_length]; exact h.some, crashed_full picks _ _ _ h.full h.there, fun w hw => absurd hw (by simp [St.crash]), by show (-1 : Int) ≤ -1 ∧ (-1 : Int) ≤ _; omega⟩
end Go.Proofs.YtiebhdgpnloieaaDoor
namespace Go.Proofs.YtiebhdgpnloieaaDoor

/-- The j-th byte of a text. -/
def byteAt (s : ByteArray) (j : Nat) : Option UInt8 := s.data[j]?
theorem byteAt_append_left {s t : ByteArray} {j : Nat} (h : j < s.size) : byteAt (s ++ t) j = byteAt s j := by
  unfold byteAt
  rw [ByteArray.data_append, Array.getElem?_append_left h]
theorem byteAt_append_right {s t : ByteArray} {j : Nat} (h : s.size ≤ j) : byteAt (s ++ t) j = byteAt t (j - s.size) := by
  unfold byteAt
  rw [ByteArray.data_append, Array.getElem?_append_right h]
  rfl
theorem byteAt_extract {s : ByteArray} {a b j : Nat} (hb : b ≤ s.size) (h : a + j < b) : byteAt (s.extract a b) j = byteAt s (a + j) := by
  unfold byteAt
  rw [ByteArray.data_extract, Array.getElem?_extract, if_pos (by have : s.data.size = s.size := rfl; omega)]
theorem torn_byte {old new : ByteArray} {p : Int} {j : Nat} (ho : old.size = 256) (hn : new.size = 256) (hj : j < 256) : byteAt (torn old new p) j = byteAt old j ∨ byteAt (torn old new p) j = byteAt new j := by
  unfold torn
  have hc : (max (min p 256) 0).toNat ≤ 256 := by omega
  generalize (max (min p 256) 0).toNat = c at *
  have hs : (new.extract 0 c).size = c := by rw [ByteArray.size_extract]; omega
  by_cases h : j < c
  · right
    rw [byteAt_append_left (by omega), byteAt_extract (by omega) (by omega), Nat.zero_add]
  · left
    rw [byteAt_append_right (by omega), hs, byteAt_extract (by omega) (by omega)]
    congr 1
    omega
theorem getD_set_same (s : List ByteArray) (b : Nat) (d : ByteArray) (h : b < s.length) : (s.set b d).getD b noText = d := by
  rw [List.getD_eq_getElem?_getD, List.getElem?_set_self h, Option.getD_some]
theorem getD_set_other (s : List ByteArray) (b m : Nat) (d : ByteArray) (h : b ≠ m) : (s.set b d).getD m noText = s.getD m noText := by
  rw [List.getD_eq_getElem?_getD, List.getElem?_set_ne h, ← List.getD_eq_getElem?_getD]
theorem crashed_at (picks : List Int) (m j : Nat) (hj : j < 256) : ∀ (l : List (Nat × ByteArray)) (i : Nat) (s : List ByteArray), (∀ t ∈ s, t.size = 256) → (∀ w ∈ l, w.1 < s.length ∧ w.2.size = 256) →
    byteAt ((crashed s picks i l).getD m noText) j = byteAt (s.getD m noText) j ∨ ∃ w ∈ l, w.1 = m ∧ byteAt ((crashed s picks i l).getD m noText) j = byteAt w.2 j
  | [], _, _, _, _ => Or.inl rfl
  | w :: l, i, s, h, hl => by
    have hw := hl w (by simp)
    have ho := getD_size h w.1 hw.1
    unfold crashed
    rcases crashed_at picks m j hj l (i + 1) (s.set w.1 (torn (s.getD w.1 noText) w.2 (picks.getD i 0))) (full_set h w.1 _ (torn_size _ _ _ ho hw.2)) (fun x hx => by rw [List.length_set]; exact hl x (List.mem_cons_of_mem _ hx)) with h1 | ⟨x, hx, h2, h3⟩
    · rw [h1]
      by_cases e : w.1 = m
      · subst e
        rw [getD_set_same _ _ _ hw.1]
        rcases torn_byte (p := picks.getD i 0) ho hw.2 hj with h4 | h4
        · exact Or.inl h4
        · exact Or.inr ⟨w, by simp, rfl, h4⟩
      · rw [getD_set_other _ _ _ _ e]
        exact Or.inl rfl
    · exact Or.inr ⟨x, List.mem_cons_of_mem _ hx, h2, h3⟩
theorem crashed_none : ∀ (l : List (Nat × ByteArray)) (i : Nat) (s : List ByteArray), (∀ t ∈ s, t.size = 256) → (∀ w ∈ l, w.1 < s.length ∧ w.2.size = 256) → crashed s [] i l = s
  | [], _, _, _, _ => rfl
  | w :: l, i, s, h, hl => by
    have hw := hl w (by simp)
    have ho := getD_size h w.1 hw.1
    unfold crashed
    have e : s.set w.1 (torn (s.getD w.1 noText) w.2 (([] : List Int).getD i 0)) = s := by
      have e1 : torn (s.getD w.1 noText) w.2 (([] : List Int).getD i 0) = s.getD w.1 noText := by
        show torn (s.getD w.1 noText) w.2 0 = _
        unfold torn
        show w.2.extract 0 0 ++ (s.getD w.1 noText).extract 0 _ = _
        apply ByteArray.ext
        rw [ByteArray.data_append, ByteArray.data_extract, ByteArray.data_extract]
        simp
      rw [e1, List.getD_eq_getElem?_getD, List.getElem?_eq_getElem hw.1, Option.getD_some, List.set_getElem_self]
    rw [e]
    exact crashed_none l (i + 1) s h (fun x hx => hl x (List.mem_cons_of_mem _ hx))
theorem crashed_all (picks : List Int) : ∀ (l : List (Nat × ByteArray)) (i : Nat) (s : List ByteArray), (∀ t ∈ s, t.size = 256) → (∀ w ∈ l, w.1 < s.length ∧ w.2.size = 256) → (∀ j, j < l.length → picks.getD (i + j) 0 = 256) → crashed s picks i l = laid s l
  | [], _, _, _, _, _ => rfl
  | w :: l, i, s, h, hl, hp => by
    have hw := hl w (by simp)
    have ho := getD_size h w.1 hw.1
    unfold crashed laid
    have e : torn (s.getD w.1 noText) w.2 (picks.getD i 0) = w.2 := by
      rw [show picks.getD i 0 = 256 from hp 0 (by simp)]
      unfold torn
      show w.2.extract 0 256 ++ (s.getD w.1 noText).extract 256 _ = _
      rw [ho]
      apply ByteArray.ext
      have h2 : w.2.data.size = 256 := hw.2
      rw [ByteArray.data_append, ByteArray.data_extract, ByteArray.data_extract, ← h2, Array.extract_size]
      rw [Array.extract_empty_of_stop_le_start (Nat.le_refl _), Array.append_empty]
    rw [e]
    exact crashed_all picks l (i + 1) _ (full_set h w.1 _ hw.2) (fun x hx => by rw [List.length_set]; exact hl x (List.mem_cons_of_mem _ hx)) (fun j hj => by
      have := hp (j + 1) (by simpa using hj)
      rw [show i + 1 + j = i + (j + 1) from by omega]; exact this)
theorem joined_byte : ∀ (l : List ByteArray) (s : ByteArray) (k : Nat), (∀ t ∈ l, t.size = 256) → k < 256 * l.length → byteAt (l.foldl (fun s t => s ++ t) s) (s.size + k) = byteAt (l.getD (k / 256) noText) (k % 256)
  | [], _, k, _, hk => absurd hk (by simp)
  | t :: l, s, k, h, hk => by
    rw [List.foldl_cons]
    have ht := h t (by simp)
    by_cases h1 : k < 256
    · rw [Nat.div_eq_of_lt h1, Nat.mod_eq_of_lt h1]
      have : ∀ (l : List ByteArray) (u : ByteArray) (i : Nat), i < u.size → byteAt (l.foldl (fun s t => s ++ t) u) i = byteAt u i := by
        intro l
        induction l with
        | nil => intro u i _; rfl
        | cons t l ih => intro u i hi; rw [List.foldl_cons, ih _ _ (by rw [ByteArray.size_append]; omega), byteAt_append_left hi]
      rw [this l (s ++ t) (s.size + k) (by rw [ByteArray.size_append]; omega), byteAt_append_right (by omega)]
      show _ = byteAt t k
      congr 1
      omega
    · have ih := joined_byte l (s ++ t) (k - 256) (fun u hu => h u (List.mem_cons_of_mem _ hu)) (by rw [List.length_cons] at hk; omega)
      rw [ByteArray.size_append, ht, show s.size + 256 + (k - 256) = s.size + k from by omega] at ih
      rw [ih, show k / 256 = (k - 256) / 256 + 1 from by omega, show k % 256 = (k - 256) % 256 from by omega]
      rfl
theorem joined_at (l : List ByteArray) (k : Nat) (h : ∀ t ∈ l, t.size = 256) (hk : k < 256 * l.length) : byteAt (joined l) k = byteAt (l.getD (k / 256) noText) (k % 256) := by
  have := joined_byte l noText k h hk
  rw [show noText.size + k = k from by show 0 + k = k; omega] at this
  exact this
end Go.Proofs.YtiebhdgpnloieaaDoor
