/- Disks, plain: what is sure, what is loose, the fuse; no program in sight. -/
namespace Go.Proofs.YtiebhdgpnloieaaDoor

/-- A disk: what is sure, block by block; what is loose, in order; the fuse (below 0: none). -/
structure St where
  sure : List ByteArray
  loose : List (Nat × ByteArray)
  left : Int
/-- 256 bytes 0. -/
def zblock : ByteArray := ⟨(List.replicate 256 0).toArray⟩
theorem zblock_size : zblock.size = 256 := by
  show (List.replicate 256 (0 : UInt8)).toArray.size = 256
  rw [List.size_toArray, List.length_replicate]
def noText : ByteArray := ⟨#[]⟩
/-- One block, written. -/
def put (s : List ByteArray) (b : Nat) (d : ByteArray) : List ByteArray := s.set b d
/-- All writes made sure, in order. -/
def laid (s : List ByteArray) : List (Nat × ByteArray) → List ByteArray
  | [] => s
  | w :: l => laid (s.set w.1 w.2) l
/-- As many bytes of a write as its pick says, the others as they were. -/
def torn (old new : ByteArray) (p : Int) : ByteArray := new.extract 0 (max (min p 256) 0).toNat ++ old.extract (max (min p 256) 0).toNat old.size
/-- What a crash leaves: write by write, from the i-th pick on. -/
def crashed (s : List ByteArray) (picks : List Int) : Nat → List (Nat × ByteArray) → List ByteArray
  | _, [] => s
  | i, w :: l => crashed (s.set w.1 (torn (s.getD w.1 noText) w.2 (picks.getD i 0))) picks (i + 1) l
/-- What stands in block b, looked up from the last write on. -/
def stands (s : List ByteArray) (b : Nat) : List (Nat × ByteArray) → ByteArray
  | [] => s.getD b noText
  | w :: l => if w.1 = b then w.2 else stands s b l
/-- A call that is done. -/
def counted (left : Int) : Int := if 0 < left then left - 1 else left
def St.new (n : Nat) : St := ⟨List.replicate n zblock, [], -1⟩
def St.has (st : St) (b : Int) : Prop := 0 ≤ b ∧ b < (st.sure.length : Int)
def St.write (st : St) (b : Int) (d : ByteArray) : Nat × St :=
  if st.left = 0 then (50, st) else if ¬ (0 ≤ b ∧ b < (st.sure.length : Int)) then (5, st) else if d.size ≠ 256 then (2, st)
  else (0, ⟨st.sure, st.loose ++ [(b.toNat, d)], counted st.left⟩)
def St.sync (st : St) : Nat × St := if st.left = 0 then (50, st) else (0, ⟨laid st.sure st.loose, [], counted st.left⟩)
def St.fuse (st : St) (n : Int) : St := ⟨st.sure, st.loose, max n (-1)⟩
def St.crash (st : St) (picks : List Int) : St := ⟨crashed st.sure picks 0 st.loose, [], -1⟩
def St.read (st : St) (b : Int) : ByteArray × Nat :=
  if st.left = 0 then (noText, 50) else if ¬ (0 ≤ b ∧ b < (st.sure.length : Int)) then (noText, 5) else (stands st.sure b.toNat st.loose.reverse, 0)
/-- Texts, one behind the other. -/
def joined (l : List ByteArray) : ByteArray := l.foldl (fun s t => s ++ t) noText
def St.text (st : St) : ByteArray := joined st.sure
/-- What a disk always is. -/
structure St.Ok (st : St) : Prop where
  few : st.sure.length ≤ 4096
  some : 1 ≤ st.sure.length
  full : ∀ s ∈ st.sure, s.size = 256
  there : ∀ w ∈ st.loose, w.1 < st.sure.length ∧ w.2.size = 256
  left : -1 ≤ st.left ∧ st.left ≤ 9223372036854775807
theorem torn_size (old new : ByteArray) (p : Int) (ho : old.size = 256) (hn : new.size = 256) : (torn old new p).size = 256 := by
  unfold torn
  rw [ByteArray.size_append, ByteArray.size_extract, ByteArray.size_extract]
  omega
theorem laid_length : ∀ (l : List (Nat × ByteArray)) (s : List ByteArray), (laid s l).length = s.length
  | [], _ => rfl
  | w :: l, s => by unfold laid; rw [laid_length l, List.length_set]
theorem crashed_length (picks : List Int) : ∀ (l : List (Nat × ByteArray)) (i : Nat) (s : List ByteArray), (crashed s picks i l).length = s.length
  | [], _, _ => rfl
  | w :: l, i, s => by unfold crashed; rw [crashed_length picks l, List.length_set]
theorem full_set {s : List ByteArray} (h : ∀ t ∈ s, t.size = 256) (b : Nat) (d : ByteArray) (hd : d.size = 256) : ∀ t ∈ s.set b d, t.size = 256 := fun t ht => by
  rcases List.mem_or_eq_of_mem_set ht with h1 | h1
  · exact h t h1
  · rw [h1]; exact hd
theorem getD_size {s : List ByteArray} (h : ∀ t ∈ s, t.size = 256) (b : Nat) (hb : b < s.length) : (s.getD b noText).size = 256 := by
  rw [List.getD_eq_getElem?_getD, List.getElem?_eq_getElem hb, Option.getD_some]
  exact h _ (List.getElem_mem hb)
theorem laid_full : ∀ (l : List (Nat × ByteArray)) (s : List ByteArray), (∀ t ∈ s, t.size = 256) → (∀ w ∈ l, w.2.size = 256) → ∀ t ∈ laid s l, t.size = 256
  | [], _, h, _ => h
  | w :: l, s, h, hl => by
    unfold laid
    exact laid_full l _ (full_set h w.1 w.2 (hl w (by simp))) (fun x hx => hl x (List.mem_cons_of_mem _ hx))
theorem crashed_full (picks : List Int) : ∀ (l : List (Nat × ByteArray)) (i : Nat) (s : List ByteArray), (∀ t ∈ s, t.size = 256) → (∀ w ∈ l, w.1 < s.length ∧ w.2.size = 256) → ∀ t ∈ crashed s picks i l, t.size = 256
  | [], _, _, h, _ => h
  | w :: l, i, s, h, hl => by
    unfold crashed
    have hw := hl w (by simp)
    exact crashed_full picks l (i + 1) _ (full_set h w.1 _ (torn_size _ _ _ (getD_size h w.1 hw.1) hw.2)) (fun x hx => by rw [List.length_set]; exact hl x (List.mem_cons_of_mem _ hx))
theorem counted_ok {x : Int} (h : -1 ≤ x ∧ x ≤ 9223372036854775807) : -1 ≤ counted x ∧ counted x ≤ 9223372036854775807 := by
  unfold counted; split <;> omega
theorem St.Ok.new {n : Nat} (h1 : 1 ≤ n) (h2 : n ≤ 4096) : (St.new n).Ok :=
  ⟨by show (List.replicate n zblock).length ≤ _; rw [List.length_replicate]; exact h2, by show 1 ≤ (List.replicate n zblock).length; rw [List.length_replicate]; exact h1, fun s hs => by rw [List.eq_of_mem_replicate hs]; exact zblock_size, fun w hw => absurd hw (by simp [St.new]), by show (-1 : Int) ≤ -1 ∧ (-1 : Int) ≤ _; omega⟩
theorem St.Ok.write {st : St} (h : st.Ok) (b : Int) (d : ByteArray) : (st.write b d).2.Ok := by
  unfold St.write
  split
  · exact h
  · split
    · exact h
    · split
      · exact h
      · rename_i h1 h2 h3
        exact ⟨h.few, h.some, h.full, fun w hw => by
          rcases List.mem_append.1 hw with h4 | h4
          · exact h.there w h4
          · simp at h4; rw [h4]; exact ⟨by show b.toNat < st.sure.length; omega, by show d.size = 256; omega⟩, counted_ok h.left⟩
theorem St.Ok.sync {st : St} (h : st.Ok) : st.sync.2.Ok := by
  unfold St.sync
  split
  · exact h
  · exact ⟨by show (laid _ _).length ≤ _; rw [laid_length]; exact h.few, by show 1 ≤ (laid _ _).length; rw [laid_length]; exact h.some, laid_full _ _ h.full (fun w hw => (h.there w hw).2), fun w hw => absurd hw (by simp), counted_ok h.left⟩
theorem St.Ok.fuse {st : St} (h : st.Ok) (n : Int) (hn : n ≤ 9223372036854775807) : (st.fuse n).Ok :=
  ⟨h.few, h.some, h.full, h.there, by show (-1 : Int) ≤ max n (-1) ∧ max n (-1) ≤ _; omega⟩
theorem St.Ok.crash {st : St} (h : st.Ok) (picks : List Int) : (st.crash picks).Ok :=
  ⟨by show (crashed _ _ _ _).length ≤ _; rw [crashed_length]; exact h.few, by show 1 ≤ (crashed _ _ _ _).length; rw [crashed_length]; exact h.some, crashed_full picks _ _ _ h.full h.there, fun w hw => absurd hw (by simp [St.crash]), by show (-1 : Int) ≤ -1 ∧ (-1 : Int) ≤ _; omega⟩
end Go.Proofs.YtiebhdgpnloieaaDoor
