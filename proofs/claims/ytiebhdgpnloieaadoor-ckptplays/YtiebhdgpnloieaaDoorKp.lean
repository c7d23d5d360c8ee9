/- Checkpoints, plain: what a crash leaves of a Save, and what is loaded then. -/
import Derived.Test.YtiebhdgpnloieaaDoorCp
namespace Go.Proofs.YtiebhdgpnloieaaDoor
open Frm
theorem list_take8 (g : Nat) (t : ByteArray) : (headT g t).data.toList.take 8 = lowL g 8 := by
  show (headL g t).take 8 = _
  unfold headL
  simp only [List.append_assoc]
  rw [List.take_append_of_le_length (by rw [lowL_length]; omega), List.take_of_length_le (by rw [lowL_length]; omega)]
theorem list_take4 (g : Nat) (t : ByteArray) : ((headT g t).data.toList.drop 8).take 4 = lowL t.size 4 := by
  show ((headL g t).drop 8).take 4 = _
  unfold headL
  simp only [List.append_assoc]
  rw [List.drop_append, List.drop_of_length_le (by rw [lowL_length]; omega), lowL_length, List.nil_append, Nat.sub_self, List.drop_zero, List.take_append_of_le_length (by rw [lowL_length]; omega), List.take_of_length_le (by rw [lowL_length]; omega)]
set_option maxRecDepth 10000 in
theorem head_last (g : Nat) (t : ByteArray) : byteAt (headT g t) 255 = some 165 := by
  show (headL g t).toArray[255]? = _
  rw [List.getElem?_toArray]
  unfold headL
  rw [List.getElem?_append_right (by simp [lowL_length])]
  simp [lowL_length]
/-- What the head of the other slot is like. -/
def Oth (H : ByteArray) (g : Nat) : Prop := byteAt H 255 ≠ some 165 ∨ numL (H.data.toList.take 8) < g
/-- The text of blocks. -/
theorem joined_text (t : ByteArray) (l : List ByteArray) (h : ∀ x ∈ l, x.size = 256) (hl : l.length = nb t.size) (hb : ∀ i, i < nb t.size → l.getD i noText = blkT t i) :
    (joined l).extract 0 t.size = t ∧ (joined l).extract t.size (joined l).size = zs ((joined l).size - t.size) := by
  have hs : (joined l).size = 256 * l.length := by
    have e : ∀ (l : List ByteArray) (s : ByteArray), (∀ x ∈ l, x.size = 256) → (l.foldl (fun s t => s ++ t) s).size = s.size + 256 * l.length := by
      intro l
      induction l with
      | nil => intro s _; simp
      | cons a l ih => intro s h; rw [List.foldl_cons, ih _ (fun x hx => h x (List.mem_cons_of_mem _ hx)), ByteArray.size_append, h a (by simp), List.length_cons]; omega
    unfold joined
    rw [e l noText h]
    show 0 + _ = _
    omega
  have hn : t.size ≤ 256 * l.length := by rw [hl]; unfold nb; omega
  have hat : ∀ k, k < 256 * l.length → byteAt (joined l) k = byteAt (blkT t (k / 256)) (k % 256) := fun k hk => by
    rw [joined_at l k h hk, hb (k / 256) (by rw [← hl]; omega)]
  constructor
  · refine bytes_ext (by rw [ByteArray.size_extract]; omega) (fun j hj => ?_)
    rw [ByteArray.size_extract] at hj
    rw [byteAt_extract (by omega) (by omega), Nat.zero_add, hat j (by omega), blkT_data t (j / 256) (j % 256) (Nat.mod_lt _ (by decide)) (by omega)]
    congr 1
    omega
  · refine bytes_ext (by rw [ByteArray.size_extract, zs_size]; omega) (fun j hj => ?_)
    rw [ByteArray.size_extract] at hj
    rw [byteAt_extract (by omega) (by omega), hat (t.size + j) (by omega), blkT_rest t ((t.size + j) / 256) ((t.size + j) % 256) (Nat.mod_lt _ (by decide)) (by omega), byteAt_zs _ _ (by omega)]
/-- A slot of which the head and the text's blocks are right is whole. -/
theorem whole_yes (l : List ByteArray) (odd g : Nat) (t : ByteArray) (hf : ∀ x ∈ l, x.size = 256) (hg : 1 ≤ g ∧ g ≤ 4611686018427387904) (ho : g % 2 = odd) (hs : t.size ≤ (l.length - 1) * 256) (hL : l.length ≤ 4096)
    (hh : l.getD 0 noText = headT g t) (hb : ∀ i, i < nb t.size → l.getD (1 + i) noText = blkT t i) : wholeT l odd = (g, t) := by
  have e8 : numL ((headT g t).data.toList.take 8) = g := by rw [list_take8, numL_low]; exact Nat.mod_eq_of_lt (by omega)
  have e4 : numL (((headT g t).data.toList.drop 8).take 4) = t.size := by rw [list_take4, numL_low]; exact Nat.mod_eq_of_lt (by omega)
  have hn : nb t.size ≤ l.length - 1 := by unfold nb; omega
  have hj := joined_text t ((l.drop 1).take (nb t.size)) (fun x hx => hf x (List.mem_of_mem_drop (List.mem_of_mem_take hx))) (by rw [List.length_take, List.length_drop]; omega) (fun i hi => by
    rw [List.getD_eq_getElem?_getD, List.getElem?_take_of_lt hi, List.getElem?_drop, ← List.getD_eq_getElem?_getD]
    exact hb i hi)
  unfold wholeT
  simp only
  rw [hh, e8, e4, if_neg (by omega), hj.1, if_pos ⟨rfl, hj.2⟩]
/-- A slot whose head is like that has no number so great. -/
theorem whole_less (l : List ByteArray) (odd g : Nat) (hg : 1 ≤ g) (h : Oth (l.getD 0 noText) g) : (wholeT l odd).1 < g := by
  unfold wholeT
  simp only
  split
  · exact hg
  · split
    · rename_i h1 h2
      rcases h with h3 | h3
      · exact absurd (by rw [h2.1]; exact head_last _ _) h3
      · exact h3
    · exact hg
/-- So many calls later. -/
def Lft (m : Nat) (l l' : Int) : Prop := (l = -1 ∧ l' = -1) ∨ ((m : Int) ≤ l ∧ l' = l - m)
theorem Lft.next {m : Nat} {l l' : Int} (h : Lft m l l') (h0 : l' ≠ 0) : Lft (m + 1) l (counted l') := by
  unfold Lft counted at *
  rcases h with ⟨h1, h2⟩ | ⟨h1, h2⟩
  · left; rw [h2]; exact ⟨h1, by simp⟩
  · right; rw [if_pos (by omega)]; omega
theorem write_cases (st : St) (b : Nat) (d : ByteArray) (hb : b < st.sure.length) (hd : d.size = 256) :
    (st.left = 0 ∧ st.write (b : Int) d = (50, st)) ∨ (st.left ≠ 0 ∧ st.write (b : Int) d = (0, ⟨st.sure, st.loose ++ [(b, d)], counted st.left⟩)) := by
  unfold St.write
  by_cases h : st.left = 0
  · exact Or.inl ⟨h, by rw [if_pos h]⟩
  · refine Or.inr ⟨h, ?_⟩
    rw [if_neg h, if_neg (by omega), if_neg (by omega)]
    rfl
theorem sync_cases (st : St) : (st.left = 0 ∧ st.sync = (50, st)) ∨ (st.left ≠ 0 ∧ st.sync = (0, ⟨laid st.sure st.loose, [], counted st.left⟩)) := by
  unfold St.sync
  by_cases h : st.left = 0
  · exact Or.inl ⟨h, by rw [if_pos h]⟩
  · exact Or.inr ⟨h, by rw [if_neg h]⟩
theorem andT_no (s : St) (f : St → Nat × St) : andT (50, s) f = (50, s) := by unfold andT; exact if_neg (show ¬ (50 : Nat) = 0 by decide)
theorem andT_yes (s : St) (f : St → Nat × St) : andT (0, s) f = f s := by unfold andT; rw [if_pos rfl]
/-- The first j writes of a text from the i-th block on. -/
def tws (o : Nat) (t : ByteArray) (i j : Nat) : List (Nat × ByteArray) := (List.range' i j).map fun k => (o + k, blkT t k)
theorem puts_cases (o : Nat) (t : ByteArray) (S : List ByteArray) (l0 : Int) : ∀ (n i : Nat) (L : List (Nat × ByteArray)) (m : Nat) (l' : Int), o + i + n ≤ S.length → Lft m l0 l' →
    (∃ j, j ≤ n ∧ ∃ l2, putsT o t n i ⟨S, L, l'⟩ = (50, ⟨S, L ++ tws o t i j, l2⟩) ∧ l0 = (m + j : Nat) ∧ j < n) ∨ ∃ l2, putsT o t n i ⟨S, L, l'⟩ = (0, ⟨S, L ++ tws o t i n, l2⟩) ∧ Lft (m + n) l0 l2
  | 0, i, L, m, l', _, h => Or.inr ⟨l', by show (0, _) = _; unfold tws; simp, h⟩
  | n + 1, i, L, m, l', hl, h => by
    show (∃ j, _ ∧ ∃ l2, andT (St.write ⟨S, L, l'⟩ ((o + i : Nat) : Int) (blkT t i)) (putsT o t n (i + 1)) = _ ∧ _) ∨ ∃ l2, andT (St.write ⟨S, L, l'⟩ ((o + i : Nat) : Int) (blkT t i)) (putsT o t n (i + 1)) = _ ∧ _
    rcases write_cases ⟨S, L, l'⟩ (o + i) (blkT t i) (by show o + i < S.length; omega) (blkT_size t i) with ⟨h0, e⟩ | ⟨h0, e⟩
    · rw [e, andT_no]
      refine Or.inl ⟨0, by omega, l', ?_, ?_, by omega⟩
      · unfold tws; simp
      · have h0' : l' = 0 := h0
        unfold Lft at h
        omega
    · rw [e, andT_yes]
      have hx : ∀ j, L ++ [(o + i, blkT t i)] ++ tws o t (i + 1) j = L ++ tws o t i (j + 1) := fun j => by
        unfold tws
        rw [List.range'_succ, List.map_cons]
        simp
      rcases puts_cases o t S l0 n (i + 1) (L ++ [(o + i, blkT t i)]) (m + 1) (counted l') (by omega) (h.next h0) with ⟨j, h1, l2, h2, h3, h4⟩ | ⟨l2, h2, h3⟩
      · exact Or.inl ⟨j + 1, by omega, l2, by rw [← hx]; exact h2, by omega, by omega⟩
      · exact Or.inr ⟨l2, by rw [← hx]; exact h2, by rw [show m + (n + 1) = m + 1 + n from by omega]; exact h3⟩
/-- What a Save in a slot may leave of a disk that stands still. -/
theorem save_cases (a g : Nat) (t : ByteArray) (S : List ByteArray) (l0 : Int) (ha : a + 1 + nb t.size ≤ S.length) (h1 : -1 ≤ l0) :
    (∃ l2, saveAt a g t ⟨S, [], l0⟩ = (50, ⟨S, [], l2⟩) ∧ 0 ≤ l0 ∧ l0 ≤ nb t.size + 3) ∨ (∃ l2, saveAt a g t ⟨S, [], l0⟩ = (50, ⟨S, [(a, zblock)], l2⟩) ∧ 0 ≤ l0 ∧ l0 ≤ nb t.size + 3) ∨
    (∃ j l2, j ≤ nb t.size ∧ saveAt a g t ⟨S, [], l0⟩ = (50, ⟨S.set a zblock, tws (a + 1) t 0 j, l2⟩) ∧ 0 ≤ l0 ∧ l0 ≤ nb t.size + 3) ∨
    (∃ l2, saveAt a g t ⟨S, [], l0⟩ = (50, ⟨laid (S.set a zblock) (tws (a + 1) t 0 (nb t.size)), [], l2⟩) ∧ 0 ≤ l0 ∧ l0 ≤ nb t.size + 3) ∨
    (∃ l2, saveAt a g t ⟨S, [], l0⟩ = (50, ⟨laid (S.set a zblock) (tws (a + 1) t 0 (nb t.size)), [(a, headT g t)], l2⟩) ∧ l0 = nb t.size + 4) ∨
    (∃ l2, saveAt a g t ⟨S, [], l0⟩ = (0, ⟨(laid (S.set a zblock) (tws (a + 1) t 0 (nb t.size))).set a (headT g t), [], l2⟩) ∧ (l0 = -1 ∧ l2 = -1 ∨ nb t.size + 5 ≤ l0)) := by
  have L0 : Lft 0 l0 l0 := by unfold Lft; omega
  unfold saveAt
  rcases write_cases ⟨S, [], l0⟩ a zblock (by show a < S.length; omega) zblock_size with ⟨h0, e⟩ | ⟨h0, e⟩
  · rw [e, andT_no, andT_no, andT_no, andT_no, andT_no]
    have h0' : l0 = 0 := h0
    exact Or.inl ⟨l0, rfl, by omega, by omega⟩
  have L1 := L0.next h0
  rw [e, andT_yes]
  rcases sync_cases ⟨S, [] ++ [(a, zblock)], counted l0⟩ with ⟨h0', e'⟩ | ⟨h0', e'⟩
  · rw [e', andT_no, andT_no, andT_no, andT_no]
    have h2 : counted l0 = 0 := h0'
    have : l0 = 1 := by unfold Lft at L1; omega
    exact Or.inr (Or.inl ⟨_, rfl, by omega, by omega⟩)
  have L2 := L1.next h0'
  rw [e', andT_yes]
  have es : laid S ([] ++ [(a, zblock)]) = S.set a zblock := rfl
  rw [es]
  rcases puts_cases (a + 1) t (S.set a zblock) l0 (nb t.size) 0 [] 2 (counted (counted l0)) (by rw [List.length_set]; omega) L2 with ⟨j, hj, l2, h2, h3, h4⟩ | ⟨l2, h2, L3⟩
  · rw [h2, andT_no, andT_no, andT_no]
    exact Or.inr (Or.inr (Or.inl ⟨j, l2, hj, by rw [List.nil_append], by omega, by omega⟩))
  rw [h2, andT_yes, List.nil_append]
  rcases sync_cases ⟨S.set a zblock, tws (a + 1) t 0 (nb t.size), l2⟩ with ⟨h5, e5⟩ | ⟨h5, e5⟩
  · rw [e5, andT_no, andT_no]
    have h6 : l2 = 0 := h5
    refine Or.inr (Or.inr (Or.inl ⟨nb t.size, l2, Nat.le_refl _, rfl, ?_, ?_⟩)) <;> (unfold Lft at L3; omega)
  have L4 := L3.next h5
  rw [e5, andT_yes]
  have hlen : ∀ (l : List (Nat × ByteArray)) (s : List ByteArray), (laid s l).length = s.length := laid_length
  rcases write_cases ⟨laid (S.set a zblock) (tws (a + 1) t 0 (nb t.size)), [], counted l2⟩ a (headT g t) (by show a < (laid _ _).length; rw [hlen, List.length_set]; omega) (headT_size g t) with ⟨h6, e6⟩ | ⟨h6, e6⟩
  · rw [e6, andT_no]
    have h7 : counted l2 = 0 := h6
    refine Or.inr (Or.inr (Or.inr (Or.inl ⟨_, rfl, ?_, ?_⟩))) <;> (unfold Lft at L4; omega)
  have L5 := L4.next h6
  rw [e6, andT_yes]
  rcases sync_cases ⟨laid (S.set a zblock) (tws (a + 1) t 0 (nb t.size)), [] ++ [(a, headT g t)], counted (counted l2)⟩ with ⟨h7, e7⟩ | ⟨h7, e7⟩
  · rw [e7]
    have h8 : counted (counted l2) = 0 := h7
    refine Or.inr (Or.inr (Or.inr (Or.inr (Or.inl ⟨_, rfl, ?_⟩))))
    unfold Lft at L5; omega
  · rw [e7]
    have L6 := L5.next h7
    refine Or.inr (Or.inr (Or.inr (Or.inr (Or.inr ⟨counted (counted (counted l2)), rfl, ?_⟩))))
    unfold Lft at L6; omega
theorem laid_other (b : Nat) : ∀ (l : List (Nat × ByteArray)) (s : List ByteArray), (∀ w ∈ l, w.1 ≠ b) → (laid s l).getD b noText = s.getD b noText
  | [], _, _ => rfl
  | w :: l, s, h => by
    show (laid (s.set w.1 w.2) l).getD b noText = _
    rw [laid_other b l _ (fun x hx => h x (List.mem_cons_of_mem _ hx)), getD_set_other _ _ _ _ (h w (by simp))]
theorem crashed_other (picks : List Int) (b : Nat) : ∀ (l : List (Nat × ByteArray)) (i : Nat) (s : List ByteArray), (∀ w ∈ l, w.1 ≠ b) → (crashed s picks i l).getD b noText = s.getD b noText
  | [], _, _, _ => rfl
  | w :: l, i, s, h => by
    show (crashed (s.set w.1 _) picks (i + 1) l).getD b noText = _
    rw [crashed_other picks b l _ _ (fun x hx => h x (List.mem_cons_of_mem _ hx)), getD_set_other _ _ _ _ (h w (by simp))]
theorem tws_mem {o i j : Nat} {t : ByteArray} {w : Nat × ByteArray} (h : w ∈ tws o t i j) : o + i ≤ w.1 ∧ w.1 < o + i + j ∧ w.2.size = 256 := by
  unfold tws at h
  obtain ⟨k, hk, rfl⟩ := List.mem_map.1 h
  rw [List.mem_range'_1] at hk
  exact ⟨by show o + i ≤ o + k; omega, by show o + k < _; omega, blkT_size t k⟩
/-- What is laid of a text's blocks. -/
theorem laid_tws (o : Nat) (t : ByteArray) : ∀ (n i : Nat) (S : List ByteArray), o + i + n ≤ S.length → ∀ k, i ≤ k → k < i + n → (laid S (tws o t i n)).getD (o + k) noText = blkT t k
  | 0, i, S, _, k, h1, h2 => by omega
  | n + 1, i, S, hl, k, h1, h2 => by
    have e : tws o t i (n + 1) = (o + i, blkT t i) :: tws o t (i + 1) n := by unfold tws; rw [List.range'_succ, List.map_cons]
    rw [e]
    show (laid (S.set (o + i) (blkT t i)) (tws o t (i + 1) n)).getD (o + k) noText = _
    by_cases hk : k = i
    · subst hk
      rw [laid_other _ _ _ (fun w hw => by have := tws_mem hw; omega), getD_set_same _ _ _ (by omega)]
    · exact laid_tws o t n (i + 1) _ (by rw [List.length_set]; omega) k (by omega) (by omega)
/-- Where the slot of a number begins, of N blocks from 0 on. -/
def slN (N g : Nat) : Nat := g % 2 * (N / 2)
theorem slN_le (N g : Nat) : slN N g ≤ N / 2 := by
  unfold slN
  rcases (by omega : g % 2 = 0 ∨ g % 2 = 1) with h | h <;> rw [h] <;> omega
/-- The disk's N blocks have a checkpoint whole, and nothing greater. -/
structure Keep (N : Nat) (st : St) (g : Nat) (t : ByteArray) : Prop where
  ok : st.Ok
  len : st.sure.length = N
  loose : st.loose = []
  left : st.left = -1
  fit : t.size ≤ (N / 2 - 1) * 256
  head : st.sure.getD (slN N g) noText = headT g t
  body : ∀ i, i < nb t.size → st.sure.getD (slN N g + 1 + i) noText = blkT t i
  oth : Oth (st.sure.getD (slN N (g + 1)) noText) g
theorem nb_fit {N : Nat} {t : ByteArray} (h : t.size ≤ (N / 2 - 1) * 256) (h4 : 4 ≤ N) : nb t.size + 1 ≤ N / 2 := by unfold nb; omega
theorem blocks_getD (st : St) (a k i : Nat) (hi : i < k) (hl : st.loose = []) : (blocksAt st a k).getD i noText = st.sure.getD (a + i) noText := by
  unfold blocksAt
  rw [List.getD_eq_getElem?_getD, List.getElem?_map, List.getElem?_range hi]
  show stands st.sure (a + i) st.loose.reverse = _
  rw [hl]
  rfl
/-- What is loaded then. -/
theorem Keep.load {N : Nat} {st : St} {g : Nat} {t : ByteArray} (h : Keep N st g t) (h4 : 4 ≤ N) (hN : N ≤ 4096) (he : N % 2 = 0) (hg : 1 ≤ g ∧ g ≤ 4611686018427387904) : st.load 0 (N : Int) = ((g, t), 0) := by
  have hr : room (N : Int) ≠ 0 := by unfold room; rw [if_neg (by omega)]; omega
  have hm : st.mayC 0 (N : Int) := ⟨hr, by omega, by rw [h.len]; omega⟩
  have hlen : ∀ k, (blocksAt st k (N / 2)).length = N / 2 := fun k => by unfold blocksAt; simp
  have hfull : ∀ k, k + N / 2 ≤ N → ∀ x ∈ blocksAt st k (N / 2), x.size = 256 := fun k hk x hx => by
    unfold blocksAt at hx
    obtain ⟨i, hi, rfl⟩ := List.mem_map.1 hx
    rw [List.mem_range] at hi
    rw [h.loose]
    exact getD_size h.ok.full _ (by rw [h.len]; omega)
  have hs : ∀ k, slotAt 0 (N : Int) k = slN N k := fun k => by unfold slotAt slN; simp
  have hnb := nb_fit h.fit h4
  have hsl := slN_le N g
  have hsl2 := slN_le N (g + 1)
  have W1 : wholeT (blocksAt st (slN N g) (N / 2)) (g % 2) = (g, t) := by
    refine whole_yes _ _ g t (hfull _ (by omega)) hg rfl (by rw [hlen]; exact h.fit) (by rw [hlen]; omega) ?_ (fun i hi => ?_)
    · rw [blocks_getD st _ _ 0 (by omega) h.loose]; exact h.head
    · rw [blocks_getD st _ _ (1 + i) (by omega) h.loose, ← Nat.add_assoc]; exact h.body i hi
  have W2 : (wholeT (blocksAt st (slN N (g + 1)) (N / 2)) ((g + 1) % 2)).1 < g := by
    refine whole_less _ _ g hg.1 ?_
    rw [blocks_getD st _ _ 0 (by omega) h.loose]
    exact h.oth
  unfold St.load
  rw [if_neg (fun hh => hh hm), if_neg (by rw [h.left]; decide)]
  simp only [hs, Int.toNat_natCast]
  rcases (by omega : g % 2 = 0 ∨ g % 2 = 1) with hp | hp
  · have e0 : slN N 0 = slN N g := by unfold slN; rw [hp]
    have e1 : slN N 1 = slN N (g + 1) := by unfold slN; rw [show (g + 1) % 2 = 1 from by omega]
    rw [hp] at W1
    rw [show (g + 1) % 2 = 1 from by omega] at W2
    rw [e0, e1, W1, if_neg (by simp; omega), if_pos (by exact W2)]
  · have e0 : slN N 1 = slN N g := by unfold slN; rw [hp]
    have e1 : slN N 0 = slN N (g + 1) := by unfold slN; rw [show (g + 1) % 2 = 0 from by omega]
    rw [hp] at W1
    rw [show (g + 1) % 2 = 0 from by omega] at W2
    rw [e0, e1, W1, if_neg (by simp; omega), if_neg (by show ¬ g < _; omega)]
/-- A head of which the first bytes are made 0. -/
theorem zlast : byteAt zblock 255 = some 0 := by
  show (List.replicate 256 (0 : UInt8)).toArray[255]? = _
  rw [List.getElem?_toArray]
  rfl
theorem torn_last (old new : ByteArray) (p : Int) (ho : old.size = 256) (hn : new.size = 256) : (256 ≤ p ∧ torn old new p = new) ∨ byteAt (torn old new p) 255 = byteAt old 255 := by
  unfold torn
  by_cases hp : 256 ≤ p
  · left
    refine ⟨hp, bytes_ext ?_ (fun j hj => ?_)⟩
    · rw [ByteArray.size_append, ByteArray.size_extract, ByteArray.size_extract]; omega
    · rw [ByteArray.size_append, ByteArray.size_extract, ByteArray.size_extract] at hj
      rw [byteAt_append_left (by rw [ByteArray.size_extract]; omega), byteAt_extract (by omega) (by omega), Nat.zero_add]
  · right
    rw [byteAt_append_right (by rw [ByteArray.size_extract]; omega), ByteArray.size_extract, byteAt_extract (Nat.le_refl _) (by omega)]
    congr 1
    omega
theorem Oth.zero {g : Nat} : Oth zblock g := by
  left
  rw [zlast]
  decide
theorem torn_zero8 (H : ByteArray) (hH : H.size = 256) (p : Int) : ∃ c, (torn H zblock p).data.toList.take 8 = List.replicate (min c (H.data.toList.take 8).length) 0 ++ (H.data.toList.take 8).drop c := by
  have hl : H.data.toList.length = 256 := by rw [Array.length_toList]; exact hH
  refine ⟨(max (min p 256) 0).toNat, ?_⟩
  unfold torn
  have hc : (max (min p 256) 0).toNat ≤ 256 := by omega
  generalize (max (min p 256) 0).toNat = c at *
  rw [ByteArray.data_append, Array.toList_append, ByteArray.data_extract, ByteArray.data_extract, Array.toList_extract, Array.toList_extract]
  simp only [List.extract_eq_take_drop, Nat.sub_zero, List.drop_zero]
  have hz : zblock.data.toList.take c = List.replicate c 0 := by
    show (List.replicate 256 (0 : UInt8)).take c = _
    rw [List.take_replicate, Nat.min_eq_left hc]
  rw [hz, List.take_of_length_le (l := H.data.toList.drop c) (by rw [List.length_drop, hl, hH]; omega), List.length_take, hl, show min 8 256 = 8 from rfl]
  by_cases h8 : 8 ≤ c
  · rw [List.take_append_of_le_length (by rw [List.length_replicate]; omega), List.take_replicate, List.drop_of_length_le (by rw [List.length_take, hl]; omega), List.append_nil, Nat.min_comm]
  · rw [List.take_append, List.length_replicate, List.take_of_length_le (by rw [List.length_replicate]; omega), Nat.min_eq_left (by omega), List.drop_take]
theorem Oth.torn {H : ByteArray} {g : Nat} (hH : H.size = 256) (h : Oth H g) (p : Int) : Oth (torn H zblock p) g := by
  rcases h with h | h
  · left
    rcases torn_last H zblock p hH zblock_size with ⟨_, h1⟩ | h1
    · rw [h1, zlast]; decide
    · rw [h1]; exact h
  · right
    obtain ⟨c, hc⟩ := torn_zero8 H hH p
    rw [hc]
    exact Nat.lt_of_le_of_lt (numL_zeroed _ c) h
/-- A head that is written in part, or whole. -/
theorem head_torn (g : Nat) (t : ByteArray) (p : Int) : torn zblock (headT g t) p = headT g t ∨ ∀ k, Oth (torn zblock (headT g t) p) k := by
  rcases torn_last zblock (headT g t) p zblock_size (headT_size g t) with ⟨_, h1⟩ | h1
  · exact Or.inl h1
  · right
    intro k
    left
    rw [h1, zlast]
    decide
set_option maxRecDepth 20000 in
/-- Behind a Save of the next number, and a crash. -/
theorem Keep.step {N : Nat} {st : St} {g : Nat} {t : ByteArray} (h : Keep N st g t) (h4 : 4 ≤ N) (hN : N ≤ 4096) (k : Nat) (hk : k ≤ 1000) (t' : ByteArray) (ht' : t'.size ≤ (N / 2 - 1) * 256) (picks : List Int) :
    ((saveAt (slN N (g + 1)) (g + 1) t' (st.fuse (k : Int))).1 = 50 ∧ Keep N ((saveAt (slN N (g + 1)) (g + 1) t' (st.fuse (k : Int))).2.crash picks) g t) ∨
    (((saveAt (slN N (g + 1)) (g + 1) t' (st.fuse (k : Int))).1 = 0 ∨ (saveAt (slN N (g + 1)) (g + 1) t' (st.fuse (k : Int))).1 = 50) ∧ nb t'.size + 4 ≤ k ∧ Keep N ((saveAt (slN N (g + 1)) (g + 1) t' (st.fuse (k : Int))).2.crash picks) (g + 1) t') := by
  have hnb := nb_fit ht' h4
  have hnbo := nb_fit h.fit h4
  have hsl := slN_le N (g + 1)
  have hapart : ∀ i, i < N / 2 → ∀ j, j < N / 2 → slN N (g + 1) + i ≠ slN N g + j := fun i hi j hj => by
    unfold slN
    rcases (by omega : g % 2 = 0 ∨ g % 2 = 1) with hp | hp
    · rw [hp, show (g + 1) % 2 = 1 from by omega]; omega
    · rw [hp, show (g + 1) % 2 = 0 from by omega]; omega
  have hslg : slN N (g + 1 + 1) = slN N g := by unfold slN; rw [show (g + 1 + 1) % 2 = g % 2 from by omega]
  have hfu : st.fuse (k : Int) = ⟨st.sure, [], (k : Int)⟩ := by unfold St.fuse; rw [h.loose, show max (k : Int) (-1) = (k : Int) from by omega]
  rw [hfu]
  have hokf : (⟨st.sure, [], (k : Int)⟩ : St).Ok := by rw [← hfu]; exact h.ok.fuse _ (by omega)
  have hlenS := h.len
  have hH256 : (st.sure.getD (slN N (g + 1)) noText).size = 256 := getD_size h.ok.full _ (by omega)
  -- the old one stays
  have old : ∀ S' : List ByteArray, (∀ x ∈ S', x.size = 256) → S'.length = N → (∀ j, j < N / 2 → S'.getD (slN N g + j) noText = st.sure.getD (slN N g + j) noText) → Oth (S'.getD (slN N (g + 1)) noText) g → Keep N ⟨S', [], -1⟩ g t := fun S' hf hl hs ho =>
    ⟨⟨by show S'.length ≤ 4096; omega, by show 1 ≤ S'.length; omega, hf, fun w hw => absurd hw (by simp), ⟨Int.le_refl (-1), by show (-1 : Int) ≤ 9223372036854775807; decide⟩⟩, hl, rfl, rfl, h.fit, by have := hs 0 (by omega); rw [Nat.add_zero] at this; exact this.trans h.head, fun i hi => by
      have := hs (1 + i) (by omega)
      rw [← Nat.add_assoc] at this
      exact this.trans (h.body i hi), ho⟩
  have new : ∀ S' : List ByteArray, (∀ x ∈ S', x.size = 256) → S'.length = N → S'.getD (slN N (g + 1)) noText = headT (g + 1) t' → (∀ i, i < nb t'.size → S'.getD (slN N (g + 1) + 1 + i) noText = blkT t' i) → S'.getD (slN N g) noText = st.sure.getD (slN N g) noText → Keep N ⟨S', [], -1⟩ (g + 1) t' := fun S' hf hl hh hb ho =>
    ⟨⟨by show S'.length ≤ 4096; omega, by show 1 ≤ S'.length; omega, hf, fun w hw => absurd hw (by simp), ⟨Int.le_refl (-1), by show (-1 : Int) ≤ 9223372036854775807; decide⟩⟩, hl, rfl, rfl, ht', hh, hb, by
      show Oth (S'.getD (slN N (g + 1 + 1)) noText) (g + 1)
      rw [hslg, ho, h.head]
      right
      rw [list_take8, numL_low]
      exact Nat.lt_of_le_of_lt (Nat.mod_le _ _) (Nat.lt_succ_self g)⟩
  have crash1 : ∀ (S : List ByteArray) (b : Nat) (d : ByteArray) (l2 : Int), (⟨S, [(b, d)], l2⟩ : St).crash picks = ⟨S.set b (torn (S.getD b noText) d (picks.getD 0 0)), [], -1⟩ := fun S b d l2 => rfl
  have crash0 : ∀ (S : List ByteArray) (l2 : Int), (⟨S, [], l2⟩ : St).crash picks = ⟨S, [], -1⟩ := fun S l2 => rfl
  have hS1 : ∀ x ∈ st.sure.set (slN N (g + 1)) zblock, x.size = 256 := full_set h.ok.full _ _ zblock_size
  have hS2 : ∀ x ∈ laid (st.sure.set (slN N (g + 1)) zblock) (tws (slN N (g + 1) + 1) t' 0 (nb t'.size)), x.size = 256 := laid_full _ _ hS1 (fun w hw => (tws_mem hw).2.2)
  have hl2 : (laid (st.sure.set (slN N (g + 1)) zblock) (tws (slN N (g + 1) + 1) t' 0 (nb t'.size))).length = N := by rw [laid_length, List.length_set, hlenS]
  have hS2o : ∀ j, j < N / 2 → (laid (st.sure.set (slN N (g + 1)) zblock) (tws (slN N (g + 1) + 1) t' 0 (nb t'.size))).getD (slN N g + j) noText = st.sure.getD (slN N g + j) noText := fun j hj => by
    rw [laid_other _ _ _ (fun w hw => by
      have := tws_mem hw
      have := hapart (w.1 - slN N (g + 1)) (by omega) j hj
      omega), getD_set_other _ _ _ _ (by have := hapart 0 (by omega) j hj; omega)]
  have hS2h : (laid (st.sure.set (slN N (g + 1)) zblock) (tws (slN N (g + 1) + 1) t' 0 (nb t'.size))).getD (slN N (g + 1)) noText = zblock := by
    rw [laid_other _ _ _ (fun w hw => by have := tws_mem hw; omega), getD_set_same _ _ _ (by omega)]
  rcases save_cases (slN N (g + 1)) (g + 1) t' st.sure (k : Int) (by omega) (by omega) with ⟨l2, e, b1, b2⟩ | ⟨l2, e, b1, b2⟩ | ⟨j, l2, hj, e, b1, b2⟩ | ⟨l2, e, b1, b2⟩ | ⟨l2, e, b1⟩ | ⟨l2, e, b1⟩
  · rw [e]
    refine Or.inl ⟨rfl, ?_⟩
    show Keep N ((⟨st.sure, [], l2⟩ : St).crash picks) g t
    rw [crash0]
    exact old _ h.ok.full hlenS (fun j _ => rfl) h.oth
  · rw [e]
    refine Or.inl ⟨rfl, ?_⟩
    show Keep N ((⟨st.sure, [(slN N (g + 1), zblock)], l2⟩ : St).crash picks) g t
    rw [crash1]
    refine old _ (full_set h.ok.full _ _ (torn_size _ _ _ hH256 zblock_size)) (by rw [List.length_set, hlenS]) (fun j hj => getD_set_other _ _ _ _ (by have := hapart 0 (by omega) j hj; omega)) ?_
    rw [getD_set_same _ _ _ (by omega)]
    exact h.oth.torn hH256 _
  · rw [e]
    refine Or.inl ⟨rfl, ?_⟩
    show Keep N (⟨crashed (st.sure.set (slN N (g + 1)) zblock) picks 0 (tws (slN N (g + 1) + 1) t' 0 j), [], -1⟩) g t
    refine old _ (crashed_full picks _ 0 _ hS1 (fun w hw => by have := tws_mem hw; rw [List.length_set]; exact ⟨by omega, this.2.2⟩)) (by rw [crashed_length, List.length_set, hlenS]) (fun j' hj' => ?_) ?_
    · rw [crashed_other _ _ _ _ _ (fun w hw => by
        have := tws_mem hw
        have := hapart (w.1 - slN N (g + 1)) (by omega) j' hj'
        omega), getD_set_other _ _ _ _ (by have := hapart 0 (by omega) j' hj'; omega)]
    · rw [crashed_other _ _ _ _ _ (fun w hw => by have := tws_mem hw; omega), getD_set_same _ _ _ (by omega)]
      exact Oth.zero
  · rw [e]
    refine Or.inl ⟨rfl, ?_⟩
    show Keep N ((⟨_, [], l2⟩ : St).crash picks) g t
    rw [crash0]
    exact old _ hS2 hl2 hS2o (by rw [hS2h]; exact Oth.zero)
  · rw [e]
    dsimp only
    rw [crash1, hS2h]
    rcases head_torn (g + 1) t' (picks.getD 0 0) with hw | hw
    · refine Or.inr ⟨Or.inr rfl, by omega, ?_⟩
      rw [hw]
      refine new _ (full_set hS2 _ _ (headT_size _ _)) (by rw [List.length_set, hl2]) (getD_set_same _ _ _ (by omega)) (fun i hi => ?_) ?_
      · rw [getD_set_other _ _ _ _ (by omega)]
        exact laid_tws _ t' (nb t'.size) 0 _ (by rw [List.length_set]; omega) i (by omega) (by omega)
      · have := hapart 0 (by omega) 0 (by omega)
        rw [getD_set_other _ _ _ _ (by omega)]
        exact hS2o 0 (by omega)
    · refine Or.inl ⟨rfl, ?_⟩
      refine old _ (full_set hS2 _ _ (torn_size _ _ _ zblock_size (headT_size _ _))) (by rw [List.length_set, hl2]) (fun j hj => ?_) ?_
      · rw [getD_set_other _ _ _ _ (by have := hapart 0 (by omega) j hj; omega)]
        exact hS2o j hj
      · rw [getD_set_same _ _ _ (by omega)]
        exact hw g
  · rw [e]
    refine Or.inr ⟨Or.inl rfl, by omega, ?_⟩
    show Keep N ((⟨_, [], l2⟩ : St).crash picks) (g + 1) t'
    rw [crash0]
    refine new _ (full_set hS2 _ _ (headT_size _ _)) (by rw [List.length_set, hl2]) (getD_set_same _ _ _ (by omega)) (fun i hi => ?_) ?_
    · rw [getD_set_other _ _ _ _ (by omega)]
      exact laid_tws _ t' (nb t'.size) 0 _ (by rw [List.length_set]; omega) i (by omega) (by omega)
    · have := hapart 0 (by omega) 0 (by omega)
      rw [getD_set_other _ _ _ _ (by omega)]
      exact hS2o 0 (by omega)
set_option maxRecDepth 20000 in
/-- The first Save. -/
theorem keep_first (N : Nat) (h4 : 4 ≤ N) (hN : N ≤ 4096) (t : ByteArray) (ht : t.size ≤ (N / 2 - 1) * 256) :
    (saveAt (slN N 1) 1 t (St.new N)).1 = 0 ∧ Keep N (saveAt (slN N 1) 1 t (St.new N)).2 1 t := by
  have hnb := nb_fit ht h4
  have h1 : slN N 1 = N / 2 := by unfold slN; simp
  have h0 : slN N (1 + 1) = 0 := by unfold slN; simp
  have hlen : (List.replicate N zblock).length = N := List.length_replicate ..
  have hfull : ∀ x ∈ List.replicate N zblock, x.size = 256 := fun x hx => by rw [List.eq_of_mem_replicate hx]; exact zblock_size
  rcases save_cases (slN N 1) 1 t (List.replicate N zblock) (-1) (by rw [hlen]; omega) (by omega) with ⟨l2, e, b1, b2⟩ | ⟨l2, e, b1, b2⟩ | ⟨j, l2, hj, e, b1, b2⟩ | ⟨l2, e, b1, b2⟩ | ⟨l2, e, b1⟩ | ⟨l2, e, b1⟩
  · omega
  · omega
  · omega
  · omega
  · omega
  · unfold St.new
    rw [e]
    have hl2 : l2 = -1 := by omega
    subst hl2
    have hS1 : ∀ x ∈ (List.replicate N zblock).set (slN N 1) zblock, x.size = 256 := full_set hfull _ _ zblock_size
    have hS2 : ∀ x ∈ laid ((List.replicate N zblock).set (slN N 1) zblock) (tws (slN N 1 + 1) t 0 (nb t.size)), x.size = 256 := laid_full _ _ hS1 (fun w hw => (tws_mem hw).2.2)
    have hl2 : (laid ((List.replicate N zblock).set (slN N 1) zblock) (tws (slN N 1 + 1) t 0 (nb t.size))).length = N := by rw [laid_length, List.length_set, hlen]
    refine ⟨rfl, ⟨⟨?_, ?_, full_set hS2 _ _ (headT_size _ _), fun w hw => absurd hw (by simp), ⟨Int.le_refl (-1), by show (-1 : Int) ≤ 9223372036854775807; decide⟩⟩, ?_, rfl, rfl, ht, getD_set_same _ _ _ (by omega), fun i hi => ?_, ?_⟩⟩
    · show (List.set _ _ _).length ≤ 4096; rw [List.length_set, hl2]; exact hN
    · show 1 ≤ (List.set _ _ _).length; rw [List.length_set, hl2]; omega
    · show (List.set _ _ _).length = N; rw [List.length_set, hl2]
    · show (List.set _ _ _).getD _ noText = _
      rw [getD_set_other _ _ _ _ (by omega)]
      exact laid_tws _ t (nb t.size) 0 _ (by rw [List.length_set, hlen]; omega) i (by omega) (by omega)
    · show Oth ((List.set _ _ _).getD _ noText) 1
      rw [h0, getD_set_other _ _ _ _ (by omega), laid_other _ _ _ (fun w hw => by have := tws_mem hw; omega), getD_set_other _ _ _ _ (by omega)]
      have : (List.replicate N zblock).getD 0 noText = zblock := by
        rw [List.getD_eq_getElem?_getD, List.getElem?_replicate, if_pos (by omega)]
        rfl
      rw [this]
      exact Oth.zero
end Go.Proofs.YtiebhdgpnloieaaDoor
