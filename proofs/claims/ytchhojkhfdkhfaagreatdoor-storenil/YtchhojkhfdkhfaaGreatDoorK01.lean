/- Checkpoints, plain: what a crash leaves of a Save, and what is loaded then. Logs, plain: writes that make blocks other ones, and what a crash in their midst leaves. Logs, plain: blocks are made other ones, on a disk that may stand still in the midst of it. Logs, plain: what Open does, and what it finds. Logs, plain: a log that lives: Append, Sync, a crash. Logs, plain: Append on a log that lives; Clear; Open, also in the midst of a crash. -/
import Derived.Test.YtchhojkhfdkhfaaGreatDoorK00
namespace Go.Proofs.YtchhojkhfdkhfaaGreatDoor
open Frm
theorem list_take8 (g : Nat) (t : ByteArray) : (headT g t).data.toList.take 8 = lowL g 8 := by
  show (headL g t).take 8 = _
  unfold headL
  simp only [List.append_assoc]
  rw [List.take_append_of_le_length (by rw [lowL_length]; omega), List.take_of_length_le (by rw [lowL_length]; omega)]
theorem list_take4 (g : Nat) (t : ByteArray) : ((headT g t).data.toList.drop 8).take 4 = lowL t.size 4 := by
  show ((headL g t).drop 8).take 4 = _
  unfold headL
  simp only [List.append_assoc]
  rw [List.drop_append, List.drop_of_length_le (by rw [lowL_length]; omega), lowL_length, List.nil_append, Nat.sub_self, List.drop_zero, List.take_append_of_le_length (by rw [lowL_length]; omega), List.take_of_length_le (by rw [lowL_length]; omega)]
set_option maxRecDepth 10000 in
theorem head_last (g : Nat) (t : ByteArray) : byteAt (headT g t) 255 = some 165 := by
  show (headL g t).toArray[255]? = _
  rw [List.getElem?_toArray]
  unfold headL
  rw [List.getElem?_append_right (by simp [lowL_length])]
  simp [lowL_length]
/-- What the head of the other slot is like. -/
def Oth (H : ByteArray) (g : Nat) : Prop := byteAt H 255 ≠ some 165 ∨ numL (H.data.toList.take 8) < g
/-- The text of blocks. -/
theorem joined_text (t : ByteArray) (l : List ByteArray) (h : ∀ x ∈ l, x.size = 256) (hl : l.length = nb t.size) (hb : ∀ i, i < nb t.size → l.getD i noText = blkT t i) :
    (joined l).extract 0 t.size = t ∧ (joined l).extract t.size (joined l).size = zs ((joined l).size - t.size) := by
  have hs : (joined l).size = 256 * l.length := by
    have e : ∀ (l : List ByteArray) (s : ByteArray), (∀ x ∈ l, x.size = 256) → (l.foldl (fun s t => s ++ t) s).size = s.size + 256 * l.length := by
      intro l
      induction l with
      | nil => intro s _; simp
      | cons a l ih => intro s h; rw [List.foldl_cons, ih _ (fun x hx => h x (List.mem_cons_of_mem _ hx)), ByteArray.size_append, h a (by simp), List.length_cons]; omega
    unfold joined
    rw [e l noText h]
    show 0 + _ = _
    omega
  have hn : t.size ≤ 256 * l.length := by rw [hl]; unfold nb; omega
  have hat : ∀ k, k < 256 * l.length → byteAt (joined l) k = byteAt (blkT t (k / 256)) (k % 256) := fun k hk => by
    rw [joined_at l k h hk, hb (k / 256) (by rw [← hl]; omega)]
  constructor
  · refine bytes_ext (by rw [ByteArray.size_extract]; omega) (fun j hj => ?_)
    rw [ByteArray.size_extract] at hj
    rw [byteAt_extract (by omega) (by omega), Nat.zero_add, hat j (by omega), blkT_data t (j / 256) (j % 256) (Nat.mod_lt _ (by decide)) (by omega)]
    congr 1
    omega
  · refine bytes_ext (by rw [ByteArray.size_extract, zs_size]; omega) (fun j hj => ?_)
    rw [ByteArray.size_extract] at hj
    rw [byteAt_extract (by omega) (by omega), hat (t.size + j) (by omega), blkT_rest t ((t.size + j) / 256) ((t.size + j) % 256) (Nat.mod_lt _ (by decide)) (by omega), byteAt_zs _ _ (by omega)]
/-- A slot of which the head and the text's blocks are right is whole. -/
theorem whole_yes (l : List ByteArray) (odd g : Nat) (t : ByteArray) (hf : ∀ x ∈ l, x.size = 256) (hg : 1 ≤ g ∧ g ≤ 4611686018427387904) (ho : g % 2 = odd) (hs : t.size ≤ (l.length - 1) * 256) (hL : l.length ≤ 4096)
    (hh : l.getD 0 noText = headT g t) (hb : ∀ i, i < nb t.size → l.getD (1 + i) noText = blkT t i) : wholeT l odd = (g, t) := by
  have e8 : numL ((headT g t).data.toList.take 8) = g := by rw [list_take8, numL_low]; exact Nat.mod_eq_of_lt (by omega)
  have e4 : numL (((headT g t).data.toList.drop 8).take 4) = t.size := by rw [list_take4, numL_low]; exact Nat.mod_eq_of_lt (by omega)
  have hn : nb t.size ≤ l.length - 1 := by unfold nb; omega
  have hj := joined_text t ((l.drop 1).take (nb t.size)) (fun x hx => hf x (List.mem_of_mem_drop (List.mem_of_mem_take hx))) (by rw [List.length_take, List.length_drop]; omega) (fun i hi => by
    rw [List.getD_eq_getElem?_getD, List.getElem?_take_of_lt hi, List.getElem?_drop, ← List.getD_eq_getElem?_getD]
    exact hb i hi)
  unfold wholeT
  simp only
  rw [hh, e8, e4, if_neg (by omega), hj.1, if_pos ⟨rfl, hj.2⟩]
/-- A slot whose head is like that has no number so great. -/
theorem whole_less (l : List ByteArray) (odd g : Nat) (hg : 1 ≤ g) (h : Oth (l.getD 0 noText) g) : (wholeT l odd).1 < g := by
  unfold wholeT
  simp only
  split
  · exact hg
  · split
    · rename_i h1 h2
      rcases h with h3 | h3
      · exact absurd (by rw [h2.1]; exact head_last _ _) h3
      · exact h3
    · exact hg
/-- So many calls later. -/
def Lft (m : Nat) (l l' : Int) : Prop := (l = -1 ∧ l' = -1) ∨ ((m : Int) ≤ l ∧ l' = l - m)
theorem Lft.next {m : Nat} {l l' : Int} (h : Lft m l l') (h0 : l' ≠ 0) : Lft (m + 1) l (counted l') := by
  unfold Lft counted at *
  rcases h with ⟨h1, h2⟩ | ⟨h1, h2⟩
  · left; rw [h2]; exact ⟨h1, by simp⟩
  · right; rw [if_pos (by omega)]; omega
theorem write_cases (st : St) (b : Nat) (d : ByteArray) (hb : b < st.sure.length) (hd : d.size = 256) :
    (st.left = 0 ∧ st.write (b : Int) d = (50, st)) ∨ (st.left ≠ 0 ∧ st.write (b : Int) d = (0, ⟨st.sure, st.loose ++ [(b, d)], counted st.left⟩)) := by
  unfold St.write
  by_cases h : st.left = 0
  · exact Or.inl ⟨h, by rw [if_pos h]⟩
  · refine Or.inr ⟨h, ?_⟩
    rw [if_neg h, if_neg (by omega), if_neg (by omega)]
    rfl
theorem sync_cases (st : St) : (st.left = 0 ∧ st.sync = (50, st)) ∨ (st.left ≠ 0 ∧ st.sync = (0, ⟨laid st.sure st.loose, [], counted st.left⟩)) := by
  unfold St.sync
  by_cases h : st.left = 0
  · exact Or.inl ⟨h, by rw [if_pos h]⟩
  · exact Or.inr ⟨h, by rw [if_neg h]⟩
theorem andT_no (s : St) (f : St → Nat × St) : andT (50, s) f = (50, s) := by unfold andT; exact if_neg (show ¬ (50 : Nat) = 0 by decide)
theorem andT_yes (s : St) (f : St → Nat × St) : andT (0, s) f = f s := by unfold andT; rw [if_pos rfl]
/-- The first j writes of a text from the i-th block on. -/
def tws (o : Nat) (t : ByteArray) (i j : Nat) : List (Nat × ByteArray) := (List.range' i j).map fun k => (o + k, blkT t k)
theorem puts_cases (o : Nat) (t : ByteArray) (S : List ByteArray) (l0 : Int) : ∀ (n i : Nat) (L : List (Nat × ByteArray)) (m : Nat) (l' : Int), o + i + n ≤ S.length → Lft m l0 l' →
    (∃ j, j ≤ n ∧ ∃ l2, putsT o t n i ⟨S, L, l'⟩ = (50, ⟨S, L ++ tws o t i j, l2⟩) ∧ l0 = (m + j : Nat) ∧ j < n) ∨ ∃ l2, putsT o t n i ⟨S, L, l'⟩ = (0, ⟨S, L ++ tws o t i n, l2⟩) ∧ Lft (m + n) l0 l2
  | 0, i, L, m, l', _, h => Or.inr ⟨l', by show (0, _) = _; unfold tws; simp, h⟩
  | n + 1, i, L, m, l', hl, h => by
    show (∃ j, _ ∧ ∃ l2, andT (St.write ⟨S, L, l'⟩ ((o + i : Nat) : Int) (blkT t i)) (putsT o t n (i + 1)) = _ ∧ _) ∨ ∃ l2, andT (St.write ⟨S, L, l'⟩ ((o + i : Nat) : Int) (blkT t i)) (putsT o t n (i + 1)) = _ ∧ _
    rcases write_cases ⟨S, L, l'⟩ (o + i) (blkT t i) (by show o + i < S.length; omega) (blkT_size t i) with ⟨h0, e⟩ | ⟨h0, e⟩
    · rw [e, andT_no]
      refine Or.inl ⟨0, by omega, l', ?_, ?_, by omega⟩
      · unfold tws; simp
      · have h0' : l' = 0 := h0
        unfold Lft at h
        omega
    · rw [e, andT_yes]
      have hx : ∀ j, L ++ [(o + i, blkT t i)] ++ tws o t (i + 1) j = L ++ tws o t i (j + 1) := fun j => by
        unfold tws
        rw [List.range'_succ, List.map_cons]
        simp
      rcases puts_cases o t S l0 n (i + 1) (L ++ [(o + i, blkT t i)]) (m + 1) (counted l') (by omega) (h.next h0) with ⟨j, h1, l2, h2, h3, h4⟩ | ⟨l2, h2, h3⟩
      · exact Or.inl ⟨j + 1, by omega, l2, by rw [← hx]; exact h2, by omega, by omega⟩
      · exact Or.inr ⟨l2, by rw [← hx]; exact h2, by rw [show m + (n + 1) = m + 1 + n from by omega]; exact h3⟩
/-- What a Save in a slot may leave of a disk that stands still. -/
theorem save_cases (a g : Nat) (t : ByteArray) (S : List ByteArray) (l0 : Int) (ha : a + 1 + nb t.size ≤ S.length) (h1 : -1 ≤ l0) :
    (∃ l2, saveAt a g t ⟨S, [], l0⟩ = (50, ⟨S, [], l2⟩) ∧ 0 ≤ l0 ∧ l0 ≤ nb t.size + 3) ∨ (∃ l2, saveAt a g t ⟨S, [], l0⟩ = (50, ⟨S, [(a, zblock)], l2⟩) ∧ 0 ≤ l0 ∧ l0 ≤ nb t.size + 3) ∨
    (∃ j l2, j ≤ nb t.size ∧ saveAt a g t ⟨S, [], l0⟩ = (50, ⟨S.set a zblock, tws (a + 1) t 0 j, l2⟩) ∧ 0 ≤ l0 ∧ l0 ≤ nb t.size + 3) ∨
    (∃ l2, saveAt a g t ⟨S, [], l0⟩ = (50, ⟨laid (S.set a zblock) (tws (a + 1) t 0 (nb t.size)), [], l2⟩) ∧ 0 ≤ l0 ∧ l0 ≤ nb t.size + 3) ∨
    (∃ l2, saveAt a g t ⟨S, [], l0⟩ = (50, ⟨laid (S.set a zblock) (tws (a + 1) t 0 (nb t.size)), [(a, headT g t)], l2⟩) ∧ l0 = nb t.size + 4) ∨
    (∃ l2, saveAt a g t ⟨S, [], l0⟩ = (0, ⟨(laid (S.set a zblock) (tws (a + 1) t 0 (nb t.size))).set a (headT g t), [], l2⟩) ∧ (l0 = -1 ∧ l2 = -1 ∨ nb t.size + 5 ≤ l0)) := by
  have L0 : Lft 0 l0 l0 := by unfold Lft; omega
  unfold saveAt
  rcases write_cases ⟨S, [], l0⟩ a zblock (by show a < S.length; omega) zblock_size with ⟨h0, e⟩ | ⟨h0, e⟩
  · rw [e, andT_no, andT_no, andT_no, andT_no, andT_no]
    have h0' : l0 = 0 := h0
    exact Or.inl ⟨l0, rfl, by omega, by omega⟩
  have L1 := L0.next h0
  rw [e, andT_yes]
  rcases sync_cases ⟨S, [] ++ [(a, zblock)], counted l0⟩ with ⟨h0', e'⟩ | ⟨h0', e'⟩
  · rw [e', andT_no, andT_no, andT_no, andT_no]
    have h2 : counted l0 = 0 := h0'
    have : l0 = 1 := by unfold Lft at L1; omega
    exact Or.inr (Or.inl ⟨_, rfl, by omega, by omega⟩)
  have L2 := L1.next h0'
  rw [e', andT_yes]
  have es : laid S ([] ++ [(a, zblock)]) = S.set a zblock := rfl
  rw [es]
  rcases puts_cases (a + 1) t (S.set a zblock) l0 (nb t.size) 0 [] 2 (counted (counted l0)) (by rw [List.length_set]; omega) L2 with ⟨j, hj, l2, h2, h3, h4⟩ | ⟨l2, h2, L3⟩
  · rw [h2, andT_no, andT_no, andT_no]
    exact Or.inr (Or.inr (Or.inl ⟨j, l2, hj, by rw [List.nil_append], by omega, by omega⟩))
  rw [h2, andT_yes, List.nil_append]
  rcases sync_cases ⟨S.set a zblock, tws (a + 1) t 0 (nb t.size), l2⟩ with ⟨h5, e5⟩ | ⟨h5, e5⟩
  · rw [e5, andT_no, andT_no]
    have h6 : l2 = 0 := h5
    refine Or.inr (Or.inr (Or.inl ⟨nb t.size, l2, Nat.le_refl _, rfl, ?_, ?_⟩)) <;> (unfold Lft at L3; omega)
  have L4 := L3.next h5
  rw [e5, andT_yes]
  have hlen : ∀ (l : List (Nat × ByteArray)) (s : List ByteArray), (laid s l).length = s.length := laid_length
  rcases write_cases ⟨laid (S.set a zblock) (tws (a + 1) t 0 (nb t.size)), [], counted l2⟩ a (headT g t) (by show a < (laid _ _).length; rw [hlen, List.length_set]; omega) (headT_size g t) with ⟨h6, e6⟩ | ⟨h6, e6⟩
  · rw [e6, andT_no]
    have h7 : counted l2 = 0 := h6
    refine Or.inr (Or.inr (Or.inr (Or.inl ⟨_, rfl, ?_, ?_⟩))) <;> (unfold Lft at L4; omega)
  have L5 := L4.next h6
  rw [e6, andT_yes]
  rcases sync_cases ⟨laid (S.set a zblock) (tws (a + 1) t 0 (nb t.size)), [] ++ [(a, headT g t)], counted (counted l2)⟩ with ⟨h7, e7⟩ | ⟨h7, e7⟩
  · rw [e7]
    have h8 : counted (counted l2) = 0 := h7
    refine Or.inr (Or.inr (Or.inr (Or.inr (Or.inl ⟨_, rfl, ?_⟩))))
    unfold Lft at L5; omega
  · rw [e7]
    have L6 := L5.next h7
    refine Or.inr (Or.inr (Or.inr (Or.inr (Or.inr ⟨counted (counted (counted l2)), rfl, ?_⟩))))
    unfold Lft at L6; omega
theorem laid_other7 (b : Nat) : ∀ (l : List (Nat × ByteArray)) (s : List ByteArray), (∀ w ∈ l, w.1 ≠ b) → (laid s l).getD b noText = s.getD b noText
  | [], _, _ => rfl
  | w :: l, s, h => by
    show (laid (s.set w.1 w.2) l).getD b noText = _
    rw [laid_other7 b l _ (fun x hx => h x (List.mem_cons_of_mem _ hx)), getD_set_other _ _ _ _ (h w (by simp))]
theorem crashed_other7 (picks : List Int) (b : Nat) : ∀ (l : List (Nat × ByteArray)) (i : Nat) (s : List ByteArray), (∀ w ∈ l, w.1 ≠ b) → (crashed s picks i l).getD b noText = s.getD b noText
  | [], _, _, _ => rfl
  | w :: l, i, s, h => by
    show (crashed (s.set w.1 _) picks (i + 1) l).getD b noText = _
    rw [crashed_other7 picks b l _ _ (fun x hx => h x (List.mem_cons_of_mem _ hx)), getD_set_other _ _ _ _ (h w (by simp))]
theorem tws_mem {o i j : Nat} {t : ByteArray} {w : Nat × ByteArray} (h : w ∈ tws o t i j) : o + i ≤ w.1 ∧ w.1 < o + i + j ∧ w.2.size = 256 := by
  unfold tws at h
  obtain ⟨k, hk, rfl⟩ := List.mem_map.1 h
  rw [List.mem_range'_1] at hk
  exact ⟨by show o + i ≤ o + k; omega, by show o + k < _; omega, blkT_size t k⟩
/-- What is laid of a text's blocks. -/
theorem laid_tws (o : Nat) (t : ByteArray) : ∀ (n i : Nat) (S : List ByteArray), o + i + n ≤ S.length → ∀ k, i ≤ k → k < i + n → (laid S (tws o t i n)).getD (o + k) noText = blkT t k
  | 0, i, S, _, k, h1, h2 => by omega
  | n + 1, i, S, hl, k, h1, h2 => by
    have e : tws o t i (n + 1) = (o + i, blkT t i) :: tws o t (i + 1) n := by unfold tws; rw [List.range'_succ, List.map_cons]
    rw [e]
    show (laid (S.set (o + i) (blkT t i)) (tws o t (i + 1) n)).getD (o + k) noText = _
    by_cases hk : k = i
    · subst hk
      rw [laid_other7 _ _ _ (fun w hw => by have := tws_mem hw; omega), getD_set_same _ _ _ (by omega)]
    · exact laid_tws o t n (i + 1) _ (by rw [List.length_set]; omega) k (by omega) (by omega)
/-- Where the slot of a number begins, of N blocks from 0 on. -/
def slN (N g : Nat) : Nat := g % 2 * (N / 2)
theorem slN_le (N g : Nat) : slN N g ≤ N / 2 := by
  unfold slN
  rcases (by omega : g % 2 = 0 ∨ g % 2 = 1) with h | h <;> rw [h] <;> omega
/-- The disk's N blocks have a checkpoint whole, and nothing greater. -/
structure Keep (N : Nat) (st : St) (g : Nat) (t : ByteArray) : Prop where
  ok : st.Ok
  len : st.sure.length = N
  loose : st.loose = []
  left : st.left = -1
  fit : t.size ≤ (N / 2 - 1) * 256
  head : st.sure.getD (slN N g) noText = headT g t
  body : ∀ i, i < nb t.size → st.sure.getD (slN N g + 1 + i) noText = blkT t i
  oth : Oth (st.sure.getD (slN N (g + 1)) noText) g
theorem nb_fit {N : Nat} {t : ByteArray} (h : t.size ≤ (N / 2 - 1) * 256) (h4 : 4 ≤ N) : nb t.size + 1 ≤ N / 2 := by unfold nb; omega
theorem blocks_getD (st : St) (a k i : Nat) (hi : i < k) (hl : st.loose = []) : (blocksAt st a k).getD i noText = st.sure.getD (a + i) noText := by
  unfold blocksAt
  rw [List.getD_eq_getElem?_getD, List.getElem?_map, List.getElem?_range hi]
  show stands st.sure (a + i) st.loose.reverse = _
  rw [hl]
  rfl
/-- What is loaded then. -/
theorem Keep.load {N : Nat} {st : St} {g : Nat} {t : ByteArray} (h : Keep N st g t) (h4 : 4 ≤ N) (hN : N ≤ 4096) (he : N % 2 = 0) (hg : 1 ≤ g ∧ g ≤ 4611686018427387904) : st.load 0 (N : Int) = ((g, t), 0) := by
  have hr : room (N : Int) ≠ 0 := by unfold room; rw [if_neg (by omega)]; omega
  have hm : st.mayC 0 (N : Int) := ⟨hr, by omega, by rw [h.len]; omega⟩
  have hlen : ∀ k, (blocksAt st k (N / 2)).length = N / 2 := fun k => by unfold blocksAt; simp
  have hfull : ∀ k, k + N / 2 ≤ N → ∀ x ∈ blocksAt st k (N / 2), x.size = 256 := fun k hk x hx => by
    unfold blocksAt at hx
    obtain ⟨i, hi, rfl⟩ := List.mem_map.1 hx
    rw [List.mem_range] at hi
    rw [h.loose]
    exact getD_size h.ok.full _ (by rw [h.len]; omega)
  have hs : ∀ k, slotAt 0 (N : Int) k = slN N k := fun k => by unfold slotAt slN; simp
  have hnb := nb_fit h.fit h4
  have hsl := slN_le N g
  have hsl2 := slN_le N (g + 1)
  have W1 : wholeT (blocksAt st (slN N g) (N / 2)) (g % 2) = (g, t) := by
    refine whole_yes _ _ g t (hfull _ (by omega)) hg rfl (by rw [hlen]; exact h.fit) (by rw [hlen]; omega) ?_ (fun i hi => ?_)
    · rw [blocks_getD st _ _ 0 (by omega) h.loose]; exact h.head
    · rw [blocks_getD st _ _ (1 + i) (by omega) h.loose, ← Nat.add_assoc]; exact h.body i hi
  have W2 : (wholeT (blocksAt st (slN N (g + 1)) (N / 2)) ((g + 1) % 2)).1 < g := by
    refine whole_less _ _ g hg.1 ?_
    rw [blocks_getD st _ _ 0 (by omega) h.loose]
    exact h.oth
  unfold St.load
  rw [if_neg (fun hh => hh hm), if_neg (by rw [h.left]; decide)]
  simp only [hs, Int.toNat_natCast]
  rcases (by omega : g % 2 = 0 ∨ g % 2 = 1) with hp | hp
  · have e0 : slN N 0 = slN N g := by unfold slN; rw [hp]
    have e1 : slN N 1 = slN N (g + 1) := by unfold slN; rw [show (g + 1) % 2 = 1 from by omega]
    rw [hp] at W1
    rw [show (g + 1) % 2 = 1 from by omega] at W2
    rw [e0, e1, W1, if_neg (by simp; omega), if_pos (by exact W2)]
  · have e0 : slN N 1 = slN N g := by unfold slN; rw [hp]
    have e1 : slN N 0 = slN N (g + 1) := by unfold slN; rw [show (g + 1) % 2 = 0 from by omega]
    rw [hp] at W1
    rw [show (g + 1) % 2 = 0 from by omega] at W2
    rw [e0, e1, W1, if_neg (by simp; omega), if_neg (by show ¬ g < _; omega)]
/-- A head of which the first bytes are made 0. -/
theorem zlast : byteAt zblock 255 = some 0 := by
  show (List.replicate 256 (0 : UInt8)).toArray[255]? = _
  rw [List.getElem?_toArray]
  rfl
theorem torn_last (old new : ByteArray) (p : Int) (ho : old.size = 256) (hn : new.size = 256) : (256 ≤ p ∧ torn old new p = new) ∨ byteAt (torn old new p) 255 = byteAt old 255 := by
  unfold torn
  by_cases hp : 256 ≤ p
  · left
    refine ⟨hp, bytes_ext ?_ (fun j hj => ?_)⟩
    · rw [ByteArray.size_append, ByteArray.size_extract, ByteArray.size_extract]; omega
    · rw [ByteArray.size_append, ByteArray.size_extract, ByteArray.size_extract] at hj
      rw [byteAt_append_left (by rw [ByteArray.size_extract]; omega), byteAt_extract (by omega) (by omega), Nat.zero_add]
  · right
    rw [byteAt_append_right (by rw [ByteArray.size_extract]; omega), ByteArray.size_extract, byteAt_extract (Nat.le_refl _) (by omega)]
    congr 1
    omega
theorem Oth.zero {g : Nat} : Oth zblock g := by
  left
  rw [zlast]
  decide
theorem torn_zero8 (H : ByteArray) (hH : H.size = 256) (p : Int) : ∃ c, (torn H zblock p).data.toList.take 8 = List.replicate (min c (H.data.toList.take 8).length) 0 ++ (H.data.toList.take 8).drop c := by
  have hl : H.data.toList.length = 256 := by rw [Array.length_toList]; exact hH
  refine ⟨(max (min p 256) 0).toNat, ?_⟩
  unfold torn
  have hc : (max (min p 256) 0).toNat ≤ 256 := by omega
  generalize (max (min p 256) 0).toNat = c at *
  rw [ByteArray.data_append, Array.toList_append, ByteArray.data_extract, ByteArray.data_extract, Array.toList_extract, Array.toList_extract]
  simp only [List.extract_eq_take_drop, Nat.sub_zero, List.drop_zero]
  have hz : zblock.data.toList.take c = List.replicate c 0 := by
    show (List.replicate 256 (0 : UInt8)).take c = _
    rw [List.take_replicate, Nat.min_eq_left hc]
  rw [hz, List.take_of_length_le (l := H.data.toList.drop c) (by rw [List.length_drop, hl, hH]; omega), List.length_take, hl, show min 8 256 = 8 from rfl]
  by_cases h8 : 8 ≤ c
  · rw [List.take_append_of_le_length (by rw [List.length_replicate]; omega), List.take_replicate, List.drop_of_length_le (by rw [List.length_take, hl]; omega), List.append_nil, Nat.min_comm]
  · rw [List.take_append, List.length_replicate, List.take_of_length_le (by rw [List.length_replicate]; omega), Nat.min_eq_left (by omega), List.drop_take]
theorem Oth.torn {H : ByteArray} {g : Nat} (hH : H.size = 256) (h : Oth H g) (p : Int) : Oth (torn H zblock p) g := by
  rcases h with h | h
  · left
    rcases torn_last H zblock p hH zblock_size with ⟨_, h1⟩ | h1
    · rw [h1, zlast]; decide
    · rw [h1]; exact h
  · right
    obtain ⟨c, hc⟩ := torn_zero8 H hH p
    rw [hc]
    exact Nat.lt_of_le_of_lt (numL_zeroed _ c) h
/-- A head that is written in part, or whole. -/
theorem head_torn (g : Nat) (t : ByteArray) (p : Int) : torn zblock (headT g t) p = headT g t ∨ ∀ k, Oth (torn zblock (headT g t) p) k := by
  rcases torn_last zblock (headT g t) p zblock_size (headT_size g t) with ⟨_, h1⟩ | h1
  · exact Or.inl h1
  · right
    intro k
    left
    rw [h1, zlast]
    decide
set_option maxRecDepth 20000 in
/-- Behind a Save of the next number, and a crash. -/
theorem Keep.step {N : Nat} {st : St} {g : Nat} {t : ByteArray} (h : Keep N st g t) (h4 : 4 ≤ N) (hN : N ≤ 4096) (k : Nat) (hk : k ≤ 1000) (t' : ByteArray) (ht' : t'.size ≤ (N / 2 - 1) * 256) (picks : List Int) :
    ((saveAt (slN N (g + 1)) (g + 1) t' (st.fuse (k : Int))).1 = 50 ∧ Keep N ((saveAt (slN N (g + 1)) (g + 1) t' (st.fuse (k : Int))).2.crash picks) g t) ∨
    (((saveAt (slN N (g + 1)) (g + 1) t' (st.fuse (k : Int))).1 = 0 ∨ (saveAt (slN N (g + 1)) (g + 1) t' (st.fuse (k : Int))).1 = 50) ∧ nb t'.size + 4 ≤ k ∧ Keep N ((saveAt (slN N (g + 1)) (g + 1) t' (st.fuse (k : Int))).2.crash picks) (g + 1) t') := by
  have hnb := nb_fit ht' h4
  have hnbo := nb_fit h.fit h4
  have hsl := slN_le N (g + 1)
  have hapart : ∀ i, i < N / 2 → ∀ j, j < N / 2 → slN N (g + 1) + i ≠ slN N g + j := fun i hi j hj => by
    unfold slN
    rcases (by omega : g % 2 = 0 ∨ g % 2 = 1) with hp | hp
    · rw [hp, show (g + 1) % 2 = 1 from by omega]; omega
    · rw [hp, show (g + 1) % 2 = 0 from by omega]; omega
  have hslg : slN N (g + 1 + 1) = slN N g := by unfold slN; rw [show (g + 1 + 1) % 2 = g % 2 from by omega]
  have hfu : st.fuse (k : Int) = ⟨st.sure, [], (k : Int)⟩ := by unfold St.fuse; rw [h.loose, show max (k : Int) (-1) = (k : Int) from by omega]
  rw [hfu]
  have hokf : (⟨st.sure, [], (k : Int)⟩ : St).Ok := by rw [← hfu]; exact h.ok.fuse _ (by omega)
  have hlenS := h.len
  have hH256 : (st.sure.getD (slN N (g + 1)) noText).size = 256 := getD_size h.ok.full _ (by omega)
  -- the old one stays
  have old : ∀ S' : List ByteArray, (∀ x ∈ S', x.size = 256) → S'.length = N → (∀ j, j < N / 2 → S'.getD (slN N g + j) noText = st.sure.getD (slN N g + j) noText) → Oth (S'.getD (slN N (g + 1)) noText) g → Keep N ⟨S', [], -1⟩ g t := fun S' hf hl hs ho =>
    ⟨⟨by show S'.length ≤ 4096; omega, by show 1 ≤ S'.length; omega, hf, fun w hw => absurd hw (by simp), ⟨Int.le_refl (-1), by show (-1 : Int) ≤ 9223372036854775807; decide⟩⟩, hl, rfl, rfl, h.fit, by have := hs 0 (by omega); rw [Nat.add_zero] at this; exact this.trans h.head, fun i hi => by
      have := hs (1 + i) (by omega)
      rw [← Nat.add_assoc] at this
      exact this.trans (h.body i hi), ho⟩
  have new : ∀ S' : List ByteArray, (∀ x ∈ S', x.size = 256) → S'.length = N → S'.getD (slN N (g + 1)) noText = headT (g + 1) t' → (∀ i, i < nb t'.size → S'.getD (slN N (g + 1) + 1 + i) noText = blkT t' i) → S'.getD (slN N g) noText = st.sure.getD (slN N g) noText → Keep N ⟨S', [], -1⟩ (g + 1) t' := fun S' hf hl hh hb ho =>
    ⟨⟨by show S'.length ≤ 4096; omega, by show 1 ≤ S'.length; omega, hf, fun w hw => absurd hw (by simp), ⟨Int.le_refl (-1), by show (-1 : Int) ≤ 9223372036854775807; decide⟩⟩, hl, rfl, rfl, ht', hh, hb, by
      show Oth (S'.getD (slN N (g + 1 + 1)) noText) (g + 1)
      rw [hslg, ho, h.head]
      right
      rw [list_take8, numL_low]
      exact Nat.lt_of_le_of_lt (Nat.mod_le _ _) (Nat.lt_succ_self g)⟩
  have crash1 : ∀ (S : List ByteArray) (b : Nat) (d : ByteArray) (l2 : Int), (⟨S, [(b, d)], l2⟩ : St).crash picks = ⟨S.set b (torn (S.getD b noText) d (picks.getD 0 0)), [], -1⟩ := fun S b d l2 => rfl
  have crash0 : ∀ (S : List ByteArray) (l2 : Int), (⟨S, [], l2⟩ : St).crash picks = ⟨S, [], -1⟩ := fun S l2 => rfl
  have hS1 : ∀ x ∈ st.sure.set (slN N (g + 1)) zblock, x.size = 256 := full_set h.ok.full _ _ zblock_size
  have hS2 : ∀ x ∈ laid (st.sure.set (slN N (g + 1)) zblock) (tws (slN N (g + 1) + 1) t' 0 (nb t'.size)), x.size = 256 := laid_full _ _ hS1 (fun w hw => (tws_mem hw).2.2)
  have hl2 : (laid (st.sure.set (slN N (g + 1)) zblock) (tws (slN N (g + 1) + 1) t' 0 (nb t'.size))).length = N := by rw [laid_length, List.length_set, hlenS]
  have hS2o : ∀ j, j < N / 2 → (laid (st.sure.set (slN N (g + 1)) zblock) (tws (slN N (g + 1) + 1) t' 0 (nb t'.size))).getD (slN N g + j) noText = st.sure.getD (slN N g + j) noText := fun j hj => by
    rw [laid_other7 _ _ _ (fun w hw => by
      have := tws_mem hw
      have := hapart (w.1 - slN N (g + 1)) (by omega) j hj
      omega), getD_set_other _ _ _ _ (by have := hapart 0 (by omega) j hj; omega)]
  have hS2h : (laid (st.sure.set (slN N (g + 1)) zblock) (tws (slN N (g + 1) + 1) t' 0 (nb t'.size))).getD (slN N (g + 1)) noText = zblock := by
    rw [laid_other7 _ _ _ (fun w hw => by have := tws_mem hw; omega), getD_set_same _ _ _ (by omega)]
  rcases save_cases (slN N (g + 1)) (g + 1) t' st.sure (k : Int) (by omega) (by omega) with ⟨l2, e, b1, b2⟩ | ⟨l2, e, b1, b2⟩ | ⟨j, l2, hj, e, b1, b2⟩ | ⟨l2, e, b1, b2⟩ | ⟨l2, e, b1⟩ | ⟨l2, e, b1⟩
  · rw [e]
    refine Or.inl ⟨rfl, ?_⟩
    show Keep N ((⟨st.sure, [], l2⟩ : St).crash picks) g t
    rw [crash0]
    exact old _ h.ok.full hlenS (fun j _ => rfl) h.oth
  · rw [e]
    refine Or.inl ⟨rfl, ?_⟩
    show Keep N ((⟨st.sure, [(slN N (g + 1), zblock)], l2⟩ : St).crash picks) g t
    rw [crash1]
    refine old _ (full_set h.ok.full _ _ (torn_size _ _ _ hH256 zblock_size)) (by rw [List.length_set, hlenS]) (fun j hj => getD_set_other _ _ _ _ (by have := hapart 0 (by omega) j hj; omega)) ?_
    rw [getD_set_same _ _ _ (by omega)]
    exact h.oth.torn hH256 _
  · rw [e]
    refine Or.inl ⟨rfl, ?_⟩
    show Keep N (⟨crashed (st.sure.set (slN N (g + 1)) zblock) picks 0 (tws (slN N (g + 1) + 1) t' 0 j), [], -1⟩) g t
    refine old _ (crashed_full picks _ 0 _ hS1 (fun w hw => by have := tws_mem hw; rw [List.length_set]; exact ⟨by omega, this.2.2⟩)) (by rw [crashed_length, List.length_set, hlenS]) (fun j' hj' => ?_) ?_
    · rw [crashed_other7 _ _ _ _ _ (fun w hw => by
        have := tws_mem hw
        have := hapart (w.1 - slN N (g + 1)) (by omega) j' hj'
        omega), getD_set_other _ _ _ _ (by have := hapart 0 (by omega) j' hj'; omega)]
    · rw [crashed_other7 _ _ _ _ _ (fun w hw => by have := tws_mem hw; omega), getD_set_same _ _ _ (by omega)]
      exact Oth.zero
  · rw [e]
    refine Or.inl ⟨rfl, ?_⟩
    show Keep N ((⟨_, [], l2⟩ : St).crash picks) g t
    rw [crash0]
    exact old _ hS2 hl2 hS2o (by rw [hS2h]; exact Oth.zero)
  · rw [e]
    dsimp only
    rw [crash1, hS2h]
    rcases head_torn (g + 1) t' (picks.getD 0 0) with hw | hw
    · refine Or.inr ⟨Or.inr rfl, by omega, ?_⟩
      rw [hw]
      refine new _ (full_set hS2 _ _ (headT_size _ _)) (by rw [List.length_set, hl2]) (getD_set_same _ _ _ (by omega)) (fun i hi => ?_) ?_
      · rw [getD_set_other _ _ _ _ (by omega)]
        exact laid_tws _ t' (nb t'.size) 0 _ (by rw [List.length_set]; omega) i (by omega) (by omega)
      · have := hapart 0 (by omega) 0 (by omega)
        rw [getD_set_other _ _ _ _ (by omega)]
        exact hS2o 0 (by omega)
    · refine Or.inl ⟨rfl, ?_⟩
      refine old _ (full_set hS2 _ _ (torn_size _ _ _ zblock_size (headT_size _ _))) (by rw [List.length_set, hl2]) (fun j hj => ?_) ?_
      · rw [getD_set_other _ _ _ _ (by have := hapart 0 (by omega) j hj; omega)]
        exact hS2o j hj
      · rw [getD_set_same _ _ _ (by omega)]
        exact hw g
  · rw [e]
    refine Or.inr ⟨Or.inl rfl, by omega, ?_⟩
    show Keep N ((⟨_, [], l2⟩ : St).crash picks) (g + 1) t'
    rw [crash0]
    refine new _ (full_set hS2 _ _ (headT_size _ _)) (by rw [List.length_set, hl2]) (getD_set_same _ _ _ (by omega)) (fun i hi => ?_) ?_
    · rw [getD_set_other _ _ _ _ (by omega)]
      exact laid_tws _ t' (nb t'.size) 0 _ (by rw [List.length_set]; omega) i (by omega) (by omega)
    · have := hapart 0 (by omega) 0 (by omega)
      rw [getD_set_other _ _ _ _ (by omega)]
      exact hS2o 0 (by omega)
end Go.Proofs.YtchhojkhfdkhfaaGreatDoor
namespace Go.Proofs.YtchhojkhfdkhfaaGreatDoor
open Frm

/-- The writes that make blocks other ones: one for each that differs, by rising numbers. -/
def wl (o : Nat) : List (ByteArray × ByteArray) → Nat → List (Nat × ByteArray)
  | [], _ => []
  | x :: l, i => if x.1 = x.2 then wl o l (i + 1) else (o + i, x.2) :: wl o l (i + 1)
/-- These writes are made, up to the first error: the error, and the disk. -/
def puts (o : Nat) : List (ByteArray × ByteArray) → Nat → St → Nat × St
  | [], _, st => (0, st)
  | x :: l, i, st => if x.1 = x.2 then puts o l (i + 1) st else if (st.write ((o + i : Nat) : Int) x.2).1 = 0 then puts o l (i + 1) (st.write ((o + i : Nat) : Int) x.2).2 else st.write ((o + i : Nat) : Int) x.2
/-- .. and then it is synced, if there was one. -/
def made (o : Nat) (l : List (ByteArray × ByteArray)) (st : St) : Nat × St :=
  if (puts o l 0 st).1 ≠ 0 then puts o l 0 st else if wl o l 0 = [] then (0, (puts o l 0 st).2) else (puts o l 0 st).2.sync
theorem write_in (st : St) (b : Nat) (d : ByteArray) (hb : b < st.sure.length) (hd : d.size = 256) : st.write (b : Int) d = (if st.left = 0 then (50, st) else (0, ⟨st.sure, st.loose ++ [(b, d)], counted st.left⟩)) := by
  unfold St.write
  split
  · rfl
  · rw [if_neg (fun h => h ⟨by omega, by omega⟩), if_neg (by omega), Int.toNat_natCast]
/-- What laying leaves: some of the writes, from the first on, behind what was loose. -/
theorem puts_some (o : Nat) : ∀ (l : List (ByteArray × ByteArray)) (i : Nat) (st : St), o + i + l.length ≤ st.sure.length → (∀ x ∈ l, x.2.size = 256) →
    ∃ W c, (puts o l i st).2 = ⟨st.sure, st.loose ++ W, c⟩ ∧ W <+: wl o l i ∧ (((puts o l i st).1 = 0 ∧ W = wl o l i) ∨ (puts o l i st).1 = 50) ∧ (st.left = -1 → (puts o l i st).1 = 0 ∧ c = -1)
  | [], _, st, _, _ => ⟨[], st.left, by unfold puts; simp, List.prefix_refl _, Or.inl ⟨rfl, rfl⟩, fun h => ⟨rfl, h⟩⟩
  | x :: l, i, st, hl, hs => by
    rw [List.length_cons] at hl
    unfold puts wl
    by_cases e : x.1 = x.2
    · rw [if_pos e, if_pos e]
      exact puts_some o l (i + 1) st (by omega) (fun y hy => hs y (List.mem_cons_of_mem _ hy))
    · rw [if_neg e, if_neg e]
      have hw := write_in st (o + i) x.2 (by omega) (hs x (by simp))
      by_cases h0 : st.left = 0
      · rw [if_pos h0] at hw
        rw [hw]
        refine ⟨[], st.left, by simp, List.nil_prefix, Or.inr (by simp), fun h => by omega⟩
      · rw [if_neg h0] at hw
        rw [hw]
        obtain ⟨W, c, h1, h2, h3, h4⟩ := puts_some o l (i + 1) ⟨st.sure, st.loose ++ [(o + i, x.2)], counted st.left⟩ (by show _ ≤ st.sure.length; omega) (fun y hy => hs y (List.mem_cons_of_mem _ hy))
        simp only [if_true]
        refine ⟨(o + i, x.2) :: W, c, by rw [h1]; simp, List.cons_prefix_cons.2 ⟨rfl, h2⟩, ?_, fun h => h4 (by rw [h]; rfl)⟩
        rcases h3 with ⟨h5, h6⟩ | h5
        · exact Or.inl ⟨h5, by rw [h6]⟩
        · exact Or.inr h5
theorem wl_ge (o : Nat) : ∀ (l : List (ByteArray × ByteArray)) (i : Nat), ∀ w ∈ wl o l i, o + i ≤ w.1
  | [], _, w, h => absurd h (by simp [wl])
  | x :: l, i, w, h => by
    unfold wl at h
    split at h
    · have := wl_ge o l (i + 1) w h; omega
    · rcases List.mem_cons.1 h with rfl | h
      · exact Nat.le_refl _
      · have := wl_ge o l (i + 1) w h; omega
/-- Which writes these are. -/
theorem wl_mem (o : Nat) : ∀ (l : List (ByteArray × ByteArray)) (i : Nat), ∀ w ∈ wl o l i, ∃ (j : Nat) (hj : j < l.length), w = (o + i + j, l[j].2)
  | [], _, w, h => absurd h (by simp [wl])
  | x :: l, i, w, h => by
    unfold wl at h
    split at h
    · obtain ⟨j, hj, e⟩ := wl_mem o l (i + 1) w h
      exact ⟨j + 1, by simpa using hj, by rw [e]; simp; omega⟩
    · rcases List.mem_cons.1 h with rfl | h
      · exact ⟨0, by simp, by simp⟩
      · obtain ⟨j, hj, e⟩ := wl_mem o l (i + 1) w h
        exact ⟨j + 1, by simpa using hj, by rw [e]; simp; omega⟩
theorem crashed_other (picks : List Int) : ∀ (W : List (Nat × ByteArray)) (i : Nat) (s : List ByteArray) (k : Nat), (∀ w ∈ W, w.1 ≠ k) → (crashed s picks i W).getD k noText = s.getD k noText
  | [], _, _, _, _ => rfl
  | w :: W, i, s, k, h => by
    unfold crashed
    rw [crashed_other picks W (i + 1) _ k (fun x hx => h x (List.mem_cons_of_mem _ hx)), getD_set_other _ _ _ _ (h w (by simp))]
/-- Rising numbers. -/
def Rises : List (Nat × ByteArray) → Prop
  | [] => True
  | w :: l => (∀ x ∈ l, w.1 < x.1) ∧ Rises l
theorem wl_rises (o : Nat) : ∀ (l : List (ByteArray × ByteArray)) (i : Nat), Rises (wl o l i)
  | [], _ => trivial
  | x :: l, i => by
    unfold wl
    split
    · exact wl_rises o l (i + 1)
    · exact ⟨fun y hy => by have := wl_ge o l (i + 1) y hy; show o + i < y.1; omega, wl_rises o l (i + 1)⟩
theorem Rises.front : ∀ {W V : List (Nat × ByteArray)}, Rises V → W <+: V → Rises W
  | [], _, _, _ => trivial
  | w :: W, [], _, h => absurd h (by simp)
  | w :: W, v :: V, hr, h => by
    obtain ⟨rfl, h2⟩ := List.cons_prefix_cons.1 h
    exact ⟨fun x hx => hr.1 x (h2.subset hx), hr.2.front h2⟩
/-- A crash among such writes: each block is as it was, or has its one write, torn. -/
theorem crashed_once (picks : List Int) : ∀ (W : List (Nat × ByteArray)) (i : Nat) (s : List ByteArray) (k : Nat), Rises W → (∀ w ∈ W, w.1 < s.length) →
    (crashed s picks i W).getD k noText = s.getD k noText ∨ ∃ d p, (k, d) ∈ W ∧ (crashed s picks i W).getD k noText = torn (s.getD k noText) d p
  | [], _, _, _, _, _ => Or.inl rfl
  | w :: W, i, s, k, hr, hl => by
    unfold crashed
    by_cases e : w.1 = k
    · right
      refine ⟨w.2, picks.getD i 0, by rw [← e]; simp, ?_⟩
      rw [crashed_other picks W (i + 1) _ k (fun x hx => by have := hr.1 x hx; omega), ← e, getD_set_same _ _ _ (hl w (by simp))]
    · rcases crashed_once picks W (i + 1) (s.set w.1 (torn (s.getD w.1 noText) w.2 (picks.getD i 0))) k hr.2 (fun x hx => by rw [List.length_set]; exact hl x (List.mem_cons_of_mem _ hx)) with h | ⟨d, p, h1, h2⟩
      · left; rw [h, getD_set_other _ _ _ _ e]
      · right; exact ⟨d, p, List.mem_cons_of_mem _ h1, by rw [h2, getD_set_other _ _ _ _ e]⟩
theorem laid_other : ∀ (W : List (Nat × ByteArray)) (s : List ByteArray) (k : Nat), (∀ w ∈ W, w.1 ≠ k) → (laid s W).getD k noText = s.getD k noText
  | [], _, _, _ => rfl
  | w :: W, s, k, h => by
    unfold laid
    rw [laid_other W _ k (fun x hx => h x (List.mem_cons_of_mem _ hx)), getD_set_other _ _ _ _ (h w (by simp))]
/-- All these writes made sure: the blocks are as they are wanted. -/
theorem laid_wl (o : Nat) : ∀ (l : List (ByteArray × ByteArray)) (i : Nat) (s : List ByteArray), o + i + l.length ≤ s.length → (∀ j (hj : j < l.length), s.getD (o + i + j) noText = l[j].1) → ∀ j (hj : j < l.length), (laid s (wl o l i)).getD (o + i + j) noText = l[j].2
  | [], _, _, _, _, j, hj => absurd hj (by simp)
  | x :: l, i, s, hl, h, j, hj => by
    rw [List.length_cons] at hl
    have h0 := h 0 (by simp)
    rw [Nat.add_zero] at h0
    unfold wl
    by_cases e : x.1 = x.2
    · rw [if_pos e]
      cases j with
      | zero =>
        rw [laid_other _ _ _ (fun w hw => by have := wl_ge o l (i + 1) w hw; omega), Nat.add_zero, h0]
        exact e
      | succ j =>
        have := laid_wl o l (i + 1) s (by omega) (fun j hj => by
          have := h (j + 1) (by simpa using hj)
          rw [show o + (i + 1) + j = o + i + (j + 1) from by omega]
          exact this) j (by simpa using hj)
        rw [show o + i + (j + 1) = o + (i + 1) + j from by omega]
        exact this
    · rw [if_neg e]
      unfold laid
      cases j with
      | zero =>
        rw [laid_other _ _ _ (fun w hw => by have := wl_ge o l (i + 1) w hw; omega), Nat.add_zero]
        exact getD_set_same _ _ _ (by omega)
      | succ j =>
        have := laid_wl o l (i + 1) (s.set (o + i) x.2) (by rw [List.length_set]; omega) (fun j hj => by
          have := h (j + 1) (by simpa using hj)
          rw [show o + (i + 1) + j = o + i + (j + 1) from by omega, getD_set_other _ _ _ _ (by omega)]
          exact this) j (by simpa using hj)
        rw [show o + i + (j + 1) = o + (i + 1) + j from by omega]
        exact this
end Go.Proofs.YtchhojkhfdkhfaaGreatDoor
namespace Go.Proofs.YtchhojkhfdkhfaaGreatDoor
open Frm

/-- Pairs of what blocks are and what they are wanted to be. -/
def prs (n : Nat) (a b : Nat → ByteArray) : List (ByteArray × ByteArray) := (List.range n).map fun i => (a i, b i)
theorem prs_length (n : Nat) (a b : Nat → ByteArray) : (prs n a b).length = n := by unfold prs; simp
theorem prs_at (n : Nat) (a b : Nat → ByteArray) (j : Nat) (hj : j < (prs n a b).length) : (prs n a b)[j] = (a j, b j) := by simp only [prs, List.getElem_map, List.getElem_range]
/-- Whatever a crash leaves of a disk of eight blocks, its blocks are as G says. -/
structure Safe (G : Nat → ByteArray → Prop) (st : St) : Prop where
  len : st.sure.length = 8
  there : ∀ w ∈ st.loose, w.1 < 8 ∧ w.2.size = 256
  left : ∀ picks, ∀ k, k < 8 → G k ((crashed st.sure picks 0 st.loose).getD k noText)
/-- Some of the writes lie loose. -/
theorem Safe.some {G : Nat → ByteArray → Prop} {a b : Nat → ByteArray} {s : List ByteArray} {W : List (Nat × ByteArray)} {c : Int} (hlen : s.length = 8) (ha : ∀ k, k < 8 → s.getD k noText = a k) (hb : ∀ k, k < 8 → (b k).size = 256) (hA : ∀ k, k < 8 → G k (a k)) (hT : ∀ k, k < 8 → ∀ p, G k (torn (a k) (b k) p)) (hW : W <+: wl 0 (prs 8 a b) 0) : Safe G ⟨s, W, c⟩ := by
  have hm : ∀ w ∈ W, w.1 < 8 ∧ w.2 = b w.1 := fun w hw => by
    obtain ⟨j, hj, e⟩ := wl_mem 0 (prs 8 a b) 0 w (hW.subset hw)
    have hj8 : j < 8 := by rw [prs_length] at hj; exact hj
    rw [prs_at] at e
    rw [e]
    simp only [Nat.zero_add]
    exact ⟨hj8, trivial⟩
  refine ⟨hlen, fun w hw => ⟨(hm w hw).1, by rw [(hm w hw).2]; exact hb _ (hm w hw).1⟩, fun picks k hk => ?_⟩
  show G k ((crashed s picks 0 W).getD k noText)
  rcases crashed_once picks W 0 s k ((wl_rises 0 _ 0).front hW) (fun w hw => by rw [hlen]; exact (hm w hw).1) with h | ⟨d, p, h1, h2⟩
  · rw [h, ha k hk]; exact hA k hk
  · rw [h2, ha k hk]
    have := (hm _ h1).2
    simp only at this
    rw [this]
    exact hT k hk p
/-- Blocks are made other ones. -/
theorem made_step {G : Nat → ByteArray → Prop} {a b : Nat → ByteArray} {st : St} (hloose : st.loose = []) (hlen : st.sure.length = 8) (ha : ∀ k, k < 8 → st.sure.getD k noText = a k) (hb : ∀ k, k < 8 → (b k).size = 256) (hA : ∀ k, k < 8 → G k (a k)) (hT : ∀ k, k < 8 → ∀ p, G k (torn (a k) (b k) p)) (hB : ∀ k, k < 8 → G k (b k)) :
    ((made 0 (prs 8 a b) st).1 = 0 ∨ (made 0 (prs 8 a b) st).1 = 50) ∧ Safe G (made 0 (prs 8 a b) st).2 ∧
    ((made 0 (prs 8 a b) st).1 = 0 → (made 0 (prs 8 a b) st).2.loose = [] ∧ (made 0 (prs 8 a b) st).2.sure.length = 8 ∧ ∀ k, k < 8 → (made 0 (prs 8 a b) st).2.sure.getD k noText = b k) ∧
    (st.left = -1 → (made 0 (prs 8 a b) st).1 = 0 ∧ (made 0 (prs 8 a b) st).2.left = -1) := by
  obtain ⟨W, c, h1, h2, h3, h4⟩ := puts_some 0 (prs 8 a b) 0 st (by rw [prs_length, hlen]; exact Nat.le_refl _) (fun x hx => by
    unfold prs at hx
    obtain ⟨i, hi, rfl⟩ := List.mem_map.1 hx
    exact hb i (List.mem_range.1 hi))
  rw [hloose, List.nil_append] at h1
  have hlaid : ∀ k, k < 8 → (laid st.sure (wl 0 (prs 8 a b) 0)).getD k noText = b k := fun k hk => by
    have := laid_wl 0 (prs 8 a b) 0 st.sure (by rw [prs_length, hlen]; exact Nat.le_refl _) (fun j hj => by
      rw [prs_at]
      simp only [Nat.zero_add]
      exact ha j (by rw [prs_length] at hj; exact hj)) k (by rw [prs_length]; exact hk)
    rw [prs_at] at this
    simpa using this
  have hsome : ∀ c, Safe G ⟨st.sure, W, c⟩ := fun c => Safe.some hlen ha hb hA hT h2
  unfold made
  by_cases h0 : (puts 0 (prs 8 a b) 0 st).1 = 0
  · rw [if_neg (fun h => h h0)]
    have hWe : W = wl 0 (prs 8 a b) 0 := by
      rcases h3 with h5 | h5
      · exact h5.2
      · rw [h0] at h5; cases h5
    by_cases hn : wl 0 (prs 8 a b) 0 = []
    · rw [if_pos hn, h1]
      have hWn : W = [] := hWe.trans hn
      rw [hn] at hlaid
      refine ⟨Or.inl rfl, hsome c, fun _ => ⟨hWn, hlen, hlaid⟩, fun h => ⟨rfl, (h4 h).2⟩⟩
    · rw [if_neg hn, h1]
      unfold St.sync
      by_cases hc : c = 0
      · rw [if_pos hc]
        exact ⟨Or.inr rfl, hsome c, (fun h => absurd h (show ¬ ((50 : Nat) = 0) from by omega)), (fun h => by have := (h4 h).2; omega)⟩
      · rw [if_neg hc]
        have hl2 : ∀ k, k < 8 → (laid st.sure W).getD k noText = b k := by rw [hWe]; exact hlaid
        have hll : (laid st.sure W).length = 8 := by rw [laid_length]; exact hlen
        exact ⟨Or.inl rfl, ⟨hll, fun w hw => absurd hw (by simp), fun picks k hk => by
          show G k ((crashed (laid st.sure W) picks 0 []).getD k noText)
          unfold crashed
          rw [hl2 k hk]
          exact hB k hk⟩, fun _ => ⟨rfl, hll, hl2⟩, fun h => ⟨rfl, by have := (h4 h).2; rw [this]; rfl⟩⟩
  · rw [if_pos h0, h1]
    have h50 : (puts 0 (prs 8 a b) 0 st).1 = 50 := by
      rcases h3 with h5 | h5
      · exact absurd h5.1 h0
      · exact h5
    refine ⟨Or.inr h50, hsome c, fun h => absurd h h0, fun h => absurd (h4 h).1 h0⟩
end Go.Proofs.YtchhojkhfdkhfaaGreatDoor
namespace Go.Proofs.YtchhojkhfdkhfaaGreatDoor
open Frm

/-- What stands in a block. -/
def St.at (st : St) (b : Nat) : ByteArray := stands st.sure b st.loose.reverse
def reads (st : St) (o n : Nat) : List ByteArray := (List.range n).map fun i => st.at (o + i)
/-- A block with another count, its other bytes as they are. -/
def recount (c s : ByteArray) (k : Nat) : ByteArray := c.extract 0 255 ++ (blkOf s k).extract 255 256
/-- The stream that counts: of the blocks, the whole frames alone. -/
def kept (l : List ByteArray) : ByteArray := (streamOf l).extract 0 (scn (streamOf l)).2.1
/-- Open: the error, the stream, the records; and the disk. -/
def walOpen (st : St) (o n : Nat) : (Nat × ByteArray × List ByteArray) × St :=
  if st.left = 0 then ((50, noText, []), st)
  else if (scn (streamOf (reads st o n))).2.2 = 41 ∨ (scn (streamOf (reads st o n))).2.2 = 4 then ((60, noText, []), st)
  else if (made o (prs n (fun i => st.at (o + i)) (fun i => recount (st.at (o + i)) (kept (reads st o n)) i)) st).1 ≠ 0 then
    (((made o (prs n (fun i => st.at (o + i)) (fun i => recount (st.at (o + i)) (kept (reads st o n)) i)) st).1, noText, []), (made o (prs n (fun i => st.at (o + i)) (fun i => recount (st.at (o + i)) (kept (reads st o n)) i)) st).2)
  else if (made o (prs n (fun i => recount (st.at (o + i)) (kept (reads st o n)) i) (fun i => blkOf (kept (reads st o n)) i)) (made o (prs n (fun i => st.at (o + i)) (fun i => recount (st.at (o + i)) (kept (reads st o n)) i)) st).2).1 ≠ 0 then
    (((made o (prs n (fun i => recount (st.at (o + i)) (kept (reads st o n)) i) (fun i => blkOf (kept (reads st o n)) i)) (made o (prs n (fun i => st.at (o + i)) (fun i => recount (st.at (o + i)) (kept (reads st o n)) i)) st).2).1, noText, []), (made o (prs n (fun i => recount (st.at (o + i)) (kept (reads st o n)) i) (fun i => blkOf (kept (reads st o n)) i)) (made o (prs n (fun i => st.at (o + i)) (fun i => recount (st.at (o + i)) (kept (reads st o n)) i)) st).2).2)
  else ((0, kept (reads st o n), (scn (streamOf (reads st o n))).1), (made o (prs n (fun i => recount (st.at (o + i)) (kept (reads st o n)) i) (fun i => blkOf (kept (reads st o n)) i)) (made o (prs n (fun i => st.at (o + i)) (fun i => recount (st.at (o + i)) (kept (reads st o n)) i)) st).2).2)
theorem recount_size {c s : ByteArray} {k : Nat} (hc : c.size = 256) : (recount c s k).size = 256 := by
  unfold recount
  rw [ByteArray.size_append, part_size c 0 255 (by omega), part_size (blkOf s k) 255 256 (by rw [blkOf_size]; omega)]
theorem recount_at {c s : ByteArray} {k j : Nat} (hc : c.size = 256) (hj : j < 255) : byteAt (recount c s k) j = byteAt c j := by
  unfold recount
  rw [byteAt_append_left (by rw [part_size c 0 255 (by omega)]; omega), byteAt_part c 0 255 j (by omega) (by omega), Nat.zero_add]
theorem recount_last {c s : ByteArray} {k : Nat} (hc : c.size = 256) : byteAt (recount c s k) 255 = byteAt (blkOf s k) 255 := by
  unfold recount
  have h1 := part_size c 0 255 (by omega)
  rw [byteAt_append_right (by omega), h1, byteAt_part (blkOf s k) 255 256 0 (by rw [blkOf_size]; omega) (by omega)]
/-- A block whose count falls to that of a shorter beginning. -/
theorem Good.recount {S : ByteArray} {k m g : Nat} {c : ByteArray} (h : Good S k m c) (hg : g ≤ S.size) (hle : cnt k g ≤ cnt k m) : Good S k g (recount c (S.extract 0 g) k) := by
  have hs := pre_size S g hg
  refine ⟨recount_size h.size, ?_, fun j hj => ?_⟩
  · unfold countOf
    rw [recount_last h.size]
    have := countOf_blk (S.extract 0 g) k
    unfold countOf at this
    rw [this, hs]
  · have := cnt_le k g
    rw [recount_at h.size (by omega)]
    exact h.data j (by omega)
/-- Such a write is whole, or nothing is turned. -/
theorem torn_recount {c s : ByteArray} {k : Nat} (hc : c.size = 256) (p : Int) : torn c (recount c s k) p = c ∨ torn c (recount c s k) p = recount c s k := by
  have hd := recount_size (s := s) (k := k) hc
  have ht := torn_size c (recount c s k) p hc hd
  by_cases hp : 256 ≤ p
  · right
    unfold torn
    rw [show max (min p 256) 0 = 256 from by omega, hc]
    show (recount c s k).extract 0 256 ++ c.extract 256 256 = _
    apply ByteArray.ext
    have h2 : (recount c s k).data.size = 256 := hd
    rw [ByteArray.data_append, ByteArray.data_extract, ByteArray.data_extract, ← h2, Array.extract_size, Array.extract_empty_of_stop_le_start (Nat.le_refl _), Array.append_empty]
  · left
    obtain ⟨q, hq⟩ : ∃ q : Nat, max (min p 256) 0 = (q : Int) := ⟨(max (min p 256) 0).toNat, by omega⟩
    refine bytes_ext (by rw [ht, hc]) (fun j hj => ?_)
    rw [ht] at hj
    unfold torn
    rw [hq, Int.toNat_natCast, hc]
    have hsz : ((recount c s k).extract 0 q).size = q := by rw [part_size _ _ _ (by omega)]; omega
    by_cases e : j < q
    · rw [byteAt_append_left (by omega), byteAt_part _ 0 q j (by omega) (by omega), Nat.zero_add, recount_at hc (by omega)]
    · rw [byteAt_append_right (by omega), hsz, byteAt_part c q 256 (j - q) (by omega) (by omega)]
      congr 1
      omega
/-- Where a cut lies among frames. -/
theorem find_end : ∀ (l : List ByteArray) (c : Nat), c ≤ (cat l).size → ∃ r, r ≤ l.length ∧ ends l r ≤ c ∧ (r < l.length → c < ends l (r + 1))
  | [], c, _ => ⟨0, Nat.le_refl _, Nat.zero_le _, fun h => absurd h (by simp)⟩
  | t :: l, c, hc => by
    have hcs : (cat (t :: l)).size = t.size + 8 + (cat l).size := by
      show (frm t ++ cat l).size = _
      rw [ByteArray.size_append, frm_size]
    by_cases h : c < t.size + 8
    · exact ⟨0, Nat.zero_le _, Nat.zero_le _, fun _ => by rw [ends_cons, ends_zero]; omega⟩
    · obtain ⟨r, h1, h2, h3⟩ := find_end l (c - (t.size + 8)) (by omega)
      refine ⟨r + 1, by simpa using h1, by rw [ends_cons]; omega, fun h4 => ?_⟩
      have := h3 (by simpa using h4)
      rw [ends_cons]
      omega
theorem ends_up (l : List ByteArray) : ∀ (d r : Nat), r + d ≤ l.length → ends l r ≤ ends l (r + d)
  | 0, _, _ => Nat.le_refl _
  | d + 1, r, h => by
    have h1 := ends_mono l (r + d) (by omega)
    have h2 := ends_up l d r (by omega)
    rw [show r + (d + 1) = r + d + 1 from by omega]
    omega
theorem cat_take (l : List ByteArray) (r : Nat) : (cat l).extract 0 (ends l r) = cat (l.take r) := by
  induction l generalizing r with
  | nil =>
    have : ends [] r = 0 := by unfold ends; rw [List.take_nil]; rfl
    rw [this, List.take_nil]
    exact bytes_ext (by rw [part_size _ _ _ (Nat.zero_le _)]; rfl) (fun j hj => absurd hj (by rw [part_size _ _ _ (Nat.zero_le _)]; omega))
  | cons t l ih =>
    cases r with
    | zero =>
      rw [ends_zero, List.take_zero]
      exact bytes_ext (by rw [part_size _ _ _ (Nat.zero_le _)]; rfl) (fun j hj => absurd hj (by rw [part_size _ _ _ (Nat.zero_le _)]; omega))
    | succ r =>
      rw [ends_cons, List.take_succ_cons]
      show (frm t ++ cat l).extract 0 _ = frm t ++ cat (l.take r)
      rw [extract_append_left _ _ _ _ (frm_size t) (by omega), ← ih r, show t.size + 8 + ends l r - (t.size + 8) = ends l r from by omega]
/-- A block of a log whose stream became S, and was m0 bytes long when all was sure. -/
def Fine (S : ByteArray) (m0 k : Nat) (c : ByteArray) : Prop := ∃ m, m0 ≤ m ∧ m ≤ S.size ∧ Good S k m c
theorem at_bare (st : St) (h : st.loose = []) (b : Nat) : st.at b = st.sure.getD b noText := by
  unfold St.at
  rw [h]
  rfl
theorem list8 {s : List ByteArray} (h : s.length = 8) (f : Nat → ByteArray) (hf : ∀ k, k < 8 → s.getD k noText = f k) : s = (List.range 8).map f := by
  apply List.ext_getElem (by simp [h])
  intro i h1 h2
  have := hf i (by omega)
  rw [List.getD_eq_getElem?_getD, List.getElem?_eq_getElem h1, Option.getD_some] at this
  rw [this]
  simp
set_option maxRecDepth 10000 in
/-- What Open does to a disk behind a crash, whenever it stands still, and what it finds. -/
theorem open_any (all : List ByteArray) (hall : ∀ t ∈ all, t.size ≤ 65536) (hS : (cat all).size ≤ 2040) (r0 : Nat) (hr0 : r0 ≤ all.length) (st : St) (hloose : st.loose = []) (hlen : st.sure.length = 8) (hfine : ∀ k, k < 8 → Fine (cat all) (ends all r0) k (st.sure.getD k noText)) :
    ∃ r, r0 ≤ r ∧ r ≤ all.length ∧ ((walOpen st 0 8).1.1 = 0 ∨ (walOpen st 0 8).1.1 = 50) ∧ Safe (Fine (cat all) (ends all r0)) (walOpen st 0 8).2 ∧
      (st.left = -1 → walOpen st 0 8 = ((0, cat (all.take r), all.take r), ⟨(List.range 8).map (blkOf (cat (all.take r))), [], -1⟩)) := by
  have hat : ∀ i, st.at (0 + i) = st.sure.getD i noText := fun i => by rw [Nat.zero_add]; exact at_bare st hloose i
  have hrl : (reads st 0 8).length = 8 := by unfold reads; simp
  have hri : ∀ i (hi : i < (reads st 0 8).length), (reads st 0 8)[i] = st.sure.getD i noText := fun i hi => by
    simp only [reads, List.getElem_map, List.getElem_range]
    exact hat i
  have hm0 := ends_le all r0
  obtain ⟨ms, g1, g2, g3, g4, g5, g6⟩ := stream_good (cat all) (ends all r0) (reads st 0 8) 0 (fun i hi => by
    rw [hri i hi, Nat.zero_add]
    exact hfine i (by omega)) (by omega)
  rw [hrl] at g3 g5
  rw [Nat.zero_mul] at g4
  have hms : ends all r0 ≤ ms := by rcases g5 with h | h <;> omega
  obtain ⟨r, q1, q2, q3⟩ := find_end all ms g2
  have hrr : r0 ≤ r := by
    rcases Nat.lt_or_ge r r0 with h | h
    · have h1 := q3 (by omega)
      have h2 := ends_up all (r0 - (r + 1)) (r + 1) (by omega)
      rw [show r + 1 + (r0 - (r + 1)) = r0 from by omega] at h2
      omega
    · exact h
  have hsc := scn_cut all ms r hall q1 q2 g2 q3
  have hgl := ends_le all r
  have hk : kept (reads st 0 8) = (cat all).extract 0 (ends all r) := by
    unfold kept
    rw [g4, hsc]
    show ((cat all).extract 0 ms).extract 0 (ends all r) = _
    exact bytes_ext (by rw [part_size _ _ _ (by rw [part_size _ _ _ g2]; omega), part_size _ _ _ hgl]) (fun j hj => by
      rw [part_size _ _ _ (by rw [part_size _ _ _ g2]; omega)] at hj
      rw [byteAt_part _ 0 _ j (by rw [part_size _ _ _ g2]; omega) (by omega), byteAt_part _ 0 _ (0 + j) g2 (by omega), byteAt_part _ 0 _ j hgl (by omega), Nat.zero_add])
  have hge : ends all r0 ≤ ends all r := by
    have := ends_up all (r - r0) r0 (by omega)
    rw [show r0 + (r - r0) = r from by omega] at this
    exact this
  have hcnt : ∀ k, k < 8 → ∀ m, Good (cat all) k m (st.sure.getD k noText) → cnt k (ends all r) ≤ cnt k m := fun k hk8 m hgm => by
    have h1 := g6 k (by omega)
    rw [hri k (by omega), Nat.zero_add, hgm.count] at h1
    have h2 : cnt k (ends all r) ≤ cnt k ms := by unfold cnt; omega
    omega
  have hsz : ∀ k, k < 8 → (st.sure.getD k noText).size = 256 := fun k hk8 => by
    obtain ⟨m, _, _, hgm⟩ := hfine k hk8
    exact hgm.size
  have hA : (fun i => st.at (0 + i)) = fun i => st.sure.getD i noText := funext hat
  have hrec : ∀ k, k < 8 → Good (cat all) k (ends all r) (recount (st.sure.getD k noText) ((cat all).extract 0 (ends all r)) k) := fun k hk8 => by
    obtain ⟨m, _, _, hgm⟩ := hfine k hk8
    exact hgm.recount hgl (hcnt k hk8 m hgm)
  have s1 := made_step (G := Fine (cat all) (ends all r0)) (a := fun i => st.sure.getD i noText) (b := fun i => recount (st.sure.getD i noText) ((cat all).extract 0 (ends all r)) i) hloose hlen (fun k _ => rfl) (fun k hk8 => recount_size (hsz k hk8)) hfine (fun k hk8 p => by
    rcases torn_recount (s := (cat all).extract 0 (ends all r)) (k := k) (hsz k hk8) p with h | h
    · rw [h]; exact hfine k hk8
    · rw [h]; exact ⟨ends all r, hge, hgl, hrec k hk8⟩) (fun k hk8 => ⟨ends all r, hge, hgl, hrec k hk8⟩)
  refine ⟨r, hrr, q1, ?_⟩
  unfold walOpen
  by_cases hl0 : st.left = 0
  · rw [if_pos hl0]
    exact ⟨Or.inr rfl, ⟨hlen, fun w hw => absurd hw (by rw [hloose]; simp), fun picks k hk8 => by rw [hloose]; unfold crashed; exact hfine k hk8⟩, fun h => by omega⟩
  rw [if_neg hl0, g4, hsc]
  rw [if_neg (by show ¬ ((if ends all r = ms then 0 else 40) = 41 ∨ (if ends all r = ms then 0 else 40) = 4); split <;> omega)]
  rw [hk]
  simp only [hat]
  generalize hq1 : made 0 (prs 8 (fun i => st.sure.getD i noText) (fun i => recount (st.sure.getD i noText) ((cat all).extract 0 (ends all r)) i)) st = Q1 at *
  obtain ⟨t1, t2, t3, t4⟩ := s1
  by_cases he1 : Q1.1 = 0
  · rw [if_neg (fun h => h he1)]
    obtain ⟨u1, u2, u3⟩ := t3 he1
    have s2 := made_step (G := Fine (cat all) (ends all r0)) (st := Q1.2) (a := fun i => recount (st.sure.getD i noText) ((cat all).extract 0 (ends all r)) i) (b := fun i => blkOf ((cat all).extract 0 (ends all r)) i) u1 u2 u3 (fun k _ => blkOf_size _ _) (fun k hk8 => ⟨ends all r, hge, hgl, hrec k hk8⟩) (fun k hk8 p => by
      rcases (hrec k hk8).torn (Nat.le_refl _) hgl p with h | h
      · exact ⟨ends all r, hge, hgl, h⟩
      · exact ⟨ends all r, hge, hgl, h⟩) (fun k _ => ⟨ends all r, hge, hgl, Good.pre _ k _ hgl⟩)
    generalize hq2 : made 0 (prs 8 (fun i => recount (st.sure.getD i noText) ((cat all).extract 0 (ends all r)) i) (fun i => blkOf ((cat all).extract 0 (ends all r)) i)) Q1.2 = Q2 at *
    obtain ⟨v1, v2, v3, v4⟩ := s2
    by_cases he2 : Q2.1 = 0
    · rw [if_neg (fun h => h he2)]
      obtain ⟨x1, x2, x3⟩ := v3 he2
      refine ⟨Or.inl rfl, v2, fun h => ?_⟩
      have hleft := (v4 (t4 h).2).2
      have hsure := list8 x2 (blkOf ((cat all).extract 0 (ends all r))) x3
      obtain ⟨e2, ⟨sure2, loose2, left2⟩⟩ := Q2
      simp only at x1 hleft hsure
      subst x1 hleft hsure
      rw [cat_take]
    · rw [if_pos he2]
      refine ⟨v1, v2, fun h => absurd (v4 (t4 h).2).1 he2⟩
  · rw [if_pos he1]
    exact ⟨t1, t2, fun h => absurd (t4 h).1 he1⟩
end Go.Proofs.YtchhojkhfdkhfaaGreatDoor
namespace Go.Proofs.YtchhojkhfdkhfaaGreatDoor
open Frm

theorem laid_append : ∀ (l m : List (Nat × ByteArray)) (s : List ByteArray), laid s (l ++ m) = laid (laid s l) m
  | [], _, _ => rfl
  | w :: l, m, s => by
    show laid (s.set w.1 w.2) (l ++ m) = laid (laid (s.set w.1 w.2) l) m
    exact laid_append l m _
/-- A write of a version: block k of the first m bytes of S. -/
def vw (S : ByteArray) (v : Nat × Nat) : Nat × ByteArray := (v.1, blkOf (S.extract 0 v.2) v.1)
/-- Versions that grow, from b on. -/
def Grows (S : ByteArray) : Nat → List (Nat × Nat) → Prop
  | _, [] => True
  | b, v :: V => v.1 < 8 ∧ b ≤ v.2 ∧ v.2 ≤ S.size ∧ Grows S v.2 V
theorem Grows.mem {S : ByteArray} : ∀ {b : Nat} {V : List (Nat × Nat)}, Grows S b V → ∀ v ∈ V, v.1 < 8 ∧ b ≤ v.2 ∧ v.2 ≤ S.size
  | _, [], _, _, h => absurd h (by simp)
  | b, u :: V, hg, v, h => by
    rcases List.mem_cons.1 h with rfl | h
    · exact ⟨hg.1, hg.2.1, hg.2.2.1⟩
    · have := hg.2.2.2.mem v h
      exact ⟨this.1, Nat.le_trans hg.2.1 this.2.1, this.2.2⟩
/-- A crash among growing versions. -/
theorem crash_grows (S : ByteArray) (m0 : Nat) (picks : List Int) : ∀ (V : List (Nat × Nat)) (i b : Nat) (s : List ByteArray), s.length = 8 → Grows S b V → b ≤ S.size → (∀ k, k < 8 → ∃ m, m0 ≤ m ∧ m ≤ b ∧ Good S k m (s.getD k noText)) →
    ∀ k, k < 8 → Fine S m0 k ((crashed s picks i (V.map (vw S))).getD k noText)
  | [], _, b, s, _, _, hb, h, k, hk => by
    obtain ⟨m, h1, h2, h3⟩ := h k hk
    exact ⟨m, h1, by omega, h3⟩
  | v :: V, i, b, s, hs, hg, _, h, k, hk => by
    rw [List.map_cons]
    unfold crashed
    refine crash_grows S m0 picks V (i + 1) v.2 _ (by rw [List.length_set]; exact hs) hg.2.2.2 hg.2.2.1 (fun j hj => ?_) k hk
    show ∃ m, m0 ≤ m ∧ m ≤ v.2 ∧ Good S j m ((s.set v.1 (torn (s.getD v.1 noText) (blkOf (S.extract 0 v.2) v.1) (picks.getD i 0))).getD j noText)
    by_cases e : v.1 = j
    · rw [← e, getD_set_same _ _ _ (by rw [hs]; exact hg.1)]
      obtain ⟨m, h1, h2, h3⟩ := h v.1 hg.1
      rcases h3.torn (m' := v.2) (by have := hg.2.1; omega) hg.2.2.1 (picks.getD i 0) with h4 | h4
      · exact ⟨m, h1, by have := hg.2.1; omega, h4⟩
      · exact ⟨v.2, by have := hg.2.1; omega, Nat.le_refl _, h4⟩
    · rw [getD_set_other _ _ _ _ e]
      obtain ⟨m, h1, h2, h3⟩ := h j hj
      exact ⟨m, h1, by have := hg.2.1; omega, h3⟩
/-- A log of the records 'all' on a disk of eight blocks; the first r0 of them are sure. -/
structure Live (all : List ByteArray) (r0 : Nat) (st : St) : Prop where
  short : ∀ t ∈ all, t.size ≤ 65536
  fits : (cat all).size ≤ 2040
  some : r0 ≤ all.length
  left : st.left = -1
  len : st.sure.length = 8
  sure : ∀ k, k < 8 → st.sure.getD k noText = blkOf (cat (all.take r0)) k
  now : ∀ k, k < 8 → (laid st.sure st.loose).getD k noText = blkOf (cat all) k
  loose : ∃ V, st.loose = V.map (vw (cat all)) ∧ Grows (cat all) (ends all r0) V
theorem Live.ok {all : List ByteArray} {r0 : Nat} {st : St} (h : Live all r0 st) : st.Ok := by
  obtain ⟨V, hV, hg⟩ := h.loose
  refine ⟨by rw [h.len]; omega, by rw [h.len]; omega, fun s hs => ?_, fun w hw => ?_, by rw [h.left]; omega⟩
  · obtain ⟨i, hi, rfl⟩ := List.getElem_of_mem hs
    have := h.sure i (by rw [h.len] at hi; exact hi)
    rw [List.getD_eq_getElem?_getD, List.getElem?_eq_getElem hi, Option.getD_some] at this
    rw [this]
    exact blkOf_size _ _
  · rw [hV] at hw
    obtain ⟨v, hv, rfl⟩ := List.mem_map.1 hw
    exact ⟨by rw [h.len]; exact (hg.mem v hv).1, blkOf_size _ _⟩
/-- All is made sure. -/
theorem Live.sync {all : List ByteArray} {r0 : Nat} {st : St} (h : Live all r0 st) : st.sync.1 = 0 ∧ Live all all.length st.sync.2 := by
  unfold St.sync
  rw [if_neg (by rw [h.left]; omega)]
  refine ⟨rfl, h.short, h.fits, Nat.le_refl _, by show counted st.left = -1; rw [h.left]; rfl, by show (laid _ _).length = 8; rw [laid_length]; exact h.len, fun k hk => ?_, fun k hk => h.now k hk, [], rfl, trivial⟩
  rw [List.take_length]
  exact h.now k hk
/-- Behind a crash. -/
theorem Live.crash {all : List ByteArray} {r0 : Nat} {st : St} (h : Live all r0 st) (picks : List Int) : (st.crash picks).loose = [] ∧ (st.crash picks).sure.length = 8 ∧ (st.crash picks).left = -1 ∧ ∀ k, k < 8 → Fine (cat all) (ends all r0) k ((st.crash picks).sure.getD k noText) := by
  obtain ⟨V, hV, hg⟩ := h.loose
  have hle := ends_le all r0
  refine ⟨rfl, by show (crashed _ _ _ _).length = 8; rw [crashed_length]; exact h.len, rfl, fun k hk => ?_⟩
  show Fine (cat all) (ends all r0) k ((crashed st.sure picks 0 st.loose).getD k noText)
  rw [hV]
  refine crash_grows (cat all) (ends all r0) picks V 0 (ends all r0) st.sure h.len hg hle (fun j hj => ⟨ends all r0, Nat.le_refl _, Nat.le_refl _, ?_⟩) k hk
  rw [h.sure j hj, ← cat_take]
  exact Good.pre _ _ _ hle
/-- A disk that holds just a log's blocks. -/
theorem Live.bare (all : List ByteArray) (hs : ∀ t ∈ all, t.size ≤ 65536) (hf : (cat all).size ≤ 2040) : Live all all.length ⟨(List.range 8).map (blkOf (cat all)), [], -1⟩ := by
  have h1 : ∀ k, k < 8 → ((List.range 8).map (blkOf (cat all))).getD k noText = blkOf (cat all) k := fun k hk => by
    rw [List.getD_eq_getElem?_getD, List.getElem?_eq_getElem (by simp; exact hk), Option.getD_some]
    simp
  exact ⟨hs, hf, Nat.le_refl _, rfl, by simp, fun k hk => by rw [List.take_length]; exact h1 k hk, h1, [], rfl, trivial⟩
/-- Append: the error, the stream, the disk. -/
def walAppend (st : St) (o n : Nat) (stream rec : ByteArray) : Nat × ByteArray × St :=
  if 65536 < rec.size then (4, stream, st)
  else if n * 255 < stream.size + (rec.size + 8) then (6, stream, st)
  else if (puts o (prs n (blkOf stream) (blkOf (stream ++ frm rec))) 0 st).1 ≠ 0 then ((puts o (prs n (blkOf stream) (blkOf (stream ++ frm rec))) 0 st).1, stream, (puts o (prs n (blkOf stream) (blkOf (stream ++ frm rec))) 0 st).2)
  else (0, stream ++ frm rec, (puts o (prs n (blkOf stream) (blkOf (stream ++ frm rec))) 0 st).2)
theorem pre_append (S T : ByteArray) (m : Nat) (h : m ≤ S.size) : (S ++ T).extract 0 m = S.extract 0 m := by
  have hs : (S ++ T).size = S.size + T.size := ByteArray.size_append
  refine bytes_ext (by rw [part_size _ _ _ (by omega), part_size _ _ _ h]) (fun j hj => ?_)
  rw [part_size _ _ _ (by omega)] at hj
  rw [byteAt_part _ 0 m j (by omega) (by omega), byteAt_part _ 0 m j h (by omega), Nat.zero_add, byteAt_append_left (by omega)]
theorem pre_all (S : ByteArray) : S.extract 0 S.size = S := by
  refine bytes_ext (by rw [part_size _ _ _ (Nat.le_refl _)]; omega) (fun j hj => ?_)
  rw [part_size _ _ _ (Nat.le_refl _)] at hj
  rw [byteAt_part _ 0 _ j (Nat.le_refl _) (by omega), Nat.zero_add]
theorem Grows.longer {S T : ByteArray} : ∀ {b : Nat} {V : List (Nat × Nat)}, Grows S b V → Grows (S ++ T) b V ∧ V.map (vw S) = V.map (vw (S ++ T))
  | _, [], _ => ⟨trivial, rfl⟩
  | b, v :: V, h => by
    have ih := h.2.2.2.longer (T := T)
    have hs : (S ++ T).size = S.size + T.size := ByteArray.size_append
    refine ⟨⟨h.1, h.2.1, by have := h.2.2.1; omega, ih.1⟩, ?_⟩
    rw [List.map_cons, List.map_cons, ih.2]
    congr 1
    unfold vw
    rw [pre_append S T v.2 h.2.2.1]
theorem Grows.snoc {S : ByteArray} : ∀ {b : Nat} {V W : List (Nat × Nat)} (_ : Grows S b V) (_ : ∀ v ∈ W, v.1 < 8 ∧ v.2 = S.size) (_ : b ≤ S.size), Grows S b (V ++ W)
  | b, [], [], _, _, _ => trivial
  | b, [], w :: W, _, hW, hb => by
    have h1 := hW w (by simp)
    refine ⟨h1.1, by rw [h1.2]; exact hb, by rw [h1.2]; exact Nat.le_refl _, ?_⟩
    have := Grows.snoc (S := S) (b := w.2) (V := []) (W := W) trivial (fun v hv => hW v (List.mem_cons_of_mem _ hv)) (by rw [h1.2]; exact Nat.le_refl _)
    exact this
  | b, v :: V, W, hg, hW, _ => ⟨hg.1, hg.2.1, hg.2.2.1, hg.2.2.2.snoc hW hg.2.2.1⟩
/-- The writes of an append are of the newest version. -/
theorem wl_vw (S T : ByteArray) : ∀ w ∈ wl 0 (prs 8 (blkOf S) (blkOf T)) 0, ∃ k, k < 8 ∧ w = vw T (k, T.size) := fun w hw => by
  obtain ⟨j, hj, e⟩ := wl_mem 0 _ 0 w hw
  rw [prs_at] at e
  refine ⟨j, by rw [prs_length] at hj; exact hj, ?_⟩
  unfold vw
  rw [e, pre_all]
  simp
theorem all_vw (T : ByteArray) : ∀ (W : List (Nat × ByteArray)), (∀ w ∈ W, ∃ k, k < 8 ∧ w = vw T (k, T.size)) → ∃ V : List (Nat × Nat), W = V.map (vw T) ∧ ∀ v ∈ V, v.1 < 8 ∧ v.2 = T.size
  | [], _ => ⟨[], rfl, by simp⟩
  | w :: W, h => by
    obtain ⟨V, h1, h2⟩ := all_vw T W (fun x hx => h x (List.mem_cons_of_mem _ hx))
    obtain ⟨k, hk, e⟩ := h w (by simp)
    refine ⟨(k, T.size) :: V, by rw [List.map_cons, ← h1, e], fun v hv => ?_⟩
    rcases List.mem_cons.1 hv with rfl | hv
    · exact ⟨hk, rfl⟩
    · exact h2 v hv
end Go.Proofs.YtchhojkhfdkhfaaGreatDoor
namespace Go.Proofs.YtchhojkhfdkhfaaGreatDoor
open Frm

theorem ends_snoc (all : List ByteArray) (t : ByteArray) (r : Nat) (h : r ≤ all.length) : ends (all ++ [t]) r = ends all r := by
  unfold ends
  rw [List.take_append_of_le_length h]
/-- A record is appended. -/
theorem Live.append {all : List ByteArray} {r0 : Nat} {st : St} (h : Live all r0 st) (t : ByteArray) (h1 : t.size ≤ 65536) (h2 : (cat all).size + (t.size + 8) ≤ 2040) :
    ∃ st', walAppend st 0 8 (cat all) t = (0, cat (all ++ [t]), st') ∧ Live (all ++ [t]) r0 st' := by
  obtain ⟨V, hV, hg⟩ := h.loose
  obtain ⟨W, c, p1, p2, p3, p4⟩ := puts_some 0 (prs 8 (blkOf (cat all)) (blkOf (cat all ++ frm t))) 0 st (by rw [prs_length, h.len]; exact Nat.le_refl _) (fun x hx => by
    unfold prs at hx
    obtain ⟨i, hi, rfl⟩ := List.mem_map.1 hx
    exact blkOf_size _ _)
  obtain ⟨p5, p6⟩ := p4 h.left
  have hW : W = wl 0 (prs 8 (blkOf (cat all)) (blkOf (cat all ++ frm t))) 0 := by
    rcases p3 with h5 | h5
    · exact h5.2
    · rw [p5] at h5; cases h5
  have hcs : (cat (all ++ [t])).size = (cat all).size + (t.size + 8) := by rw [cat_snoc, ByteArray.size_append, frm_size]
  refine ⟨⟨st.sure, st.loose ++ W, c⟩, ?_, ?_⟩
  · unfold walAppend
    rw [if_neg (by omega), if_neg (by omega), if_neg (fun h => h p5), p1, cat_snoc]
  · obtain ⟨U, e1, e2⟩ := all_vw (cat all ++ frm t) W (fun w hw => wl_vw (cat all) (cat all ++ frm t) w (by rw [← hW]; exact hw))
    have hl := hg.longer (T := frm t)
    have hb := ends_le all r0
    refine ⟨fun x hx => ?_, by omega, by rw [List.length_append]; have := h.some; omega, p6, h.len, fun k hk => ?_, fun k hk => ?_, V ++ U, ?_, ?_⟩
    · rcases List.mem_append.1 hx with hx | hx
      · exact h.short x hx
      · rw [List.mem_singleton.1 hx]; exact h1
    · rw [List.take_append_of_le_length h.some]
      exact h.sure k hk
    · show (laid st.sure (st.loose ++ W)).getD k noText = _
      rw [laid_append, hW]
      have := laid_wl 0 (prs 8 (blkOf (cat all)) (blkOf (cat all ++ frm t))) 0 (laid st.sure st.loose) (by rw [prs_length, laid_length, h.len]; exact Nat.le_refl _) (fun j hj => by
        rw [prs_at]
        simp only [Nat.zero_add]
        exact h.now j (by rw [prs_length] at hj; exact hj)) k (by rw [prs_length]; exact hk)
      rw [prs_at] at this
      simp only [Nat.zero_add] at this
      rw [this, cat_snoc]
    · show st.loose ++ W = _
      rw [List.map_append, cat_snoc, ← hl.2, ← hV, ← e1]
    · rw [ends_snoc _ _ _ h.some, cat_snoc]
      exact hl.1.snoc e2 (by rw [ByteArray.size_append]; omega)
/-- What is too long, and what does not fit. -/
theorem append_long (st : St) (o n : Nat) (s t : ByteArray) (h : 65536 < t.size) : walAppend st o n s t = (4, s, st) := by
  unfold walAppend
  rw [if_pos h]
theorem append_full (st : St) (o n : Nat) (s t : ByteArray) (h : ¬ 65536 < t.size) (h2 : n * 255 < s.size + (t.size + 8)) : walAppend st o n s t = (6, s, st) := by
  unfold walAppend
  rw [if_neg h, if_pos h2]
/-- The round of a crash: it crashes, the disk may stand still in the midst of Open, it crashes anew, and Open finds a beginning. -/
theorem Live.round {all : List ByteArray} {r0 : Nat} {st : St} (h : Live all r0 st) (p1 p2 : List Int) (k : Int) :
    ((walOpen ((st.crash p1).fuse k) 0 8).1.1 = 0 ∨ (walOpen ((st.crash p1).fuse k) 0 8).1.1 = 50) ∧
    ∃ r st', r0 ≤ r ∧ r ≤ all.length ∧ walOpen ((walOpen ((st.crash p1).fuse k) 0 8).2.crash p2) 0 8 = ((0, cat (all.take r), all.take r), st') ∧ Live (all.take r) r st' := by
  obtain ⟨c1, c2, c3, c4⟩ := h.crash p1
  obtain ⟨r1, a1, a2, a3, a4, _⟩ := open_any all h.short h.fits r0 h.some ((st.crash p1).fuse k) c1 c2 c4
  refine ⟨a3, ?_⟩
  obtain ⟨r, b1, b2, _, _, b5⟩ := open_any all h.short h.fits r0 h.some ((walOpen ((st.crash p1).fuse k) 0 8).2.crash p2) rfl (by show (crashed _ _ _ _).length = 8; rw [crashed_length]; exact a4.len) (fun k hk => a4.left p2 k hk)
  refine ⟨r, _, b1, b2, b5 rfl, ?_⟩
  have hlt : (all.take r).length = r := by rw [List.length_take]; omega
  have hb := Live.bare (all.take r) (fun x hx => h.short x (List.mem_of_mem_take hx)) (by have := ends_le all r; have := h.fits; unfold ends at *; omega)
  rw [hlt] at hb
  exact hb
theorem Live.synced {all : List ByteArray} {r0 : Nat} {st : St} (h : Live all r0 st) : st.sync.2.loose = [] := by
  unfold St.sync
  rw [if_neg (by rw [h.left]; omega)]
set_option maxRecDepth 4000 in
theorem blkOf_none (k : Nat) : blkOf noText k = zblock := by
  have hz : zblock.size = 256 := zblock_size
  have hc : cnt k noText.size = 0 := by unfold cnt noText; show min 255 (0 - k * 255) = 0; omega
  refine bytes_ext (by rw [blkOf_size, hz]) (fun j hj => ?_)
  rw [blkOf_size] at hj
  have hzj : byteAt zblock j = some 0 := byteAt_zs 256 j hj
  rw [hzj]
  by_cases e : j < 255
  · exact blkOf_rest noText k j (by omega) e
  · rw [show j = 255 from by omega, blkOf_last, hc]
    rfl
/-- Clear: bytes 0 are written to each block, by rising numbers. -/
def zeros : Nat → Nat → St → Nat × St
  | 0, _, st => (0, st)
  | n + 1, b, st => if (st.write ((b : Nat) : Int) zblock).1 = 0 then zeros n (b + 1) (st.write ((b : Nat) : Int) zblock).2 else st.write ((b : Nat) : Int) zblock
/-- .. and it is synced. -/
def walClear (st : St) (o n : Nat) : Nat × St := if (zeros n o st).1 ≠ 0 then zeros n o st else (zeros n o st).2.sync
end Go.Proofs.YtchhojkhfdkhfaaGreatDoor
