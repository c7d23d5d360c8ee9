/- Appending behind the full blocks, plain. A disk that holds just a log's blocks, any number of them, plain. -/
import Derived.Test.YtelkccfjeinlcaaG1Mend
import Derived.Test.YtelkccfjeinlcaaGLog
namespace Go.Proofs.Ytelkccfjeinlcaa
open Go Go.RowKit Frm
set_option maxRecDepth 4000 in
theorem blkOf_eq {s t : ByteArray} {k j : Nat} (hc : cnt k s.size = cnt j t.size) (hd : ∀ i, i < cnt k s.size → byteAt s (k * 255 + i) = byteAt t (j * 255 + i)) : blkOf s k = blkOf t j := by
  refine bytes_ext (by rw [blkOf_size, blkOf_size]) (fun i hi => ?_)
  rw [blkOf_size] at hi
  by_cases h1 : i < cnt k s.size
  · rw [blkOf_data s k i h1, blkOf_data t j i (by rw [← hc]; exact h1)]
    exact hd i h1
  · by_cases h2 : i < 255
    · rw [blkOf_rest s k i (by omega) h2, blkOf_rest t j i (by rw [← hc]; omega) h2]
    · have e : i = 255 := by omega
      subst e
      rw [blkOf_last, blkOf_last, hc]
set_option maxRecDepth 4000 in
theorem blkOf_shift (s : ByteArray) (c j : Nat) : blkOf s (c + j) = blkOf (s.extract (c * 255) s.size) j := by
  have hsz : (s.extract (c * 255) s.size).size = s.size - c * 255 := part_size s _ _ (Nat.le_refl _)
  have hm : (c + j) * 255 = c * 255 + j * 255 := Nat.add_mul _ _ _
  refine blkOf_eq ?_ (fun i hi => ?_)
  · rw [hsz]
    unfold cnt
    rw [hm]
    omega
  · have hlt : (c + j) * 255 + i < s.size := by unfold cnt at hi; omega
    rw [byteAt_part s (c * 255) s.size (j * 255 + i) (Nat.le_refl _) (by omega), hm, Nat.add_assoc]
theorem extract_app (s f : ByteArray) (c : Nat) (hc : c ≤ s.size) : (s ++ f).extract c (s ++ f).size = s.extract c s.size ++ f := by
  have hs : (s ++ f).size = s.size + f.size := ByteArray.size_append
  have h1 := part_size (s ++ f) c (s ++ f).size (Nat.le_refl _)
  have h2 := part_size s c s.size (Nat.le_refl _)
  refine bytes_ext (by rw [h1, ByteArray.size_append (a := s.extract c s.size), h2]; omega) (fun i hi => ?_)
  rw [h1] at hi
  rw [byteAt_part _ c _ i (Nat.le_refl _) (by omega)]
  by_cases h : i < s.size - c
  · rw [byteAt_append_left (by omega), byteAt_append_left (by omega), byteAt_part s c s.size i (Nat.le_refl _) (by omega)]
  · rw [byteAt_append_right (by omega), byteAt_append_right (by omega), h2, show c + i - s.size = i - (s.size - c) from by omega]
set_option maxRecDepth 4000 in
theorem blkOf_full (s f : ByteArray) (i : Nat) (h : i * 255 + 255 ≤ s.size) : blkOf s i = blkOf (s ++ f) i := by
  have hs : (s ++ f).size = s.size + f.size := ByteArray.size_append
  refine blkOf_eq (by unfold cnt; omega) (fun j hj => ?_)
  have := cnt_le i s.size
  rw [byteAt_append_left (by omega)]
theorem blkOf_past (s t : ByteArray) (k j : Nat) (h : s.size ≤ k * 255) (h' : t.size ≤ j * 255) : blkOf s k = blkOf t j := by
  have h0 : cnt k s.size = 0 := by unfold cnt; omega
  refine blkOf_eq (by unfold cnt; omega) (fun i hi => by omega)
theorem puts_cons (o : Nat) (x : ByteArray × ByteArray) (l : List (ByteArray × ByteArray)) (i : Nat) (st : St) : puts o (x :: l) i st = if x.1 = x.2 then puts o l (i + 1) st else if (st.write ((o + i : Nat) : Int) x.2).1 = 0 then puts o l (i + 1) (st.write ((o + i : Nat) : Int) x.2).2 else st.write ((o + i : Nat) : Int) x.2 := rfl
theorem puts_head (o : Nat) : ∀ (l m : List (ByteArray × ByteArray)) (i : Nat) (st : St), (∀ x ∈ l, x.1 = x.2) → puts o (l ++ m) i st = puts o m (i + l.length) st
  | [], _, _, _, _ => rfl
  | x :: l, m, i, st, h => by
    rw [List.cons_append, puts_cons, if_pos (h x (by simp)), puts_head o l m (i + 1) st (fun y hy => h y (List.mem_cons_of_mem _ hy)), List.length_cons, show i + 1 + l.length = i + (l.length + 1) from by omega]
theorem puts_equal (o : Nat) : ∀ (m : List (ByteArray × ByteArray)) (i : Nat) (st : St), (∀ x ∈ m, x.1 = x.2) → puts o m i st = (0, st)
  | [], _, _, _ => rfl
  | x :: l, i, st, h => by rw [puts_cons, if_pos (h x (by simp)), puts_equal o l (i + 1) st (fun y hy => h y (List.mem_cons_of_mem _ hy))]
theorem puts_end (o : Nat) : ∀ (l m : List (ByteArray × ByteArray)) (i : Nat) (st : St), (∀ x ∈ m, x.1 = x.2) → puts o (l ++ m) i st = puts o l i st
  | [], m, i, st, h => by rw [List.nil_append, puts_equal o m i st h]; rfl
  | x :: l, m, i, st, h => by
    rw [List.cons_append, puts_cons, puts_cons]
    split
    · exact puts_end o l m (i + 1) st h
    · split
      · exact puts_end o l m (i + 1) _ h
      · rfl
theorem puts_shift (o d : Nat) : ∀ (l : List (ByteArray × ByteArray)) (i : Nat) (st : St), puts o l (i + d) st = puts (o + d) l i st
  | [], _, _ => rfl
  | x :: l, i, st => by
    rw [puts_cons, puts_cons, show o + (i + d) = o + d + i from by omega, show i + d + 1 = i + 1 + d from by omega]
    split
    · exact puts_shift o d l (i + 1) st
    · split
      · exact puts_shift o d l (i + 1) _
      · rfl
theorem prs_split (c t : Nat) (a b : Nat → ByteArray) : prs (c + t) a b = prs c a b ++ prs t (fun j => a (c + j)) (fun j => b (c + j)) := by
  unfold prs
  rw [List.range_add, List.map_append, List.map_map]
  rfl
theorem prs_same {n : Nat} {a b : Nat → ByteArray} (h : ∀ i, i < n → a i = b i) : ∀ x ∈ prs n a b, x.1 = x.2 := fun x hx => by
  unfold prs at hx
  obtain ⟨i, hi, rfl⟩ := List.mem_map.1 hx
  exact h i (List.mem_range.1 hi)
theorem tail_size (s : ByteArray) : (tailOf s).size = s.size % 255 := by
  unfold tailOf
  rw [part_size s _ _ (Nat.le_refl _)]
  omega
theorem tail_at (s : ByteArray) : tailOf s = s.extract (s.size / 255 * 255) s.size := by
  unfold tailOf
  rw [show s.size - s.size % 255 = s.size / 255 * 255 from by omega]
theorem full_le (m : Nat) : m / 255 * 255 ≤ m := by omega
set_option maxRecDepth 8000 in
/-- The blocks that are gone through at an Append are enough. -/
theorem puts_touched (o n : Nat) (s f : ByteArray) (st : St) (h : s.size + f.size ≤ n * 255) :
    puts (o + s.size / 255) (prs (((tailOf s ++ f).size + 254) / 255) (blkOf (tailOf s)) (blkOf (tailOf s ++ f))) 0 st = puts o (prs n (blkOf s) (blkOf (s ++ f))) 0 st := by
  have hsz : (tailOf s ++ f).size = s.size % 255 + f.size := by rw [ByteArray.size_append, tail_size]
  have hfl := full_le s.size
  have hA : ∀ j, blkOf s (s.size / 255 + j) = blkOf (tailOf s) j := fun j => by rw [blkOf_shift s _ j, tail_at]
  have hB : ∀ j, blkOf (s ++ f) (s.size / 255 + j) = blkOf (tailOf s ++ f) j := fun j => by
    rw [blkOf_shift (s ++ f) _ j, extract_app s f _ hfl, tail_at]
  obtain ⟨d, hd⟩ : ∃ d, n = s.size / 255 + (((tailOf s ++ f).size + 254) / 255 + d) := ⟨n - (s.size / 255 + ((tailOf s ++ f).size + 254) / 255), by rw [hsz]; omega⟩
  generalize hT : ((tailOf s ++ f).size + 254) / 255 = t at *
  rw [hd, prs_split (s.size / 255) (t + d), puts_head o _ _ 0 st (prs_same (fun i hi => blkOf_full s f i (by omega))), prs_length, prs_split t d, puts_end o _ _ _ st (prs_same (fun j _ => ?_)), puts_shift o (s.size / 255) _ 0 st]
  · rw [prs_congr (fun j _ => (hA j).symm) (fun j _ => (hB j).symm)]
  · show blkOf s (s.size / 255 + (t + j)) = blkOf (s ++ f) (s.size / 255 + (t + j))
    rw [hA, hB]
    refine blkOf_past _ _ _ _ ?_ ?_
    · rw [tail_size]; omega
    · omega
theorem tail_num (q M : Nat) (h : q * 255 ≤ M) : q * 255 + (M - q * 255 - (M - q * 255) % 255) = M - M % 255 := by omega
theorem tail_app (s f : ByteArray) : tailOf (tailOf s ++ f) = tailOf (s ++ f) := by
  have hs2 : (s ++ f).size = s.size + f.size := ByteArray.size_append
  have hfl := full_le s.size
  have e : tailOf s ++ f = (s ++ f).extract (s.size / 255 * 255) (s ++ f).size := by rw [extract_app s f _ hfl, tail_at]
  have t1 : ∀ x : ByteArray, tailOf x = x.extract (x.size - x.size % 255) x.size := fun _ => rfl
  have hx := part_size (s ++ f) (s.size / 255 * 255) (s ++ f).size (Nat.le_refl _)
  rw [e, t1 ((s ++ f).extract _ _), extract_extract, hx, t1 (s ++ f), tail_num (s.size / 255) (s ++ f).size (by omega)]
end Go.Proofs.Ytelkccfjeinlcaa
namespace Go.Proofs.Ytelkccfjeinlcaa
open Go Go.RowKit Frm
/-- n blocks of a stream, all sure. -/
def bare (n : Nat) (S : ByteArray) : St := ⟨(List.range n).map (blkOf S), [], -1⟩
theorem bare_len (n : Nat) (S : ByteArray) : (bare n S).sure.length = n := by show ((List.range n).map (blkOf S)).length = n; simp
theorem bare_at (n : Nat) (S : ByteArray) (k : Nat) (hk : k < n) : (bare n S).sure.getD k noText = blkOf S k := by
  show ((List.range n).map (blkOf S)).getD k noText = _
  rw [List.getD_eq_getElem?_getD, List.getElem?_eq_getElem (by simp; exact hk)]
  simp
theorem bare_ok (n : Nat) (S : ByteArray) (h1 : 1 ≤ n) (h2 : n ≤ 4096) : (bare n S).Ok := by
  refine ⟨by rw [bare_len]; exact h2, by rw [bare_len]; exact h1, fun s hs => ?_, fun w hw => absurd hw (by simp [bare]), by show (-1 : Int) ≤ -1 ∧ (-1 : Int) ≤ _; omega⟩
  obtain ⟨i, _, rfl⟩ := List.mem_map.1 hs
  exact blkOf_size _ _
theorem bare_reads (n : Nat) (S : ByteArray) : reads (bare n S) 0 n = (List.range n).map (blkOf S) := by
  unfold reads
  apply List.map_congr_left
  intro i hi
  rw [at_bare _ rfl, Nat.zero_add, bare_at n S i (List.mem_range.1 hi)]
set_option maxRecDepth 4000 in
theorem stream_blocks (n : Nat) (S : ByteArray) (h : S.size ≤ n * 255) : streamOf ((List.range n).map (blkOf S)) = S := by
  obtain ⟨ms, _, h2, h3, h4, h5, _⟩ := stream_good S S.size ((List.range n).map (blkOf S)) 0 (fun i hi => ⟨S.size, Nat.le_refl _, Nat.le_refl _, by
    have := Good.pre S (0 + i) S.size (Nat.le_refl _)
    rw [pre_all] at this
    simpa using this⟩) (by omega)
  have hl : ((List.range n).map (blkOf S)).length = n := by simp
  have : ms = S.size := by
    rw [hl] at h5 h3
    rcases h5 with h | h
    · omega
    · omega
  rw [h4, this, Nat.zero_mul, pre_all]
theorem scn_cat (all : List ByteArray) (hs : ∀ t ∈ all, t.size ≤ 65536) : scn (cat all) = (all, (cat all).size, 0) := by
  have he : ends all all.length = (cat all).size := by unfold ends; rw [List.take_length]
  have := scn_cut all (cat all).size all.length hs (Nat.le_refl _) (by rw [he]; exact Nat.le_refl _) (Nat.le_refl _) (fun h => absurd h (Nat.lt_irrefl _))
  rw [pre_all, List.take_length, he, if_pos rfl] at this
  exact this
theorem recount_self (S : ByteArray) (k : Nat) : recount (blkOf S k) S k = blkOf S k := by
  unfold recount
  have hb := blkOf_size S k
  rw [part_join (blkOf S k) 0 255 256 (by omega) (by omega) (by omega)]
  conv => lhs; rw [← hb]
  exact pre_all _
theorem made_same (o n : Nat) (a : Nat → ByteArray) (st : St) : made o (prs n a a) st = (0, st) := by
  have h : ∀ x ∈ prs n a a, x.1 = x.2 := prs_same (fun _ _ => rfl)
  have hw : ∀ (l : List (ByteArray × ByteArray)) (i : Nat), (∀ x ∈ l, x.1 = x.2) → wl o l i = [] := by
    intro l
    induction l with
    | nil => intro _ _; rfl
    | cons x l ih =>
      intro i hx
      have e : wl o (x :: l) i = if x.1 = x.2 then wl o l (i + 1) else (o + i, x.2) :: wl o l (i + 1) := rfl
      rw [e, if_pos (hx x (by simp)), ih (i + 1) (fun y hy => hx y (List.mem_cons_of_mem _ hy))]
  unfold made
  rw [puts_equal o _ 0 st h, if_neg (by simp), if_pos (hw _ 0 h)]
theorem mended_eq (o n : Nat) (a : Nat → ByteArray) (s : ByteArray) (st : St) : mended o n a s st = if (made o (prs n a (fun i => recount (a i) s i)) st).1 ≠ 0 then made o (prs n a (fun i => recount (a i) s i)) st else made o (prs n (fun i => recount (a i) s i) (blkOf s)) (made o (prs n a (fun i => recount (a i) s i)) st).2 := rfl
theorem walOpen_eq (st : St) (o n : Nat) : walOpen st o n = if st.left = 0 then ((50, noText, []), st) else if (scn (streamOf (reads st o n))).2.2 = 41 ∨ (scn (streamOf (reads st o n))).2.2 = 4 then ((60, noText, []), st)
    else if (mended o n (fun i => st.at (o + i)) (kept (reads st o n)) st).1 ≠ 0 then (((mended o n (fun i => st.at (o + i)) (kept (reads st o n)) st).1, noText, []), (mended o n (fun i => st.at (o + i)) (kept (reads st o n)) st).2)
    else ((0, kept (reads st o n), (scn (streamOf (reads st o n))).1), (mended o n (fun i => st.at (o + i)) (kept (reads st o n)) st).2) := by
  unfold walOpen
  rw [mended_eq]
  split
  · rfl
  · split
    · rfl
    · by_cases h1 : (made o (prs n (fun i => st.at (o + i)) (fun i => recount (st.at (o + i)) (kept (reads st o n)) i)) st).1 ≠ 0
      · rw [if_pos h1, if_pos h1, if_pos h1]
      · rw [if_neg h1, if_neg h1]
/-- A log that is whole is found as it is. -/
theorem open_bare (n : Nat) (all : List ByteArray) (hs : ∀ t ∈ all, t.size ≤ 65536) (hf : (cat all).size ≤ n * 255) : walOpen (bare n (cat all)) 0 n = ((0, cat all, all), bare n (cat all)) := by
  have hr := bare_reads n (cat all)
  have hst : streamOf (reads (bare n (cat all)) 0 n) = cat all := by rw [hr]; exact stream_blocks n _ hf
  have hk : kept (reads (bare n (cat all)) 0 n) = cat all := by
    unfold kept
    rw [hst, scn_cat all hs]
    exact pre_all _
  have hm : mended 0 n (fun i => (bare n (cat all)).at (0 + i)) (cat all) (bare n (cat all)) = (0, bare n (cat all)) := by
    have e : prs n (fun i => (bare n (cat all)).at (0 + i)) (fun i => recount ((bare n (cat all)).at (0 + i)) (cat all) i) = prs n (blkOf (cat all)) (blkOf (cat all)) := prs_congr (fun i hi => by rw [at_bare _ rfl, Nat.zero_add, bare_at n _ i hi]) (fun i hi => by rw [at_bare _ rfl, Nat.zero_add, bare_at n _ i hi, recount_self])
    have e2 : prs n (fun i => recount ((bare n (cat all)).at (0 + i)) (cat all) i) (blkOf (cat all)) = prs n (blkOf (cat all)) (blkOf (cat all)) := prs_congr (fun i hi => by rw [at_bare _ rfl, Nat.zero_add, bare_at n _ i hi, recount_self]) (fun _ _ => rfl)
    rw [mended_eq, e, made_same, if_neg (by simp), e2, made_same]
  rw [walOpen_eq, if_neg (by show ¬ ((-1 : Int) = 0); decide), hst, scn_cat all hs, if_neg (by simp), hk, hm, if_neg (by simp)]
/-- A stream becomes another one, and is synced. -/
theorem puts_bare (n : Nat) (S T : ByteArray) : puts 0 (prs n (blkOf S) (blkOf T)) 0 (bare n S) = (0, ⟨(bare n S).sure, wl 0 (prs n (blkOf S) (blkOf T)) 0, -1⟩) := by
  obtain ⟨W, c, p1, p2, p3, p4⟩ := puts_some 0 (prs n (blkOf S) (blkOf T)) 0 (bare n S) (by rw [prs_length, bare_len]; omega) (fun x hx => by
    unfold prs at hx
    obtain ⟨i, hi, rfl⟩ := List.mem_map.1 hx
    exact blkOf_size _ _)
  obtain ⟨p5, p6⟩ := p4 rfl
  have hW : W = wl 0 (prs n (blkOf S) (blkOf T)) 0 := by
    rcases p3 with h5 | h5
    · exact h5.2
    · rw [p5] at h5; cases h5
  rw [hW, p6] at p1
  exact Prod.ext p5 p1
theorem listn {n : Nat} {s : List ByteArray} (h : s.length = n) (f : Nat → ByteArray) (hf : ∀ k, k < n → s.getD k noText = f k) : s = (List.range n).map f := by
  apply List.ext_getElem (by simp [h])
  intro i h1 h2
  have := hf i (by omega)
  rw [List.getD_eq_getElem?_getD, List.getElem?_eq_getElem h1, Option.getD_some] at this
  rw [this]
  simp
theorem sync_bare (n : Nat) (S T : ByteArray) : (⟨(bare n S).sure, wl 0 (prs n (blkOf S) (blkOf T)) 0, -1⟩ : St).sync = (0, bare n T) := by
  have hl : laid (bare n S).sure (wl 0 (prs n (blkOf S) (blkOf T)) 0) = (List.range n).map (blkOf T) := by
    refine listn (by rw [laid_length, bare_len]) _ (fun k hk => ?_)
    have := laid_wl 0 (prs n (blkOf S) (blkOf T)) 0 (bare n S).sure (by rw [prs_length, bare_len]; omega) (fun j hj => by
      rw [prs_at]
      rw [prs_length] at hj
      simp only [Nat.zero_add]
      exact bare_at n S j hj) k (by rw [prs_length]; exact hk)
    rw [prs_at] at this
    simpa using this
  unfold St.sync
  rw [if_neg (by show ¬ ((-1 : Int) = 0); decide)]
  show (0, (⟨laid (bare n S).sure (wl 0 (prs n (blkOf S) (blkOf T)) 0), [], counted (-1)⟩ : St)) = _
  rw [hl]
  rfl
theorem crashed_nothing : ∀ (l : List (Nat × ByteArray)) (i : Nat) (s : List ByteArray), (∀ w ∈ l, w.1 < s.length ∧ w.2.size = 256) → crashed s [] i l = s
  | [], _, _, _ => rfl
  | w :: l, i, s, h => by
    have hw := h w (by simp)
    have ht : torn (s.getD w.1 noText) w.2 (([] : List Int).getD i 0) = s.getD w.1 noText := by
      show torn _ _ 0 = _
      unfold torn
      have e : (max (min (0 : Int) 256) 0).toNat = 0 := by decide
      rw [e, pre_all]
      apply ByteArray.ext
      rw [ByteArray.data_append, ByteArray.data_extract]
      simp
    have e : s.set w.1 (s.getD w.1 noText) = s := by
      rw [List.getD_eq_getElem?_getD, List.getElem?_eq_getElem hw.1, Option.getD_some]
      exact List.set_getElem_self hw.1
    have eu : crashed s [] i (w :: l) = crashed (s.set w.1 (torn (s.getD w.1 noText) w.2 (([] : List Int).getD i 0))) [] (i + 1) l := rfl
    rw [eu, ht, e]
    exact crashed_nothing l (i + 1) s (fun x hx => h x (List.mem_cons_of_mem _ hx))
theorem crash_bare (n : Nat) (S T : ByteArray) : (⟨(bare n S).sure, wl 0 (prs n (blkOf S) (blkOf T)) 0, -1⟩ : St).crash [] = bare n S := by
  show (⟨crashed (bare n S).sure [] 0 (wl 0 (prs n (blkOf S) (blkOf T)) 0), [], -1⟩ : St) = _
  rw [crashed_nothing _ 0 _ (fun w hw => by
    obtain ⟨j, hj, e⟩ := wl_mem 0 (prs n (blkOf S) (blkOf T)) 0 w hw
    rw [prs_at] at e
    rw [prs_length] at hj
    rw [e, bare_len]
    exact ⟨by simp; exact hj, blkOf_size _ _⟩)]
  rfl
theorem clear_four : walClear (St.new 4) 0 4 = (0, bare 4 (cat [])) := by
  have h : bare 4 (cat []) = ⟨List.replicate 4 zblock, [], -1⟩ := by
    show (⟨(List.range 4).map (blkOf noText), [], -1⟩ : St) = _
    rw [show blkOf noText = fun _ => zblock from funext blkOf_none]
    rfl
  rw [h]
  have hz : zblock.size = 256 := zblock_size
  unfold walClear zeros
  simp [zeros, St.new, St.write, St.sync, counted, hz, laid]
end Go.Proofs.Ytelkccfjeinlcaa
