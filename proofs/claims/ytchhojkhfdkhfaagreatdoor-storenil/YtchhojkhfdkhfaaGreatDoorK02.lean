/- Logs, plain: a log in blocks of a greater disk: what a crash leaves, Open, Append, Clear. Checkpoints, plain: in the first N blocks of a greater disk. Stores, plain: what the calls do, and what is found behind a crash. Objects that lie in several blocks: which blocks are theirs, and what a call on one leaves of all others. The document's own disk: what it is in memory; Down, there, counts, Fuse. -/
import Derived.Test.YtchhojkhfdkhfaaGreatDoorK01
import Derived.Test.YtchhojkhfdkhfaaGreatDoorProg
import Derived.WalkKit
import Derived.WalkSpells
import Derived.BigQuiet
import Derived.Deep.QuietTactic
import Derived.OwnWalk
import Derived.Test.YtchhojkhfdkhfaaGreatDoorK00
namespace Go.Proofs.YtchhojkhfdkhfaaGreatDoor
open Frm
theorem puts_ok8 (o N : Nat) (a b : Nat → ByteArray) : ∀ (l : List (ByteArray × ByteArray)) (i : Nat) (st : St), st.Ok → (puts o l i st).2.Ok
  | [], _, _, h => h
  | x :: l, i, st, h => by
    unfold puts
    split
    · exact puts_ok8 o N a b l _ _ h
    · split
      · exact puts_ok8 o N a b l _ _ (h.write _ _)
      · exact h.write _ _
theorem prs_full {N : Nat} {a b : Nat → ByteArray} (hb : ∀ k, k < N → (b k).size = 256) : ∀ x ∈ prs N a b, x.2.size = 256 := fun x hx => by
  unfold prs at hx
  obtain ⟨i, hi, rfl⟩ := List.mem_map.1 hx
  exact hb i (List.mem_range.1 hi)
/-- Blocks are made other ones, on a disk that does not stand still. -/
theorem made_all {o N : Nat} {a b : Nat → ByteArray} {S : List ByteArray} (hN : o + N ≤ S.length) (ha : ∀ k, k < N → S.getD (o + k) noText = a k) (hb : ∀ k, k < N → (b k).size = 256) :
    ∃ S', made o (prs N a b) ⟨S, [], -1⟩ = (0, ⟨S', [], -1⟩) ∧ S'.length = S.length ∧ (∀ k, k < N → S'.getD (o + k) noText = b k) ∧ ∀ j, (j < o ∨ o + N ≤ j) → S'.getD j noText = S.getD j noText := by
  obtain ⟨W, c, h1, h2, h3, h4⟩ := puts_some o (prs N a b) 0 ⟨S, [], -1⟩ (by rw [prs_length]; exact hN) (prs_full hb)
  obtain ⟨h5, h6⟩ := h4 rfl
  have hWe : W = wl o (prs N a b) 0 := by
    rcases h3 with h7 | h7
    · exact h7.2
    · rw [h5] at h7; cases h7
  have hlaid : ∀ k, k < N → (laid S (wl o (prs N a b) 0)).getD (o + k) noText = b k := fun k hk => by
    have := laid_wl o (prs N a b) 0 S (by rw [prs_length]; exact hN) (fun j hj => by
      rw [prs_at, Nat.add_zero]
      exact ha j (by rw [prs_length] at hj; exact hj)) k (by rw [prs_length]; exact hk)
    rw [prs_at] at this
    simpa using this
  have hout : ∀ j, (j < o ∨ o + N ≤ j) → (laid S (wl o (prs N a b) 0)).getD j noText = S.getD j noText := fun j hj => laid_other _ _ _ (fun w hw => by
    obtain ⟨i, hi, e⟩ := wl_mem o (prs N a b) 0 w hw
    rw [prs_length] at hi
    rw [e]
    show o + 0 + i ≠ j
    omega)
  unfold made
  rw [if_neg (fun h => h h5), h1]
  by_cases hn : wl o (prs N a b) 0 = []
  · rw [if_pos hn, hWe, hn, h6]
    rw [hn] at hlaid hout
    exact ⟨S, rfl, rfl, hlaid, hout⟩
  · rw [if_neg hn, h6]
    refine ⟨laid S (wl o (prs N a b) 0), ?_, laid_length _ _, hlaid, hout⟩
    unfold St.sync
    rw [if_neg (show ¬ (-1 : Int) = 0 by decide), hWe]
    rfl
/-- Writes: outside of the region, or growing versions of its blocks. -/
def Wr (o N : Nat) (S : ByteArray) : Nat → List (Nat × ByteArray) → Prop
  | _, [] => True
  | b, w :: W => ((w.1 < o ∨ o + N ≤ w.1) ∧ Wr o N S b W) ∨ ∃ k m, k < N ∧ w = (o + k, blkOf (S.extract 0 m) k) ∧ b ≤ m ∧ m ≤ S.size ∧ Wr o N S m W
/-- A crash among them. -/
theorem crash_wr {o N : Nat} (S : ByteArray) (m0 : Nat) (picks : List Int) : ∀ (W : List (Nat × ByteArray)) (i b : Nat) (s : List ByteArray), o + N ≤ s.length → Wr o N S b W → b ≤ S.size → (∀ k, k < N → ∃ m, m0 ≤ m ∧ m ≤ b ∧ Good S k m (s.getD (o + k) noText)) →
    ∀ k, k < N → Fine S m0 k ((crashed s picks i W).getD (o + k) noText)
  | [], _, b, s, _, _, hb, h, k, hk => by
    obtain ⟨m, h1, h2, h3⟩ := h k hk
    exact ⟨m, h1, by omega, h3⟩
  | w :: W, i, b, s, hs, hg, hb, h, k, hk => by
    unfold crashed
    rcases hg with ⟨hout, hg⟩ | ⟨q, m', hq, rfl, hbm, hmS, hg⟩
    · refine crash_wr S m0 picks W (i + 1) b _ (by rw [List.length_set]; exact hs) hg hb (fun j hj => ?_) k hk
      rw [getD_set_other _ _ _ _ (by omega)]
      exact h j hj
    · refine crash_wr S m0 picks W (i + 1) m' _ (by rw [List.length_set]; exact hs) hg hmS (fun j hj => ?_) k hk
      show ∃ m, m0 ≤ m ∧ m ≤ m' ∧ Good S j m ((s.set (o + q) (torn (s.getD (o + q) noText) (blkOf (S.extract 0 m') q) (picks.getD i 0))).getD (o + j) noText)
      by_cases e : q = j
      · subst e
        rw [getD_set_same _ _ _ (by omega)]
        obtain ⟨m, h1, h2, h3⟩ := h q hq
        rcases h3.torn (m' := m') (by omega) hmS (picks.getD i 0) with h4 | h4
        · exact ⟨m, h1, by omega, h4⟩
        · exact ⟨m', by omega, Nat.le_refl _, h4⟩
      · rw [getD_set_other _ _ _ _ (by omega)]
        obtain ⟨m, h1, h2, h3⟩ := h j hj
        exact ⟨m, h1, by omega, h3⟩
theorem Wr.longer {o N : Nat} {S T : ByteArray} : ∀ {b : Nat} {W : List (Nat × ByteArray)}, Wr o N S b W → Wr o N (S ++ T) b W
  | _, [], _ => trivial
  | b, w :: W, h => by
    rcases h with ⟨h1, h2⟩ | ⟨k, m, h1, rfl, h3, h4, h5⟩
    · exact Or.inl ⟨h1, h2.longer⟩
    · exact Or.inr ⟨k, m, h1, by rw [pre_append S T m h4], h3, by rw [ByteArray.size_append]; omega, h5.longer⟩
/-- More writes: of the newest version, or outside. -/
theorem Wr.more {o N : Nat} {S : ByteArray} : ∀ {b : Nat} {W V : List (Nat × ByteArray)}, Wr o N S b W → b ≤ S.size → (∀ w ∈ V, (w.1 < o ∨ o + N ≤ w.1) ∨ ∃ k, k < N ∧ w = (o + k, blkOf S k)) → Wr o N S b (W ++ V)
  | b, [], [], _, _, _ => trivial
  | b, [], w :: V, _, hb, hV => by
    rcases hV w (by simp) with h | ⟨k, hk, rfl⟩
    · exact Or.inl ⟨h, Wr.more (W := []) (V := V) trivial hb (fun v hv => hV v (List.mem_cons_of_mem _ hv))⟩
    · exact Or.inr ⟨k, S.size, hk, by rw [pre_all], hb, Nat.le_refl _, Wr.more (W := []) (V := V) trivial (Nat.le_refl _) (fun v hv => hV v (List.mem_cons_of_mem _ hv))⟩
  | b, w :: W, V, h, hb, hV => by
    rcases h with ⟨h1, h2⟩ | ⟨k, m, h1, h2, h3, h4, h5⟩
    · exact Or.inl ⟨h1, h2.more hb hV⟩
    · exact Or.inr ⟨k, m, h1, h2, h3, h4, h5.more h4 hV⟩
/-- A log of the records 'all' in N blocks from o on, whatever is loose; the first r0 of them are sure. -/
structure Hold (o N : Nat) (all : List ByteArray) (r0 : Nat) (st : St) : Prop where
  short : ∀ t ∈ all, t.size ≤ 65536
  fits : (cat all).size ≤ N * 255
  some : r0 ≤ all.length
  len : o + N ≤ st.sure.length
  sure : ∀ k, k < N → st.sure.getD (o + k) noText = blkOf (cat (all.take r0)) k
  wr : Wr o N (cat all) (ends all r0) st.loose
theorem Hold.crash {o N : Nat} {all : List ByteArray} {r0 : Nat} {st : St} (h : Hold o N all r0 st) (picks : List Int) : ∀ k, k < N → Fine (cat all) (ends all r0) k ((st.crash picks).sure.getD (o + k) noText) := fun k hk => by
  have hle := ends_le all r0
  show Fine (cat all) (ends all r0) k ((crashed st.sure picks 0 st.loose).getD (o + k) noText)
  refine crash_wr (cat all) (ends all r0) picks st.loose 0 (ends all r0) st.sure h.len h.wr hle (fun j hj => ⟨ends all r0, Nat.le_refl _, Nat.le_refl _, ?_⟩) k hk
  rw [h.sure j hj, ← cat_take]
  exact Good.pre _ _ _ hle
/-- .. and nothing is broken: what stands is the whole log, and all that is loose is its. -/
structure Well (o N : Nat) (all : List ByteArray) (r0 : Nat) (st : St) : Prop where
  hold : Hold o N all r0 st
  now : ∀ k, k < N → (laid st.sure st.loose).getD (o + k) noText = blkOf (cat all) k
  mine : ∀ w ∈ st.loose, o ≤ w.1 ∧ w.1 < o + N
theorem Well.sync {o N : Nat} {all : List ByteArray} {r0 : Nat} {st : St} (h : Well o N all r0 st) (h0 : st.sync.1 = 0) : Well o N all all.length st.sync.2 := by
  unfold St.sync at *
  split at h0
  · exact absurd h0 (show ¬ (50 : Nat) = 0 by decide)
  · rename_i hl
    rw [if_neg hl]
    refine ⟨⟨h.hold.short, h.hold.fits, Nat.le_refl _, by show o + N ≤ (laid _ _).length; rw [laid_length]; exact h.hold.len, fun k hk => ?_, trivial⟩, fun k hk => h.now k hk, fun w hw => absurd hw (by simp)⟩
    rw [List.take_length]
    exact h.now k hk
/-- What Append leaves. -/
theorem Well.append {o N : Nat} {all : List ByteArray} {r0 : Nat} {st : St} (h : Well o N all r0 st) (t : ByteArray) :
    (∃ c, (c = 4 ∨ c = 6) ∧ walAppend st o N (cat all) t = (c, cat all, st)) ∨
    (∃ st', walAppend st o N (cat all) t = (0, cat (all ++ [t]), st') ∧ Well o N (all ++ [t]) r0 st' ∧ st'.sure = st.sure) ∨
    (∃ st', walAppend st o N (cat all) t = (50, cat all, st') ∧ Hold o N (all ++ [t]) r0 st' ∧ st'.sure = st.sure ∧ ∀ w ∈ st'.loose, o ≤ w.1 ∧ w.1 < o + N) := by
  by_cases hl : 65536 < t.size
  · exact Or.inl ⟨4, Or.inl rfl, append_long st o N (cat all) t hl⟩
  by_cases hf : N * 255 < (cat all).size + (t.size + 8)
  · exact Or.inl ⟨6, Or.inr rfl, append_full st o N (cat all) t hl hf⟩
  right
  have hN := h.hold.len
  obtain ⟨W, c, p1, p2, p3, _⟩ := puts_some o (prs N (blkOf (cat all)) (blkOf (cat all ++ frm t))) 0 st (by rw [prs_length]; exact hN) (prs_full fun k _ => blkOf_size _ _)
  have hcs : (cat (all ++ [t])).size = (cat all).size + (t.size + 8) := by rw [cat_snoc, ByteArray.size_append, frm_size]
  have hWm : ∀ w ∈ W, ∃ k, k < N ∧ w = (o + k, blkOf (cat all ++ frm t) k) := fun w hw => by
    obtain ⟨j, hj, e⟩ := wl_mem o _ 0 w (p2.subset hw)
    rw [prs_at] at e
    exact ⟨j, by rw [prs_length] at hj; exact hj, by rw [e]; simp⟩
  have hmine : ∀ w ∈ st.loose ++ W, o ≤ w.1 ∧ w.1 < o + N := fun w hw => by
    rcases List.mem_append.1 hw with h1 | h1
    · exact h.mine w h1
    · obtain ⟨k, hk, rfl⟩ := hWm w h1
      exact ⟨by show o ≤ o + k; omega, by show o + k < _; omega⟩
  have hb := ends_le all r0
  have hold : ∀ c, Hold o N (all ++ [t]) r0 ⟨st.sure, st.loose ++ W, c⟩ := fun c => by
    refine ⟨fun x hx => ?_, by omega, by rw [List.length_append]; have := h.hold.some; omega, hN, fun k hk => ?_, ?_⟩
    · rcases List.mem_append.1 hx with hx | hx
      · exact h.hold.short x hx
      · rw [List.mem_singleton.1 hx]; omega
    · rw [List.take_append_of_le_length h.hold.some]
      exact h.hold.sure k hk
    · rw [ends_snoc _ _ _ h.hold.some, cat_snoc]
      exact (h.hold.wr.longer (T := frm t)).more (by rw [ByteArray.size_append]; omega) (fun w hw => Or.inr (hWm w hw))
  unfold walAppend
  rw [if_neg hl, if_neg hf]
  by_cases h0 : (puts o (prs N (blkOf (cat all)) (blkOf (cat all ++ frm t))) 0 st).1 = 0
  · left
    have hW : W = wl o (prs N (blkOf (cat all)) (blkOf (cat all ++ frm t))) 0 := by
      rcases p3 with h5 | h5
      · exact h5.2
      · rw [h0] at h5; cases h5
    refine ⟨⟨st.sure, st.loose ++ W, c⟩, by rw [if_neg (fun x => x h0), p1, cat_snoc], ⟨hold c, fun k hk => ?_, hmine⟩, rfl⟩
    show (laid st.sure (st.loose ++ W)).getD (o + k) noText = _
    rw [laid_append, hW]
    have := laid_wl o (prs N (blkOf (cat all)) (blkOf (cat all ++ frm t))) 0 (laid st.sure st.loose) (by rw [prs_length, laid_length]; exact hN) (fun j hj => by
      rw [prs_at, Nat.add_zero]
      exact h.now j (by rw [prs_length] at hj; exact hj)) k (by rw [prs_length]; exact hk)
    rw [prs_at] at this
    simp only [Nat.add_zero] at this
    rw [this, cat_snoc]
  · right
    have h50 : (puts o (prs N (blkOf (cat all)) (blkOf (cat all ++ frm t))) 0 st).1 = 50 := by
      rcases p3 with h5 | h5
      · exact absurd h5.1 h0
      · exact h5
    exact ⟨⟨st.sure, st.loose ++ W, c⟩, by rw [if_pos h0, p1, h50], hold c, rfl, hmine⟩
set_option maxRecDepth 10000 in
/-- What Open finds behind a crash, and what it leaves. -/
theorem open_at (o N : Nat) (all : List ByteArray) (hall : ∀ t ∈ all, t.size ≤ 65536) (hS : (cat all).size ≤ N * 255) (r0 : Nat) (hr0 : r0 ≤ all.length) (S : List ByteArray) (hlen : o + N ≤ S.length) (hfine : ∀ k, k < N → Fine (cat all) (ends all r0) k (S.getD (o + k) noText)) :
    ∃ r S', r0 ≤ r ∧ r ≤ all.length ∧ walOpen ⟨S, [], -1⟩ o N = ((0, cat (all.take r), all.take r), ⟨S', [], -1⟩) ∧ S'.length = S.length ∧ (∀ k, k < N → S'.getD (o + k) noText = blkOf (cat (all.take r)) k) ∧ ∀ j, (j < o ∨ o + N ≤ j) → S'.getD j noText = S.getD j noText := by
  have hat : ∀ i, (⟨S, [], -1⟩ : St).at (o + i) = S.getD (o + i) noText := fun i => at_bare _ rfl _
  have hrl : (reads ⟨S, [], -1⟩ o N).length = N := by unfold reads; simp
  have hri : ∀ i (hi : i < (reads ⟨S, [], -1⟩ o N).length), (reads ⟨S, [], -1⟩ o N)[i] = S.getD (o + i) noText := fun i hi => by
    simp only [reads, List.getElem_map, List.getElem_range]
    exact hat i
  have hm0 := ends_le all r0
  obtain ⟨ms, g1, g2, g3, g4, g5, g6⟩ := stream_good (cat all) (ends all r0) (reads ⟨S, [], -1⟩ o N) 0 (fun i hi => by
    rw [hri i hi, Nat.zero_add]
    exact hfine i (by omega)) (by omega)
  rw [hrl] at g3 g5
  rw [Nat.zero_mul] at g4
  rw [Nat.zero_add] at g3 g5
  have hms : ends all r0 ≤ ms := by rcases g5 with h | h <;> omega
  obtain ⟨r, q1, q2, q3⟩ := find_end all ms g2
  have hrr : r0 ≤ r := by
    rcases Nat.lt_or_ge r r0 with h | h
    · have h1 := q3 (by omega)
      have h2 := ends_up all (r0 - (r + 1)) (r + 1) (by omega)
      rw [show r + 1 + (r0 - (r + 1)) = r0 from by omega] at h2
      omega
    · exact h
  have hsc := scn_cut all ms r hall q1 q2 g2 q3
  have hgl := ends_le all r
  have hk : kept (reads ⟨S, [], -1⟩ o N) = (cat all).extract 0 (ends all r) := by
    unfold kept
    rw [g4, hsc]
    show ((cat all).extract 0 ms).extract 0 (ends all r) = _
    exact bytes_ext (by rw [part_size _ _ _ (by rw [part_size _ _ _ g2]; omega), part_size _ _ _ hgl]) (fun j hj => by
      rw [part_size _ _ _ (by rw [part_size _ _ _ g2]; omega)] at hj
      rw [byteAt_part _ 0 _ j (by rw [part_size _ _ _ g2]; omega) (by omega), byteAt_part _ 0 _ (0 + j) g2 (by omega), byteAt_part _ 0 _ j hgl (by omega), Nat.zero_add])
  have hcnt : ∀ k, k < N → ∀ m, Good (cat all) k m (S.getD (o + k) noText) → cnt k (ends all r) ≤ cnt k m := fun k hk8 m hgm => by
    have h1 := g6 k (by omega)
    rw [hri k (by omega), Nat.zero_add, hgm.count] at h1
    have h2 : cnt k (ends all r) ≤ cnt k ms := by unfold cnt; omega
    omega
  have hsz : ∀ k, k < N → (S.getD (o + k) noText).size = 256 := fun k hk8 => by
    obtain ⟨m, _, _, hgm⟩ := hfine k hk8
    exact hgm.size
  obtain ⟨S1, m1, l1, a1, b1⟩ := made_all (o := o) (N := N) (a := fun i => S.getD (o + i) noText) (b := fun i => recount (S.getD (o + i) noText) ((cat all).extract 0 (ends all r)) i) hlen (fun k _ => rfl) (fun k hk8 => recount_size (hsz k hk8))
  obtain ⟨S2, m2, l2, a2, b2⟩ := made_all (S := S1) (o := o) (N := N) (a := fun i => recount (S.getD (o + i) noText) ((cat all).extract 0 (ends all r)) i) (b := fun i => blkOf ((cat all).extract 0 (ends all r)) i) (by omega) a1 (fun k _ => blkOf_size _ _)
  refine ⟨r, S2, hrr, q1, ?_, by omega, fun k hk8 => ?_, fun j hj => (b2 j hj).trans (b1 j hj)⟩
  · unfold walOpen
    rw [if_neg (show ¬ (-1 : Int) = 0 by decide), g4, hsc]
    rw [if_neg (by show ¬ ((if ends all r = ms then 0 else 40) = 41 ∨ (if ends all r = ms then 0 else 40) = 4); split <;> omega)]
    rw [hk]
    simp only [hat]
    rw [m1, if_neg (fun h => h rfl), m2, if_neg (fun h => h rfl), cat_take]
  · rw [a2 k hk8, cat_take]
/-- What Clear writes. -/
def zw (o n : Nat) : List (Nat × ByteArray) := (List.range' o n).map fun k => (k, zblock)
theorem zw_mem {o n : Nat} {w : Nat × ByteArray} (h : w ∈ zw o n) : o ≤ w.1 ∧ w.1 < o + n ∧ w.2 = zblock := by
  unfold zw at h
  obtain ⟨k, hk, rfl⟩ := List.mem_map.1 h
  rw [List.mem_range'_1] at hk
  exact ⟨hk.1, hk.2, rfl⟩
theorem zeros_cases : ∀ (n o : Nat) (st : St), o + n ≤ st.sure.length → ∃ W c, (zeros n o st).2 = ⟨st.sure, st.loose ++ W, c⟩ ∧ (((zeros n o st).1 = 0 ∧ W = zw o n) ∨ ((zeros n o st).1 = 50 ∧ ∀ w ∈ W, o ≤ w.1 ∧ w.1 < o + n ∧ w.2 = zblock))
  | 0, o, st, _ => ⟨[], st.left, by unfold zeros; simp, Or.inl ⟨rfl, rfl⟩⟩
  | n + 1, o, st, hl => by
    unfold zeros
    have hw := write_in st o zblock (by omega) zblock_size
    by_cases h0 : st.left = 0
    · rw [if_pos h0] at hw
      rw [hw]
      exact ⟨[], st.left, by simp, Or.inr ⟨by simp, fun w h => absurd h (by simp)⟩⟩
    · rw [if_neg h0] at hw
      rw [hw]
      simp only [if_true]
      obtain ⟨W, c, h1, h2⟩ := zeros_cases n (o + 1) ⟨st.sure, st.loose ++ [(o, zblock)], counted st.left⟩ (by show _ ≤ st.sure.length; omega)
      refine ⟨(o, zblock) :: W, c, by rw [h1]; simp, ?_⟩
      rcases h2 with ⟨h3, h4⟩ | ⟨h3, h4⟩
      · left
        refine ⟨h3, ?_⟩
        unfold zw
        rw [List.range'_succ, List.map_cons, h4]
        rfl
      · right
        refine ⟨h3, fun w hw' => ?_⟩
        rcases List.mem_cons.1 hw' with rfl | hw'
        · exact ⟨Nat.le_refl _, by show o < _; omega, rfl⟩
        · have := h4 w hw'
          exact ⟨by omega, by omega, this.2.2⟩
theorem laid_zw : ∀ (n o : Nat) (S : List ByteArray), o + n ≤ S.length → ∀ k, k < n → (laid S (zw o n)).getD (o + k) noText = zblock
  | 0, _, _, _, k, hk => absurd hk (by omega)
  | n + 1, o, S, hl, k, hk => by
    have e : zw o (n + 1) = (o, zblock) :: zw (o + 1) n := by unfold zw; rw [List.range'_succ, List.map_cons]
    rw [e]
    show (laid (S.set o zblock) (zw (o + 1) n)).getD (o + k) noText = _
    cases k with
    | zero => rw [laid_other _ _ _ (fun w hw => by have := zw_mem hw; omega), Nat.add_zero, getD_set_same _ _ _ (by omega)]
    | succ k =>
      rw [show o + (k + 1) = o + 1 + k from by omega]
      exact laid_zw n (o + 1) _ (by rw [List.length_set]; omega) k (by omega)
/-- Clear: it stands still with some of its writes loose, or all is sure. -/
theorem clear_cases (o n : Nat) (st : St) (hl : o + n ≤ st.sure.length) :
    (∃ W c, walClear st o n = (50, ⟨st.sure, st.loose ++ W, c⟩) ∧ ∀ w ∈ W, o ≤ w.1 ∧ w.1 < o + n ∧ w.2 = zblock) ∨
    (∃ c, walClear st o n = (0, ⟨laid (laid st.sure st.loose) (zw o n), [], c⟩)) := by
  obtain ⟨W, c, h1, h2⟩ := zeros_cases n o st hl
  unfold walClear
  rcases h2 with ⟨h3, h4⟩ | ⟨h3, h4⟩
  · rw [if_neg (fun h => h h3), h1]
    unfold St.sync
    by_cases hc : c = 0
    · rw [if_pos hc]
      exact Or.inl ⟨W, c, rfl, fun w hw => by rw [h4] at hw; exact zw_mem hw⟩
    · rw [if_neg hc]
      refine Or.inr ⟨counted c, ?_⟩
      show (0, (⟨laid st.sure (st.loose ++ W), [], counted c⟩ : St)) = _
      rw [laid_append, h4]
  · rw [if_pos (by rw [h3]; decide)]
    exact Or.inl ⟨W, c, by rw [← h3, ← h1], h4⟩
theorem cat_none : cat [] = noText := rfl
theorem zeros_good (k : Nat) : blkOf (cat []) k = zblock := by rw [cat_none]; exact blkOf_none k
/-- Open of blocks that are bytes 0. -/
theorem open_zero (o N : Nat) (S : List ByteArray) (c : Int) (hc : c ≠ 0) (hz : ∀ k, k < N → S.getD (o + k) noText = zblock) : walOpen ⟨S, [], c⟩ o N = ((0, noText, []), ⟨S, [], c⟩) := by
  have hat : ∀ i, (⟨S, [], c⟩ : St).at (o + i) = S.getD (o + i) noText := fun i => at_bare _ rfl _
  have hS : streamOf (reads ⟨S, [], c⟩ o N) = noText := by
    have hcz : countOf zblock = 0 := by
      have := countOf_blk noText 0
      rw [blkOf_none] at this
      exact this
    have key : ∀ (l : List ByteArray), (∀ x ∈ l, x = zblock) → streamOf l = noText := fun l hl => by
      cases l with
      | nil => rfl
      | cons b l =>
        have hb := hl b (by simp)
        subst hb
        unfold streamOf
        rw [hcz, if_pos (by decide)]
        exact bytes_ext (by rw [part_size _ _ _ (Nat.zero_le _)]; rfl) (fun j hj => absurd hj (by rw [part_size _ _ _ (Nat.zero_le _)]; omega))
    refine key _ (fun x hx => ?_)
    unfold reads at hx
    obtain ⟨i, hi, rfl⟩ := List.mem_map.1 hx
    rw [hat, hz i (List.mem_range.1 hi)]
  have hsn : scn noText = ([], 0, 0) := scn_nil noText rfl
  have hk : kept (reads ⟨S, [], c⟩ o N) = noText := by
    unfold kept
    rw [hS, hsn]
    exact bytes_ext (by rw [part_size _ _ _ (Nat.zero_le _)]; rfl) (fun j hj => absurd hj (by rw [part_size _ _ _ (Nat.zero_le _)]; omega))
  have hrc : ∀ i, recount zblock noText i = zblock := fun i => by
    refine bytes_ext (by rw [recount_size zblock_size, zblock_size]) (fun j hj => ?_)
    rw [recount_size zblock_size] at hj
    by_cases e : j < 255
    · exact recount_at zblock_size e
    · rw [show j = 255 from by omega, recount_last zblock_size, blkOf_none]
  have hwl : ∀ (a b : Nat → ByteArray), (∀ k, k < N → a k = b k) → made o (prs N a b) ⟨S, [], c⟩ = (0, ⟨S, [], c⟩) := fun a b h => by
    have hall : ∀ x ∈ prs N a b, x.1 = x.2 := fun x hx => by
      unfold prs at hx
      obtain ⟨i, hi, rfl⟩ := List.mem_map.1 hx
      exact h i (List.mem_range.1 hi)
    have key : ∀ (l : List (ByteArray × ByteArray)) (i : Nat), (∀ x ∈ l, x.1 = x.2) → wl o l i = [] ∧ puts o l i ⟨S, [], c⟩ = (0, ⟨S, [], c⟩) := by
      intro l
      induction l with
      | nil => intro i _; exact ⟨rfl, rfl⟩
      | cons x l ih =>
        intro i hx
        unfold wl puts
        rw [if_pos (hx x (by simp)), if_pos (hx x (by simp))]
        exact ih (i + 1) (fun y hy => hx y (List.mem_cons_of_mem _ hy))
    obtain ⟨k1, k2⟩ := key _ 0 hall
    unfold made
    rw [k2, if_neg (fun h => h rfl), if_pos k1]
  have h1 := hwl (fun i => (⟨S, [], c⟩ : St).at (o + i)) (fun i => recount ((⟨S, [], c⟩ : St).at (o + i)) noText i) (fun k hk' => by
    show (⟨S, [], c⟩ : St).at (o + k) = recount ((⟨S, [], c⟩ : St).at (o + k)) noText k
    rw [hat, hz k hk', hrc])
  have h2 := hwl (fun i => recount ((⟨S, [], c⟩ : St).at (o + i)) noText i) (fun i => blkOf noText i) (fun k hk' => by
    show recount ((⟨S, [], c⟩ : St).at (o + k)) noText k = blkOf noText k
    rw [hat, hz k hk', hrc, blkOf_none])
  unfold walOpen
  rw [if_neg hc, hS, hsn, if_neg (by simp), hk, h1, if_neg (fun h => h rfl), h2, if_neg (fun h => h rfl)]
end Go.Proofs.YtchhojkhfdkhfaaGreatDoor
namespace Go.Proofs.YtchhojkhfdkhfaaGreatDoor
open Frm
/-- The first N of a disk's blocks have a checkpoint whole, and nothing greater. -/
structure KeepS (N : Nat) (S : List ByteArray) (g : Nat) (t : ByteArray) : Prop where
  full : ∀ x ∈ S, x.size = 256
  len : N ≤ S.length
  fit : t.size ≤ (N / 2 - 1) * 256
  head : S.getD (slN N g) noText = headT g t
  body : ∀ i, i < nb t.size → S.getD (slN N g + 1 + i) noText = blkT t i
  oth : Oth (S.getD (slN N (g + 1)) noText) g
/-- The same blocks there: the same checkpoint. -/
theorem KeepS.same {N : Nat} {S S' : List ByteArray} {g : Nat} {t : ByteArray} (h : KeepS N S g t) (h4 : 4 ≤ N) (hf : ∀ x ∈ S', x.size = 256) (hl : S'.length = S.length) (hs : ∀ j, j < N → S'.getD j noText = S.getD j noText) : KeepS N S' g t := by
  have hnb := nb_fit h.fit h4
  have hsl := slN_le N g
  have hsl2 := slN_le N (g + 1)
  refine ⟨hf, by rw [hl]; exact h.len, h.fit, ?_, fun i hi => ?_, ?_⟩
  · rw [hs _ (by omega)]; exact h.head
  · rw [hs _ (by omega)]; exact h.body i hi
  · rw [hs _ (by omega)]; exact h.oth
/-- What is loaded then. -/
theorem KeepS.load {N : Nat} {S : List ByteArray} {g : Nat} {t : ByteArray} (h : KeepS N S g t) (c : Int) (hc : c ≠ 0) (h4 : 4 ≤ N) (hN : N ≤ 4096) (he : N % 2 = 0) (hg : 1 ≤ g ∧ g ≤ 4611686018427387904) : (⟨S, [], c⟩ : St).load 0 (N : Int) = ((g, t), 0) := by
  have hr : room (N : Int) ≠ 0 := by unfold room; rw [if_neg (by omega)]; omega
  have hm : (⟨S, [], c⟩ : St).mayC 0 (N : Int) := ⟨hr, by omega, by show (0 : Int) ≤ (S.length : Int) - N; have := h.len; omega⟩
  have hlen : ∀ k, (blocksAt ⟨S, [], c⟩ k (N / 2)).length = N / 2 := fun k => by unfold blocksAt; simp
  have hfull : ∀ k, k + N / 2 ≤ N → ∀ x ∈ blocksAt ⟨S, [], c⟩ k (N / 2), x.size = 256 := fun k hk x hx => by
    unfold blocksAt at hx
    obtain ⟨i, hi, rfl⟩ := List.mem_map.1 hx
    rw [List.mem_range] at hi
    exact getD_size h.full _ (by have := h.len; omega)
  have hs : ∀ k, slotAt 0 (N : Int) k = slN N k := fun k => by unfold slotAt slN; simp
  have hnb := nb_fit h.fit h4
  have hsl := slN_le N g
  have hsl2 := slN_le N (g + 1)
  have W1 : wholeT (blocksAt ⟨S, [], c⟩ (slN N g) (N / 2)) (g % 2) = (g, t) := by
    refine whole_yes _ _ g t (hfull _ (by omega)) hg rfl (by rw [hlen]; exact h.fit) (by rw [hlen]; omega) ?_ (fun i hi => ?_)
    · rw [blocks_getD _ _ _ 0 (by omega) rfl]; exact h.head
    · rw [blocks_getD _ _ _ (1 + i) (by omega) rfl, ← Nat.add_assoc]; exact h.body i hi
  have W2 : (wholeT (blocksAt ⟨S, [], c⟩ (slN N (g + 1)) (N / 2)) ((g + 1) % 2)).1 < g := by
    refine whole_less _ _ g hg.1 ?_
    rw [blocks_getD _ _ _ 0 (by omega) rfl]
    exact h.oth
  unfold St.load
  rw [if_neg (fun hh => hh hm), if_neg hc]
  simp only [hs, Int.toNat_natCast]
  rcases (by omega : g % 2 = 0 ∨ g % 2 = 1) with hp | hp
  · have e0 : slN N 0 = slN N g := by unfold slN; rw [hp]
    have e1 : slN N 1 = slN N (g + 1) := by unfold slN; rw [show (g + 1) % 2 = 1 from by omega]
    rw [hp] at W1
    rw [show (g + 1) % 2 = 1 from by omega] at W2
    rw [e0, e1, W1, if_neg (by simp; omega), if_pos (by exact W2)]
  · have e0 : slN N 1 = slN N g := by unfold slN; rw [hp]
    have e1 : slN N 0 = slN N (g + 1) := by unfold slN; rw [show (g + 1) % 2 = 0 from by omega]
    rw [hp] at W1
    rw [show (g + 1) % 2 = 0 from by omega] at W2
    rw [e0, e1, W1, if_neg (by simp; omega), if_neg (by show ¬ g < _; omega)]
set_option maxRecDepth 20000 in
/-- A Save of the next number: whatever it leaves, a crash leaves the one or the other; behind N nothing is turned. -/
theorem KeepS.step {N : Nat} {S : List ByteArray} {g : Nat} {t : ByteArray} (h : KeepS N S g t) (h4 : 4 ≤ N) (l0 : Int) (hl0 : -1 ≤ l0) (t' : ByteArray) (ht' : t'.size ≤ (N / 2 - 1) * 256) :
    ∃ X : Nat × St, saveAt (slN N (g + 1)) (g + 1) t' ⟨S, [], l0⟩ = X ∧ X.2.sure.length = S.length ∧
      (∀ picks j, N ≤ j → (X.2.crash picks).sure.getD j noText = S.getD j noText) ∧
      ((X.1 = 50 ∧ ∀ picks, KeepS N (X.2.crash picks).sure g t ∨ KeepS N (X.2.crash picks).sure (g + 1) t') ∨
       (X.1 = 0 ∧ X.2.loose = [] ∧ KeepS N X.2.sure (g + 1) t')) := by
  have hnb := nb_fit ht' h4
  have hnbo := nb_fit h.fit h4
  have hsl := slN_le N (g + 1)
  have hslo := slN_le N g
  have hapart : ∀ i, i < N / 2 → ∀ j, j < N / 2 → slN N (g + 1) + i ≠ slN N g + j := fun i hi j hj => by
    unfold slN
    rcases (by omega : g % 2 = 0 ∨ g % 2 = 1) with hp | hp
    · rw [hp, show (g + 1) % 2 = 1 from by omega]; omega
    · rw [hp, show (g + 1) % 2 = 0 from by omega]; omega
  have hslg : slN N (g + 1 + 1) = slN N g := by unfold slN; rw [show (g + 1 + 1) % 2 = g % 2 from by omega]
  have hlenS := h.len
  have hH256 : (S.getD (slN N (g + 1)) noText).size = 256 := getD_size h.full _ (by omega)
  have old : ∀ S' : List ByteArray, (∀ x ∈ S', x.size = 256) → S'.length = S.length → (∀ j, j < N / 2 → S'.getD (slN N g + j) noText = S.getD (slN N g + j) noText) → Oth (S'.getD (slN N (g + 1)) noText) g → KeepS N S' g t := fun S' hf hl hs ho =>
    ⟨hf, by rw [hl]; exact hlenS, h.fit, by have := hs 0 (by omega); rw [Nat.add_zero] at this; exact this.trans h.head, fun i hi => by
      have := hs (1 + i) (by omega)
      rw [← Nat.add_assoc] at this
      exact this.trans (h.body i hi), ho⟩
  have new : ∀ S' : List ByteArray, (∀ x ∈ S', x.size = 256) → S'.length = S.length → S'.getD (slN N (g + 1)) noText = headT (g + 1) t' → (∀ i, i < nb t'.size → S'.getD (slN N (g + 1) + 1 + i) noText = blkT t' i) → S'.getD (slN N g) noText = S.getD (slN N g) noText → KeepS N S' (g + 1) t' := fun S' hf hl hh hb ho =>
    ⟨hf, by rw [hl]; exact hlenS, ht', hh, hb, by
      rw [hslg, ho, h.head]
      right
      rw [list_take8, numL_low]
      exact Nat.lt_of_le_of_lt (Nat.mod_le _ _) (Nat.lt_succ_self g)⟩
  have crash1 : ∀ (S : List ByteArray) (b : Nat) (d : ByteArray) (l2 : Int) (picks : List Int), (⟨S, [(b, d)], l2⟩ : St).crash picks = ⟨S.set b (torn (S.getD b noText) d (picks.getD 0 0)), [], -1⟩ := fun S b d l2 picks => rfl
  have crash0 : ∀ (S : List ByteArray) (l2 : Int) (picks : List Int), (⟨S, [], l2⟩ : St).crash picks = ⟨S, [], -1⟩ := fun S l2 picks => rfl
  have hS1 : ∀ x ∈ S.set (slN N (g + 1)) zblock, x.size = 256 := full_set h.full _ _ zblock_size
  have hS2 : ∀ x ∈ laid (S.set (slN N (g + 1)) zblock) (tws (slN N (g + 1) + 1) t' 0 (nb t'.size)), x.size = 256 := laid_full _ _ hS1 (fun w hw => (tws_mem hw).2.2)
  have hl2 : (laid (S.set (slN N (g + 1)) zblock) (tws (slN N (g + 1) + 1) t' 0 (nb t'.size))).length = S.length := by rw [laid_length, List.length_set]
  have hS2n : ∀ j, (∀ i, i < N / 2 → slN N (g + 1) + i ≠ j) → (laid (S.set (slN N (g + 1)) zblock) (tws (slN N (g + 1) + 1) t' 0 (nb t'.size))).getD j noText = S.getD j noText := fun j hj => by
    rw [laid_other7 _ _ _ (fun w hw => by
      have := tws_mem hw
      have := hj (w.1 - slN N (g + 1)) (by omega)
      omega), getD_set_other _ _ _ _ (by have := hj 0 (by omega); omega)]
  have hS2o : ∀ j, j < N / 2 → (laid (S.set (slN N (g + 1)) zblock) (tws (slN N (g + 1) + 1) t' 0 (nb t'.size))).getD (slN N g + j) noText = S.getD (slN N g + j) noText := fun j hj => hS2n _ (fun i hi => hapart i hi j hj)
  have hS2h : (laid (S.set (slN N (g + 1)) zblock) (tws (slN N (g + 1) + 1) t' 0 (nb t'.size))).getD (slN N (g + 1)) noText = zblock := by
    rw [laid_other7 _ _ _ (fun w hw => by have := tws_mem hw; omega), getD_set_same _ _ _ (by omega)]
  have far : ∀ j, N ≤ j → ∀ i, i < N / 2 → slN N (g + 1) + i ≠ j := fun j hj i hi => by omega
  refine ⟨_, rfl, ?_⟩
  rcases save_cases (slN N (g + 1)) (g + 1) t' S l0 (by omega) hl0 with ⟨l2, e, b1, b2⟩ | ⟨l2, e, b1, b2⟩ | ⟨j, l2, hj, e, b1, b2⟩ | ⟨l2, e, b1, b2⟩ | ⟨l2, e, b1⟩ | ⟨l2, e, b1⟩
  · rw [e]
    refine ⟨rfl, fun picks j _ => rfl, Or.inl ⟨rfl, fun picks => Or.inl ?_⟩⟩
    exact old _ h.full rfl (fun j _ => rfl) h.oth
  · rw [e]
    refine ⟨rfl, fun picks j hj => ?_, Or.inl ⟨rfl, fun picks => Or.inl ?_⟩⟩
    · dsimp only
      rw [crash1]
      exact getD_set_other _ _ _ _ (by have := far j hj 0 (by omega); omega)
    · dsimp only
      rw [crash1]
      refine old _ (full_set h.full _ _ (torn_size _ _ _ hH256 zblock_size)) (by rw [List.length_set]) (fun j hj => getD_set_other _ _ _ _ (by have := hapart 0 (by omega) j hj; omega)) ?_
      rw [getD_set_same _ _ _ (by omega)]
      exact h.oth.torn hH256 _
  · rw [e]
    refine ⟨by show (List.set _ _ _).length = _; rw [List.length_set], fun picks j' hj' => ?_, Or.inl ⟨rfl, fun picks => Or.inl ?_⟩⟩
    · show (crashed (S.set (slN N (g + 1)) zblock) picks 0 (tws (slN N (g + 1) + 1) t' 0 j)).getD j' noText = _
      rw [crashed_other7 _ _ _ _ _ (fun w hw => by
        have := tws_mem hw
        have := far j' hj' (w.1 - slN N (g + 1)) (by omega)
        omega), getD_set_other _ _ _ _ (by have := far j' hj' 0 (by omega); omega)]
    · show KeepS N (crashed (S.set (slN N (g + 1)) zblock) picks 0 (tws (slN N (g + 1) + 1) t' 0 j)) g t
      refine old _ (crashed_full picks _ 0 _ hS1 (fun w hw => by have := tws_mem hw; rw [List.length_set]; exact ⟨by omega, this.2.2⟩)) (by rw [crashed_length, List.length_set]) (fun j' hj' => ?_) ?_
      · rw [crashed_other7 _ _ _ _ _ (fun w hw => by
          have := tws_mem hw
          have := hapart (w.1 - slN N (g + 1)) (by omega) j' hj'
          omega), getD_set_other _ _ _ _ (by have := hapart 0 (by omega) j' hj'; omega)]
      · rw [crashed_other7 _ _ _ _ _ (fun w hw => by have := tws_mem hw; omega), getD_set_same _ _ _ (by omega)]
        exact Oth.zero
  · rw [e]
    refine ⟨hl2, fun picks j hj => ?_, Or.inl ⟨rfl, fun picks => Or.inl ?_⟩⟩
    · dsimp only
      rw [crash0]
      exact hS2n j (far j hj)
    · dsimp only
      rw [crash0]
      exact old _ hS2 hl2 hS2o (by rw [hS2h]; exact Oth.zero)
  · rw [e]
    refine ⟨hl2, fun picks j hj => ?_, Or.inl ⟨rfl, fun picks => ?_⟩⟩
    · dsimp only
      rw [crash1]
      show (List.set _ _ _).getD j noText = _
      rw [getD_set_other _ _ _ _ (by have := far j hj 0 (by omega); omega)]
      exact hS2n j (far j hj)
    · dsimp only
      rw [crash1, hS2h]
      rcases head_torn (g + 1) t' (picks.getD 0 0) with hw | hw
      · right
        rw [hw]
        refine new _ (full_set hS2 _ _ (headT_size _ _)) (by rw [List.length_set, hl2]) (getD_set_same _ _ _ (by omega)) (fun i hi => ?_) ?_
        · rw [getD_set_other _ _ _ _ (by omega)]
          exact laid_tws _ t' (nb t'.size) 0 _ (by rw [List.length_set]; omega) i (by omega) (by omega)
        · have := hapart 0 (by omega) 0 (by omega)
          rw [getD_set_other _ _ _ _ (by omega)]
          exact hS2o 0 (by omega)
      · left
        refine old _ (full_set hS2 _ _ (torn_size _ _ _ zblock_size (headT_size _ _))) (by rw [List.length_set, hl2]) (fun j hj => ?_) ?_
        · rw [getD_set_other _ _ _ _ (by have := hapart 0 (by omega) j hj; omega)]
          exact hS2o j hj
        · rw [getD_set_same _ _ _ (by omega)]
          exact hw g
  · rw [e]
    refine ⟨by show (List.set _ _ _).length = _; rw [List.length_set, hl2], fun picks j hj => ?_, Or.inr ⟨rfl, rfl, ?_⟩⟩
    · dsimp only
      rw [crash0]
      show (List.set _ _ _).getD j noText = _
      rw [getD_set_other _ _ _ _ (by have := far j hj 0 (by omega); omega)]
      exact hS2n j (far j hj)
    · refine new _ (full_set hS2 _ _ (headT_size _ _)) (by rw [List.length_set, hl2]) (getD_set_same _ _ _ (by omega)) (fun i hi => ?_) ?_
      · rw [getD_set_other _ _ _ _ (by omega)]
        exact laid_tws _ t' (nb t'.size) 0 _ (by rw [List.length_set]; omega) i (by omega) (by omega)
      · have := hapart 0 (by omega) 0 (by omega)
        rw [getD_set_other _ _ _ _ (by omega)]
        exact hS2o 0 (by omega)
end Go.Proofs.YtchhojkhfdkhfaaGreatDoor
namespace Go.Proofs.YtchhojkhfdkhfaaGreatDoor
open Frm
/-- How many blocks a conf has. -/
def blocksC (ck lg : Int) : Int := if ck < 2 ∨ 256 < ck ∨ lg < 1 ∨ 1024 < lg then 0 else if 4096 < 2 * ck + 2 * lg then 0 else 2 * ck + 2 * lg
abbrev St.mayS (st : St) (ck lg : Int) : Prop := blocksC ck lg ≠ 0 ∧ blocksC ck lg ≤ (st.sure.length : Int)
/-- The first block of a number's log. -/
def lo (ck lg g : Nat) : Nat := 2 * ck + g % 2 * lg
/-- A store: its number, its log's stream, whether it is broken. -/
structure Sto where
  gen : Nat
  str : ByteArray
  broken : Bool
def Sto.told (s : Sto) (e : Nat) : Sto := ⟨s.gen, s.str, s.broken || e == 50⟩
def stoMake (st : St) (ck lg : Int) : Nat × St :=
  if ¬ st.mayS ck lg then (2, st)
  else if (st.load 0 (2 * ck)).2 = 0 then (7, st)
  else if (st.load 0 (2 * ck)).2 ≠ 5 then ((st.load 0 (2 * ck)).2, st)
  else andT (walClear st (lo ck.toNat lg.toNat 1) lg.toNat) (fun s => s.save 0 (2 * ck) 1 noText)
/-- Open: the error, the number, the checkpoint, the stream, the records; and the disk. -/
def stoOpen (st : St) (ck lg : Int) : (Nat × Nat × ByteArray × ByteArray × List ByteArray) × St :=
  if ¬ st.mayS ck lg then ((2, 0, noText, noText, []), st)
  else if (st.load 0 (2 * ck)).2 ≠ 0 then (((st.load 0 (2 * ck)).2, 0, noText, noText, []), st)
  else if (walOpen st (lo ck.toNat lg.toNat (st.load 0 (2 * ck)).1.1) lg.toNat).1.1 ≠ 0 then
    (((walOpen st (lo ck.toNat lg.toNat (st.load 0 (2 * ck)).1.1) lg.toNat).1.1, 0, noText, noText, []), (walOpen st (lo ck.toNat lg.toNat (st.load 0 (2 * ck)).1.1) lg.toNat).2)
  else ((0, (st.load 0 (2 * ck)).1.1, (st.load 0 (2 * ck)).1.2, (walOpen st (lo ck.toNat lg.toNat (st.load 0 (2 * ck)).1.1) lg.toNat).1.2.1, (walOpen st (lo ck.toNat lg.toNat (st.load 0 (2 * ck)).1.1) lg.toNat).1.2.2), (walOpen st (lo ck.toNat lg.toNat (st.load 0 (2 * ck)).1.1) lg.toNat).2)
def stoAppend (st : St) (ck lg : Nat) (s : Sto) (t : ByteArray) : Nat × Sto × St :=
  if s.broken then (3, s, st)
  else ((walAppend st (lo ck lg s.gen) lg s.str t).1, Sto.told ⟨s.gen, (walAppend st (lo ck lg s.gen) lg s.str t).2.1, s.broken⟩ (walAppend st (lo ck lg s.gen) lg s.str t).1, (walAppend st (lo ck lg s.gen) lg s.str t).2.2)
def stoSync (st : St) (s : Sto) : Nat × Sto × St :=
  if s.broken then (3, s, st) else (st.sync.1, s.told st.sync.1, st.sync.2)
def stoTrim (st : St) (ck lg : Nat) (s : Sto) (t : ByteArray) : Nat × Sto × St :=
  if s.broken then (3, s, st)
  else if 4611686018427387904 ≤ s.gen then (2, s, st)
  else if room (2 * (ck : Int)) < (t.size : Int) then (4, s, st)
  else if (walClear st (lo ck lg (s.gen + 1)) lg).1 ≠ 0 then ((walClear st (lo ck lg (s.gen + 1)) lg).1, s.told (walClear st (lo ck lg (s.gen + 1)) lg).1, (walClear st (lo ck lg (s.gen + 1)) lg).2)
  else if ((walClear st (lo ck lg (s.gen + 1)) lg).2.save 0 (2 * (ck : Int)) (s.gen + 1) t).1 ≠ 0 then
    (((walClear st (lo ck lg (s.gen + 1)) lg).2.save 0 (2 * (ck : Int)) (s.gen + 1) t).1, s.told ((walClear st (lo ck lg (s.gen + 1)) lg).2.save 0 (2 * (ck : Int)) (s.gen + 1) t).1, ((walClear st (lo ck lg (s.gen + 1)) lg).2.save 0 (2 * (ck : Int)) (s.gen + 1) t).2)
  else if (walOpen ((walClear st (lo ck lg (s.gen + 1)) lg).2.save 0 (2 * (ck : Int)) (s.gen + 1) t).2 (lo ck lg (s.gen + 1)) lg).1.1 ≠ 0 then
    ((walOpen ((walClear st (lo ck lg (s.gen + 1)) lg).2.save 0 (2 * (ck : Int)) (s.gen + 1) t).2 (lo ck lg (s.gen + 1)) lg).1.1, s.told (walOpen ((walClear st (lo ck lg (s.gen + 1)) lg).2.save 0 (2 * (ck : Int)) (s.gen + 1) t).2 (lo ck lg (s.gen + 1)) lg).1.1, (walOpen ((walClear st (lo ck lg (s.gen + 1)) lg).2.save 0 (2 * (ck : Int)) (s.gen + 1) t).2 (lo ck lg (s.gen + 1)) lg).2)
  else (0, ⟨s.gen + 1, (walOpen ((walClear st (lo ck lg (s.gen + 1)) lg).2.save 0 (2 * (ck : Int)) (s.gen + 1) t).2 (lo ck lg (s.gen + 1)) lg).1.2.1, false⟩, (walOpen ((walClear st (lo ck lg (s.gen + 1)) lg).2.save 0 (2 * (ck : Int)) (s.gen + 1) t).2 (lo ck lg (s.gen + 1)) lg).2)
/-- What may be there behind a crash: a checkpoint, the records behind it, how many of them are sure. -/
structure Past where
  gen : Nat
  text : ByteArray
  all : List ByteArray
  sure : Nat
/-- A conf that may be, small enough. -/
structure Conf (ck lg L : Nat) : Prop where
  ck2 : 2 ≤ ck
  ck256 : ck ≤ 256
  lg1 : 1 ≤ lg
  lg1024 : lg ≤ 1024
  fit : 2 * ck + 2 * lg ≤ L
  few : L ≤ 4096
theorem lo_fit {ck lg L : Nat} (h : Conf ck lg L) (g : Nat) : 2 * ck ≤ lo ck lg g ∧ lo ck lg g + lg ≤ L := by
  have := h.fit
  unfold lo
  rcases (by omega : g % 2 = 0 ∨ g % 2 = 1) with hp | hp <;> rw [hp] <;> omega
theorem lo_apart (ck lg g : Nat) : lo ck lg g + lg ≤ lo ck lg (g + 1) ∨ lo ck lg (g + 1) + lg ≤ lo ck lg g := by
  unfold lo
  rcases (by omega : g % 2 = 0 ∨ g % 2 = 1) with hp | hp
  · rw [hp, show (g + 1) % 2 = 1 from by omega]; omega
  · rw [hp, show (g + 1) % 2 = 0 from by omega]; omega
/-- The records may be. -/
structure Past.May (p : Past) (lg : Nat) : Prop where
  short : ∀ t ∈ p.all, t.size ≤ 65536
  fits : (cat p.all).size ≤ lg * 255
  some : p.sure ≤ p.all.length
/-- A disk's blocks have that. -/
structure Found (ck lg : Nat) (S : List ByteArray) (p : Past) : Prop where
  keep : KeepS (2 * ck) S p.gen p.text
  may : p.May lg
  fine : ∀ k, k < lg → Fine (cat p.all) (ends p.all p.sure) k (S.getD (lo ck lg p.gen + k) noText)
/-- Whatever a crash leaves, it is the one or the other. -/
def After (ck lg : Nat) (st : St) (p : Past) (q : Option Past) : Prop := ∀ picks, Found ck lg (st.crash picks).sure p ∨ ∃ q', q = some q' ∧ Found ck lg (st.crash picks).sure q'
/-- A store that lives. -/
structure Hale (ck lg L : Nat) (st : St) (p : Past) : Prop where
  ok : st.Ok
  long : st.sure.length = L
  keep : KeepS (2 * ck) st.sure p.gen p.text
  well : Well (lo ck lg p.gen) lg p.all p.sure st
theorem Hale.may {ck lg L : Nat} {st : St} {p : Past} (h : Hale ck lg L st p) : p.May lg := ⟨h.well.hold.short, h.well.hold.fits, h.well.hold.some⟩
/-- A crash with all that is loose behind the checkpoints' blocks. -/
theorem keep_crash {ck : Nat} {st : St} {g : Nat} {t : ByteArray} (h2 : 2 ≤ ck) (hok : st.Ok) (h : KeepS (2 * ck) st.sure g t) (hl : ∀ w ∈ st.loose, 2 * ck ≤ w.1) (picks : List Int) : KeepS (2 * ck) (st.crash picks).sure g t :=
  h.same (by omega) (hok.crash picks).full (crashed_length _ _ _ _) (fun j hj => crashed_other7 picks j st.loose 0 st.sure (fun w hw => by have := hl w hw; omega))
theorem Hale.after {ck lg L : Nat} {st : St} {p : Past} (hc : Conf ck lg L) (h : Hale ck lg L st p) (q : Option Past) : After ck lg st p q := fun picks =>
  Or.inl ⟨keep_crash hc.ck2 h.ok h.keep (fun w hw => by have := h.well.mine w hw; have := lo_fit hc p.gen; omega) picks, h.may, h.well.hold.crash picks⟩
theorem After.fuse {ck lg : Nat} {st : St} {p : Past} {q : Option Past} (h : After ck lg st p q) (n : Int) : After ck lg (st.fuse n) p q := h
theorem Hale.fuse {ck lg L : Nat} {st : St} {p : Past} (h : Hale ck lg L st p) (n : Int) (hn : n ≤ 9223372036854775807) : Hale ck lg L (st.fuse n) p :=
  ⟨h.ok.fuse n hn, h.long, h.keep, ⟨⟨h.well.hold.short, h.well.hold.fits, h.well.hold.some, h.well.hold.len, h.well.hold.sure, h.well.hold.wr⟩, h.well.now, h.well.mine⟩⟩
theorem conf_may {ck lg L : Nat} (hc : Conf ck lg L) (st : St) (hl : st.sure.length = L) : st.mayS (ck : Int) (lg : Int) := by
  have h1 := hc.ck2; have h2 := hc.ck256; have h3 := hc.lg1; have h4 := hc.lg1024; have h5 := hc.fit; have h6 := hc.few
  unfold St.mayS blocksC
  rw [if_neg (by omega), if_neg (by omega)]
  omega
/-- Open behind a crash. -/
theorem Found.open {ck lg L : Nat} {S : List ByteArray} {p : Past} (hc : Conf ck lg L) (h : Found ck lg S p) (hL : S.length = L) (hg : 1 ≤ p.gen ∧ p.gen ≤ 4611686018427387904) :
    ∃ r st', p.sure ≤ r ∧ r ≤ p.all.length ∧ stoOpen ⟨S, [], -1⟩ (ck : Int) (lg : Int) = ((0, p.gen, p.text, cat (p.all.take r), p.all.take r), st') ∧ Hale ck lg L st' ⟨p.gen, p.text, p.all.take r, r⟩ ∧ st'.left = -1 := by
  have hck2 := hc.ck2
  have hck := hc.ck256
  have hld := h.keep.load (-1) (by decide) (by omega) (by omega) (by omega) hg
  have hlf := lo_fit hc p.gen
  obtain ⟨r, S', h1, h2, h3, h4, h5, h6⟩ := open_at (lo ck lg p.gen) lg p.all h.may.short h.may.fits p.sure h.may.some S (by omega) h.fine
  have e2 : (2 * (ck : Int)) = ((2 * ck : Nat) : Int) := by omega
  have ho : stoOpen ⟨S, [], -1⟩ (ck : Int) (lg : Int) = ((0, p.gen, p.text, cat (p.all.take r), p.all.take r), ⟨S', [], -1⟩) := by
    unfold stoOpen
    rw [if_neg (fun x => x (conf_may hc _ hL)), e2, hld, if_neg (fun x => x rfl), Int.toNat_natCast, Int.toNat_natCast, h3, if_neg (fun x => x rfl)]
  have hlt : (p.all.take r).length = r := by rw [List.length_take]; omega
  have hfull : ∀ x ∈ S', x.size = 256 := fun x hx => by
    obtain ⟨i, hi, rfl⟩ := List.getElem_of_mem hx
    have e : S'.getD i noText = S'[i] := by rw [List.getD_eq_getElem?_getD, List.getElem?_eq_getElem hi]; rfl
    rw [← e]
    by_cases hin : i < lo ck lg p.gen ∨ lo ck lg p.gen + lg ≤ i
    · rw [h6 i hin]
      exact getD_size h.keep.full _ (by omega)
    · rw [show i = lo ck lg p.gen + (i - lo ck lg p.gen) from by omega, h5 _ (by omega)]
      exact blkOf_size _ _
  have hends : (cat (p.all.take r)).size ≤ lg * 255 := by
    have := ends_le p.all r
    have := h.may.fits
    unfold ends at *
    omega
  refine ⟨r, _, h1, h2, ho, ⟨⟨by show S'.length ≤ 4096; have := hc.few; omega, by show 1 ≤ S'.length; omega, hfull, fun w hw => absurd hw (by simp), ⟨Int.le_refl (-1), by show (-1 : Int) ≤ 9223372036854775807; decide⟩⟩, by show S'.length = L; omega, h.keep.same (by omega) hfull h4 (fun j hj => h6 j (Or.inl (by omega))), ?_⟩, rfl⟩
  refine ⟨⟨fun t ht => h.may.short t (List.mem_of_mem_take ht), hends, by show r ≤ (p.all.take r).length; omega, by show lo ck lg p.gen + lg ≤ S'.length; omega, fun k hk => ?_, trivial⟩, fun k hk => h5 k hk, fun w hw => absurd hw (by simp)⟩
  show S'.getD (lo ck lg p.gen + k) noText = blkOf (cat ((p.all.take r).take r)) k
  rw [List.take_take, Nat.min_self]
  exact h5 k hk
/-- A record is appended. -/
theorem Hale.append {ck lg L : Nat} {st : St} {p : Past} (hc : Conf ck lg L) (h : Hale ck lg L st p) (t : ByteArray) :
    (∃ c, (c = 4 ∨ c = 6) ∧ stoAppend st ck lg ⟨p.gen, cat p.all, false⟩ t = (c, ⟨p.gen, cat p.all, false⟩, st)) ∨
    (∃ st', stoAppend st ck lg ⟨p.gen, cat p.all, false⟩ t = (0, ⟨p.gen, cat (p.all ++ [t]), false⟩, st') ∧ Hale ck lg L st' ⟨p.gen, p.text, p.all ++ [t], p.sure⟩) ∨
    (∃ st', stoAppend st ck lg ⟨p.gen, cat p.all, false⟩ t = (50, ⟨p.gen, cat p.all, true⟩, st') ∧ st'.Ok ∧ st'.sure.length = L ∧ ∀ q, After ck lg st' ⟨p.gen, p.text, p.all ++ [t], p.sure⟩ q) := by
  have hlf := lo_fit hc p.gen
  have hokA : (walAppend st (lo ck lg p.gen) lg (cat p.all) t).2.2.Ok := by
    unfold walAppend
    split
    · exact h.ok
    · split
      · exact h.ok
      · split
        · exact puts_ok8 _ lg (blkOf (cat p.all)) (blkOf (cat p.all)) _ _ _ h.ok
        · exact puts_ok8 _ lg (blkOf (cat p.all)) (blkOf (cat p.all)) _ _ _ h.ok
  have hu : ∀ c s2 st2, walAppend st (lo ck lg p.gen) lg (cat p.all) t = (c, s2, st2) → stoAppend st ck lg ⟨p.gen, cat p.all, false⟩ t = (c, Sto.told ⟨p.gen, s2, false⟩ c, st2) := fun c s2 st2 e => by
    unfold stoAppend
    rw [if_neg (by simp)]
    simp only
    rw [e]
  rcases h.well.append t with ⟨c, h1, h2⟩ | ⟨st', h1, h2, h3⟩ | ⟨st', h1, h2, h3, h4⟩
  · left
    refine ⟨c, h1, ?_⟩
    rw [hu _ _ _ h2]
    unfold Sto.told
    rcases h1 with rfl | rfl <;> rfl
  · right; left
    refine ⟨st', by rw [hu _ _ _ h1]; rfl, by rw [h1] at hokA; exact hokA, by rw [h3]; exact h.long, by rw [h3]; exact h.keep, h2⟩
  · right; right
    have hok : st'.Ok := by rw [h1] at hokA; exact hokA
    refine ⟨st', by rw [hu _ _ _ h1]; rfl, hok, by rw [h3]; exact h.long, fun q picks => Or.inl ⟨keep_crash hc.ck2 hok (by rw [h3]; exact h.keep) (fun w hw => by have := h4 w hw; omega) picks, ⟨h2.short, h2.fits, h2.some⟩, h2.crash picks⟩⟩
/-- All is made sure, or the disk stands still. -/
theorem Hale.sync {ck lg L : Nat} {st : St} {p : Past} (hc : Conf ck lg L) (h : Hale ck lg L st p) :
    (∃ st', stoSync st ⟨p.gen, cat p.all, false⟩ = (0, ⟨p.gen, cat p.all, false⟩, st') ∧ Hale ck lg L st' ⟨p.gen, p.text, p.all, p.all.length⟩) ∨
    stoSync st ⟨p.gen, cat p.all, false⟩ = (50, ⟨p.gen, cat p.all, true⟩, st) := by
  have hlf := lo_fit hc p.gen
  unfold stoSync
  rw [if_neg (by simp)]
  by_cases h0 : st.left = 0
  · right
    have e : st.sync = (50, st) := by unfold St.sync; rw [if_pos h0]
    rw [e]
    rfl
  · left
    have e : st.sync = (0, ⟨laid st.sure st.loose, [], counted st.left⟩) := by unfold St.sync; rw [if_neg h0]
    have hw := h.well.sync (by rw [e])
    have hok := h.ok.sync
    rw [e] at hw hok ⊢
    exact ⟨_, rfl, hok, by show (laid _ _).length = L; rw [laid_length]; exact h.long, h.keep.same (by have := hc.ck2; omega) hok.full (laid_length _ _) (fun j hj => laid_other7 j _ _ (fun w hw' => by have := h.well.mine w hw'; omega)), hw⟩
theorem zeros_ok : ∀ (n o : Nat) (st : St), st.Ok → (zeros n o st).2.Ok
  | 0, _, _, h => h
  | n + 1, o, st, h => by
    unfold zeros
    split
    · exact zeros_ok n _ _ (h.write _ _)
    · exact h.write _ _
theorem clear_ok {st : St} (h : st.Ok) (o n : Nat) : (walClear st o n).2.Ok := by
  unfold walClear
  split
  · exact zeros_ok _ _ _ h
  · exact (zeros_ok _ _ _ h).sync
theorem andT_ok {r : Nat × St} {f : St → Nat × St} (h : r.2.Ok) (hf : ∀ s, s.Ok → (f s).2.Ok) : (andT r f).2.Ok := by
  unfold andT
  split
  · exact hf _ h
  · exact h
theorem putsT_ok' (o : Nat) (t : ByteArray) : ∀ (n i : Nat) (st : St), st.Ok → (putsT o t n i st).2.Ok
  | 0, _, _, h => h
  | n + 1, i, _, h => andT_ok (h.write _ _) (fun s hs => putsT_ok' o t n (i + 1) s hs)
theorem saveAt_ok {st : St} (h : st.Ok) (a g : Nat) (t : ByteArray) : (saveAt a g t st).2.Ok := by
  unfold saveAt
  exact andT_ok (andT_ok (andT_ok (andT_ok (andT_ok (h.write _ _) (fun s hs => hs.sync)) (fun s hs => putsT_ok' _ _ _ _ s hs)) (fun s hs => hs.sync)) (fun s hs => hs.write _ _)) (fun s hs => hs.sync)
theorem save_is {ck : Nat} {st : St} {g : Nat} {t : ByteArray} (h2 : 2 ≤ ck) (h256 : ck ≤ 256) (hl : 2 * ck ≤ st.sure.length) (hg : 1 ≤ g ∧ g ≤ 4611686018427387904) (ht : t.size ≤ (2 * ck / 2 - 1) * 256) : st.save 0 (2 * (ck : Int)) g t = saveAt (slN (2 * ck) g) g t st := by
  have hr : room (2 * (ck : Int)) = ((2 * (ck : Int)) / 2 - 1) * 256 := by unfold room; rw [if_neg (by omega)]
  have hm : st.mayC 0 (2 * (ck : Int)) := ⟨by omega, by omega, by omega⟩
  have hs : slotAt 0 (2 * (ck : Int)) g = slN (2 * ck) g := by
    unfold slotAt slN
    rw [show (2 * (ck : Int)).toNat = 2 * ck from by omega]
    simp
  unfold St.save
  rw [if_neg (fun h => h hm), if_neg (by omega), if_neg (by rw [hr]; omega), hs]
set_option maxRecDepth 10000 in
/-- A new checkpoint. -/
theorem Hale.trim {ck lg L : Nat} {st : St} {p : Past} (hc : Conf ck lg L) (h : Hale ck lg L st p) (hg : 1 ≤ p.gen ∧ p.gen < 4611686018427387904) (t : ByteArray) :
    (room (2 * (ck : Int)) < (t.size : Int) ∧ stoTrim st ck lg ⟨p.gen, cat p.all, false⟩ t = (4, ⟨p.gen, cat p.all, false⟩, st)) ∨
    (∃ st', stoTrim st ck lg ⟨p.gen, cat p.all, false⟩ t = (0, ⟨p.gen + 1, cat [], false⟩, st') ∧ Hale ck lg L st' ⟨p.gen + 1, t, [], 0⟩) ∨
    (∃ st', stoTrim st ck lg ⟨p.gen, cat p.all, false⟩ t = (50, ⟨p.gen, cat p.all, true⟩, st') ∧ st'.Ok ∧ st'.sure.length = L ∧ After ck lg st' p (some ⟨p.gen + 1, t, [], 0⟩)) := by
  have h2 := hc.ck2
  have h256 := hc.ck256
  have hfit := hc.fit
  have hlf := lo_fit hc p.gen
  have hlf2 := lo_fit hc (p.gen + 1)
  have hap := lo_apart ck lg p.gen
  have hL := h.long
  have hr : room (2 * (ck : Int)) = ((2 * (ck : Int)) / 2 - 1) * 256 := by unfold room; rw [if_neg (by omega)]
  unfold stoTrim
  rw [if_neg (by simp), if_neg (show ¬ 4611686018427387904 ≤ p.gen by omega)]
  by_cases hlong : room (2 * (ck : Int)) < (t.size : Int)
  · left; exact ⟨hlong, by rw [if_pos hlong]⟩
  right
  rw [if_neg hlong]
  simp only
  have ht : t.size ≤ (2 * ck / 2 - 1) * 256 := by rw [hr] at hlong; omega
  -- all that is loose, with writes in the other log's blocks
  have hcl := clear_cases (lo ck lg (p.gen + 1)) lg st (by omega)
  have hokC := clear_ok h.ok (lo ck lg (p.gen + 1)) lg
  rcases hcl with ⟨W, c, e, hW⟩ | ⟨c, e⟩
  · right
    rw [e] at hokC ⊢
    rw [if_pos (show (50 : Nat) ≠ 0 by decide)]
    refine ⟨_, rfl, hokC, hL, fun picks => Or.inl ⟨keep_crash h2 hokC h.keep (fun w hw => ?_) picks, h.may, ?_⟩⟩
    · rcases List.mem_append.1 hw with hw | hw
      · have := h.well.mine w hw; omega
      · have := hW w hw; omega
    · have hh : Hold (lo ck lg p.gen) lg p.all p.sure ⟨st.sure, st.loose ++ W, c⟩ := ⟨h.well.hold.short, h.well.hold.fits, h.well.hold.some, h.well.hold.len, h.well.hold.sure, h.well.hold.wr.more (ends_le _ _) (fun w hw => Or.inl (by have := hW w hw; omega))⟩
      exact hh.crash picks
  · rw [e] at hokC ⊢
    rw [if_neg (fun x => x rfl)]
    obtain ⟨S1, hS1⟩ : ∃ S1, S1 = laid (laid st.sure st.loose) (zw (lo ck lg (p.gen + 1)) lg) := ⟨_, rfl⟩
    have hlen1 : S1.length = L := by rw [hS1, laid_length, laid_length]; exact hL
    have hk1 : KeepS (2 * ck) S1 p.gen p.text := h.keep.same (by omega) (by rw [hS1]; exact hokC.full) (by rw [hlen1, hL]) (fun j hj => by
      rw [hS1, laid_other7 j _ _ (fun w hw => by have := zw_mem hw; omega), laid_other7 j _ _ (fun w hw => by have := h.well.mine w hw; omega)])
    have hold1 : ∀ k, k < lg → S1.getD (lo ck lg p.gen + k) noText = blkOf (cat p.all) k := fun k hk => by
      rw [hS1, laid_other7 _ _ _ (fun w hw => by have := zw_mem hw; omega)]
      exact h.well.now k hk
    have hnew1 : ∀ k, k < lg → S1.getD (lo ck lg (p.gen + 1) + k) noText = zblock := fun k hk => by
      rw [hS1]
      exact laid_zw lg _ _ (by rw [laid_length]; omega) k hk
    simp only [← hS1] at hokC ⊢
    have hfineO : ∀ S' : List ByteArray, (∀ j, 2 * ck ≤ j → S'.getD j noText = S1.getD j noText) → ∀ k, k < lg → Fine (cat p.all) (ends p.all p.sure) k (S'.getD (lo ck lg p.gen + k) noText) := fun S' hs k hk => by
      rw [hs _ (by omega), hold1 k hk]
      refine ⟨(cat p.all).size, ends_le _ _, Nat.le_refl _, ?_⟩
      have := Good.pre (cat p.all) k (cat p.all).size (Nat.le_refl _)
      rw [pre_all] at this
      exact this
    have hfineN : ∀ S' : List ByteArray, (∀ j, 2 * ck ≤ j → S'.getD j noText = S1.getD j noText) → ∀ k, k < lg → Fine (cat []) (ends [] 0) k (S'.getD (lo ck lg (p.gen + 1) + k) noText) := fun S' hs k hk => by
      rw [hs _ (by omega), hnew1 k hk, ← zeros_good k]
      refine ⟨(cat []).size, ends_le _ _, Nat.le_refl _, ?_⟩
      have := Good.pre (cat []) k (cat []).size (Nat.le_refl _)
      rw [pre_all] at this
      exact this
    have hmayN : Past.May ⟨p.gen + 1, t, [], 0⟩ lg := ⟨fun x hx => absurd hx (by simp), Nat.zero_le _, Nat.le_refl _⟩
    obtain ⟨X, hX, hXl, hXo, hXr⟩ := hk1.step (by omega) c hokC.left.1 t ht
    have hsv : (⟨S1, [], c⟩ : St).save 0 (2 * (ck : Int)) (p.gen + 1) t = X := by
      rw [save_is h2 h256 (by show 2 * ck ≤ S1.length; omega) (by omega) ht]
      exact hX
    have hokX : X.2.Ok := by rw [← hX]; exact saveAt_ok hokC _ _ _
    rw [hsv]
    rcases hXr with ⟨h50, hcr⟩ | ⟨h0, hlo, hkn⟩
    · right
      rw [if_pos (by rw [h50]; decide), h50]
      refine ⟨_, rfl, hokX, by omega, fun picks => ?_⟩
      rcases hcr picks with hk | hk
      · exact Or.inl ⟨hk, h.may, hfineO _ (hXo picks)⟩
      · exact Or.inr ⟨_, rfl, hk, hmayN, hfineN _ (hXo picks)⟩
    · rw [if_neg (fun x => x h0)]
      obtain ⟨y, ⟨S2, loose2, c2⟩⟩ := X
      have hlo : loose2 = [] := hlo
      subst hlo
      have hs2 : ∀ j, 2 * ck ≤ j → S2.getD j noText = S1.getD j noText := hXo []
      have hlen2 : S2.length = L := by have : S2.length = S1.length := hXl; omega
      by_cases hc2 : c2 = 0
      · right
        have ho : walOpen ⟨S2, [], c2⟩ (lo ck lg (p.gen + 1)) lg = ((50, noText, []), ⟨S2, [], c2⟩) := by unfold walOpen; rw [if_pos hc2]
        simp only
        rw [ho, if_pos (show (50 : Nat) ≠ 0 by decide)]
        exact ⟨_, rfl, hokX, hlen2, fun picks => Or.inr ⟨_, rfl, hkn, hmayN, hfineN _ hs2⟩⟩
      · left
        have ho := open_zero (lo ck lg (p.gen + 1)) lg S2 c2 hc2 (fun k hk => by rw [hs2 _ (by omega)]; exact hnew1 k hk)
        simp only
        rw [ho, if_neg (fun x => x rfl)]
        refine ⟨_, rfl, hokX, hlen2, hkn, ⟨⟨fun x hx => absurd hx (by simp), Nat.zero_le _, Nat.le_refl _, by show lo ck lg (p.gen + 1) + lg ≤ S2.length; omega, fun k hk => ?_, trivial⟩, fun k hk => ?_, fun w hw => absurd hw (by simp)⟩⟩
        · show S2.getD (lo ck lg (p.gen + 1) + k) noText = blkOf (cat []) k
          rw [hs2 _ (by omega), hnew1 k hk, zeros_good]
        · show S2.getD (lo ck lg (p.gen + 1) + k) noText = blkOf (cat []) k
          rw [hs2 _ (by omega), hnew1 k hk, zeros_good]
end Go.Proofs.YtchhojkhfdkhfaaGreatDoor
namespace Go.Proofs.YtchhojkhfdkhfaaGreatDoor
open Go Go.RowKit

theorem hide {p : Prop} (h : p) : Hid p := h
theorem bnext {w w1 w2 : World} (h : Below w.heap.size w w1) (k : Below w1.heap.size w1 w2) : Below w.heap.size w w2 := h.trans (k.mono h.size)
theorem below_drewN {B : Nat} {w u : World} (h : Below B w u) (n : Nat) : Below B w (u.drewN n) := h.trans ⟨rfl, rfl, rfl, Nat.le_refl _, fun _ _ => rfl⟩
/-- A call on an object whose blocks are F, and behind it F': all other blocks are as they were; what is new of the object's is new. -/
structure Loc (F F' : Nat → Prop) (u v : World) : Prop where
  os : v.os = u.os
  tape : v.tape = u.tape
  output : v.output = u.output
  size : u.heap.size ≤ v.heap.size
  block : ∀ k, k < u.heap.size → ¬ F k → v.heap[k]? = u.heap[k]?
  own : ∀ k, F' k → F k ∨ u.heap.size ≤ k
theorem Loc.refl (F : Nat → Prop) (u : World) : Loc F F u u := ⟨rfl, rfl, rfl, Nat.le_refl _, fun _ _ _ => rfl, fun _ h => Or.inl h⟩
theorem Loc.trans {F F' F'' : Nat → Prop} {u v w : World} (h : Loc F F' u v) (k : Loc F' F'' v w) : Loc F F'' u w :=
  ⟨k.os.trans h.os, k.tape.trans h.tape, k.output.trans h.output, Nat.le_trans h.size k.size, fun i hi hF => (k.block i (Nat.lt_of_lt_of_le hi h.size) (fun hF' => by
    rcases h.own i hF' with h1 | h1
    · exact hF h1
    · omega)).trans (h.block i hi hF), fun i hi => by
    rcases k.own i hi with h1 | h1
    · exact h.own i h1
    · exact Or.inr (Nat.le_trans h.size h1)⟩
/-- A call that makes memory, and turns nothing. -/
theorem Loc.of_below (F : Nat → Prop) {u v : World} (h : Below u.heap.size u v) : Loc F F u v := ⟨h.os, h.tape, h.output, h.size, fun k hk _ => h.block k hk, fun _ hk => Or.inl hk⟩
theorem Loc.of_grown {F F' : Nat → Prop} {u v : World} {row : Option Nat} (h : u.grownBy v row) (hr : ∀ k, row = some k → F k) (ho : ∀ k, F' k → F k ∨ u.heap.size ≤ k) : Loc F F' u v :=
  ⟨h.os, h.tape, h.output, h.size, fun k hk hF => h.block k hk (fun e => hF (hr k e.symm)), ho⟩
theorem Loc.setCell {F : Nat → Prop} (u : World) (a : Addr) (v : Value) (ha : F a.block) : Loc F F u (u.setCell a v) :=
  ⟨rfl, rfl, rfl, by simp [World.setCell], fun k _ hF => Below.heap_setCell u a v k (fun e => hF (e ▸ ha)), fun _ h => Or.inl h⟩
theorem Loc.alloc (F : Nat → Prop) (u : World) (o : Obj) : Loc F F u (u.alloc o) := Loc.of_below F ((Below.refl _ _).alloc (Nat.le_refl _) _)
theorem Loc.drew {F F' : Nat → Prop} {u v : World} (h : Loc F F' u v) : Loc F F' u v.drew := ⟨h.os, h.tape, h.output, h.size, h.block, h.own⟩
theorem Loc.undrew {F F' : Nat → Prop} {u v : World} (h : Loc F F' u.drew v) : Loc F F' u v := ⟨h.os, h.tape, h.output, h.size, h.block, h.own⟩
theorem Loc.below {F F' : Nat → Prop} {u v : World} {B : Nat} (h : Loc F F' u v) (hF : ∀ k, F k → B ≤ k) (hB : B ≤ u.heap.size) : Below B u v :=
  ⟨h.os, h.tape, h.output, h.size, fun k hk => h.block k (by omega) (fun hf => by have := hF k hf; omega)⟩
/-- All of an object's blocks lie at B or behind. -/
theorem Loc.beyond {F F' : Nat → Prop} {u v : World} {B : Nat} (h : Loc F F' u v) (hF : ∀ k, F k → B ≤ k) (hB : B ≤ u.heap.size) : ∀ k, F' k → B ≤ k := fun k hk => by
  rcases h.own k hk with h1 | h1
  · exact hF k h1
  · omega
/-- Two objects stay apart. -/
theorem Loc.apart {F F' G : Nat → Prop} {u v : World} (h : Loc F F' u v) (hd : ∀ k, F k → ¬ G k) (hG : ∀ k, G k → k < u.heap.size) : ∀ k, F' k → ¬ G k := fun k hk hg => by
  rcases h.own k hk with h1 | h1
  · exact hd k h1 hg
  · have := hG k hg; omega
/-- What lies in the blocks of another one is as it was. -/
theorem Loc.other {F F' G : Nat → Prop} {u v : World} (h : Loc F F' u v) (hd : ∀ k, F k → ¬ G k) (hG : ∀ k, G k → k < u.heap.size) : ∀ k, G k → v.heap[k]? = u.heap[k]? := fun k hk => h.block k (hG k hk) (fun hf => hd k hf hk)
theorem own_same {w w' : World} {base : Nat} {e : TypeId} {size n : Nat} {v : Value} {xs : List Value} (h : w.ownsRow base e size v n xs) (hb : ∀ g, v.ownBlock = some g → w'.heap[g]? = w.heap[g]?) : w'.ownsRow base e size v n xs := by
  refine ⟨h.1, ?_⟩
  rcases h.2 with h0 | ⟨g, cap, cur, rfl, h1, hg, hr⟩
  · exact Or.inl h0
  · exact Or.inr ⟨g, cap, cur, rfl, h1, (hb g rfl).trans hg, hr⟩
theorem own_lt {w : World} {base : Nat} {e : TypeId} {size n : Nat} {v : Value} {xs : List Value} (h : w.ownsRow base e size v n xs) {g : Nat} (hg : v.ownBlock = some g) : g < w.heap.size := (World.ownsRow.lt h g hg).2
end Go.Proofs.YtchhojkhfdkhfaaGreatDoor
namespace Go.Proofs.YtchhojkhfdkhfaaGreatDoor
open Go Go.RowKit

/-- The cells of what is loose. -/
def looseCells (l : List (Nat × ByteArray)) : List Value := l.flatMap fun w => [.int .i64 (w.1 : Int), .string w.2]
theorem looseCells_snoc (l : List (Nat × ByteArray)) (w : Nat × ByteArray) : looseCells (l ++ [w]) = looseCells l ++ [.int .i64 (w.1 : Int), .string w.2] := by
  unfold looseCells; simp
theorem looseCells_at : ∀ (l : List (Nat × ByteArray)) (i : Nat) (h : i < l.length), (looseCells l)[i * 2]? = some (.int .i64 ((l[i].1 : Nat) : Int)) ∧ (looseCells l)[i * 2 + 1]? = some (.string l[i].2)
  | [], _, h => absurd h (by simp)
  | w :: l, 0, _ => ⟨rfl, rfl⟩
  | w :: l, i + 1, h => by
    have ih := looseCells_at l i (by simpa using h)
    have e : looseCells (w :: l) = .int .i64 (w.1 : Int) :: .string w.2 :: looseCells l := by unfold looseCells; simp
    rw [e, show (i + 1) * 2 = i * 2 + 1 + 1 from by omega]
    exact ih
/-- The blocks of the document's disk. -/
def RF (p : Nat) (vS vL : Value) (k : Nat) : Prop := k = p ∨ vS.ownBlock = some k ∨ vL.ownBlock = some k
/-- The document's disk lies at block p. -/
structure RAt (u : World) (p : Nat) (vS vL : Value) (st : St) : Prop where
  head : u.heap[p]? = some (.cells #[vS, vL, .int .i64 st.left] 49 (0, 0))
  sure : u.ownsRow 0 9 1 vS st.sure.length (st.sure.map Value.string)
  loose : u.ownsRow 0 123 2 vL st.loose.length (looseCells st.loose)
theorem RAt.lt {u : World} {p : Nat} {vS vL : Value} {st : St} (h : RAt u p vS vL st) : ∀ k, RF p vS vL k → k < u.heap.size := fun k hk => by
  rcases hk with rfl | h1 | h1
  · exact (Array.getElem?_eq_some_iff.1 h.head).1
  · exact own_lt h.sure h1
  · exact own_lt h.loose h1
theorem RAt.same {u v : World} {p : Nat} {vS vL : Value} {st : St} (h : RAt u p vS vL st) (hb : ∀ k, RF p vS vL k → v.heap[k]? = u.heap[k]?) : RAt v p vS vL st :=
  ⟨(hb p (Or.inl rfl)).trans h.head, own_same h.sure (fun g hg => hb g (Or.inr (Or.inl hg))), own_same h.loose (fun g hg => hb g (Or.inr (Or.inr hg)))⟩
theorem RAt.below {u v : World} {p : Nat} {vS vL : Value} {st : St} (h : RAt u p vS vL st) (hb : Below u.heap.size u v) : RAt v p vS vL st := h.same (fun k hk => hb.block k (h.lt k hk))
theorem RAt.cell0 {u : World} {p : Nat} {vS vL : Value} {st : St} (h : RAt u p vS vL st) : u.cell? ⟨p, 0, none⟩ = some vS := by simp [World.cell?, h.head]
theorem RAt.cell1 {u : World} {p : Nat} {vS vL : Value} {st : St} (h : RAt u p vS vL st) : u.cell? ⟨p, 1, none⟩ = some vL := by simp [World.cell?, h.head]
theorem RAt.cell2 {u : World} {p : Nat} {vS vL : Value} {st : St} (h : RAt u p vS vL st) : u.cell? ⟨p, 2, none⟩ = some (.int .i64 st.left) := by simp [World.cell?, h.head]
theorem RAt.free {u : World} {p : Nat} {vS vL : Value} {st : St} (h : RAt u p vS vL st) (i : Nat) : u.frozen? ⟨p, i, none⟩ = false := by simp [World.frozen?, h.head]
/-- The blocks are three. -/
theorem row_type {w : World} {base : Nat} {e : TypeId} {size n : Nat} {v : Value} {xs : List Value} (h : w.ownsRow base e size v n xs) {g : Nat} (hg : v.ownBlock = some g) : ∃ cur, w.heap[g]? = some (.cells cur e (0, 0)) := by
  rcases h.2 with ⟨rfl, _⟩ | ⟨g', cap, cur, rfl, h1, hg', hr⟩
  · cases hg
  · simp [Value.ownBlock] at hg
    subst hg
    exact ⟨cur, hg'⟩
theorem RAt.ne0 {u : World} {p : Nat} {vS vL : Value} {st : St} (h : RAt u p vS vL st) : vS.ownBlock ≠ some p := fun e => by
  obtain ⟨cur, hc⟩ := row_type h.sure e
  rw [h.head] at hc
  cases hc
theorem RAt.ne1 {u : World} {p : Nat} {vS vL : Value} {st : St} (h : RAt u p vS vL st) : vL.ownBlock ≠ some p := fun e => by
  obtain ⟨cur, hc⟩ := row_type h.loose e
  rw [h.head] at hc
  cases hc
theorem RAt.ne2 {u : World} {p : Nat} {vS vL : Value} {st : St} (h : RAt u p vS vL st) {g : Nat} (hS : vS.ownBlock = some g) : vL.ownBlock ≠ some g := fun e => by
  obtain ⟨cur, hc⟩ := row_type h.sure hS
  obtain ⟨cur2, hc2⟩ := row_type h.loose e
  rw [hc] at hc2
  cases hc2
theorem heap_set3 {u : World} {p i : Nat} {cs : Array Value} {t : TypeId} (h : u.heap[p]? = some (.cells cs t (0, 0))) (v : Value) : (u.setCell ⟨p, i, none⟩ v).heap[p]? = some (.cells (cs.setIfInBounds i v) t (0, 0)) := by
  rw [setCell_eq_setRow u p i cs t (0, 0) v h]
  exact setRow_heap u p cs _ t _ h
/-- A field of the head is written. -/
theorem RAt.setHead {u : World} {p i : Nat} {vS vL vS' vL' v : Value} {st st' : St} (h : RAt u p vS vL st) (hc : (#[vS, vL, .int .i64 st.left] : Array Value).setIfInBounds i v = #[vS', vL', .int .i64 st'.left])
    (hS : (u.setCell ⟨p, i, none⟩ v).ownsRow 0 9 1 vS' st'.sure.length (st'.sure.map Value.string)) (hL : (u.setCell ⟨p, i, none⟩ v).ownsRow 0 123 2 vL' st'.loose.length (looseCells st'.loose)) : RAt (u.setCell ⟨p, i, none⟩ v) p vS' vL' st' :=
  ⟨by rw [heap_set3 h.head, hc], hS, hL⟩
theorem RAt.rowS {u : World} {p i : Nat} {vS vL v : Value} {st : St} (h : RAt u p vS vL st) : (u.setCell ⟨p, i, none⟩ v).ownsRow 0 9 1 vS st.sure.length (st.sure.map Value.string) :=
  own_same h.sure (fun g hg => Below.heap_setCell u ⟨p, i, none⟩ v g (fun e => h.ne0 (by rw [← show g = p from e]; exact hg)))
theorem RAt.rowL {u : World} {p i : Nat} {vS vL v : Value} {st : St} (h : RAt u p vS vL st) : (u.setCell ⟨p, i, none⟩ v).ownsRow 0 123 2 vL st.loose.length (looseCells st.loose) :=
  own_same h.loose (fun g hg => Below.heap_setCell u ⟨p, i, none⟩ v g (fun e => h.ne1 (by rw [← show g = p from e]; exact hg)))
theorem RAt.setLeft {u : World} {p : Nat} {vS vL : Value} {st : St} (h : RAt u p vS vL st) (x : Int) : RAt (u.setCell ⟨p, 2, none⟩ (.int .i64 x)) p vS vL ⟨st.sure, st.loose, x⟩ :=
  h.setHead rfl h.rowS h.rowL
theorem slice_of {w : World} {base : Nat} {e : TypeId} {size n : Nat} {v : Value} {xs : List Value} (h : w.ownsRow base e size v n xs) : ∃ a c, v = .slice a n c ∧ n ≤ c := by
  rcases h.2 with ⟨rfl, h0⟩ | ⟨g, cap, cur, rfl, h1, hg, hn, _⟩
  · exact ⟨none, 0, by rw [h0], by omega⟩
  · exact ⟨_, cap, rfl, hn⟩

set_option maxHeartbeats 400000 in
theorem rDown (p : Nat) (vS vL : Value) (st : St) (w : World) (h : RAt w p vS vL st) :
    Calls Tryz.prog 68 #[.pointer (some ⟨p, 0, none⟩)] w fun e w' => e = .returned (.bool (st.left == 0)) ∧ w' = w := by
  have hc := h.cell2
  clear h
  go_enter Tryz.func68, Tryz.ntmps68
  go_wp2
  go_ret
  exact ⟨rfl, rfl⟩
set_option maxHeartbeats 400000 in
theorem rThere (p : Nat) (vS vL : Value) (st : St) (b : Int) (w : World) (h : RAt w p vS vL st) (hl : st.sure.length ≤ 4096) :
    Calls Tryz.prog 69 #[.pointer (some ⟨p, 0, none⟩), .int .i64 b] w fun e w' => e = .returned (.bool (decide (0 ≤ b ∧ b < (st.sure.length : Int)))) ∧ w' = w := by
  obtain ⟨a, c, rfl, _⟩ := slice_of h.sure
  have hc := h.cell0
  clear h
  have HL := hide hl
  by_cases h0 : 0 ≤ b
  · by_cases h1 : b < (st.sure.length : Int)
    · have hd : decide (0 ≤ b ∧ b < (st.sure.length : Int)) = true := decide_eq_true ⟨h0, h1⟩
      rw [hd]
      clear hd
      go_enter Tryz.func69, Tryz.ntmps69
      go_wp2
      go_ret
      exact ⟨rfl, rfl⟩
    · have hd : decide (0 ≤ b ∧ b < (st.sure.length : Int)) = false := decide_eq_false (fun h => h1 h.2)
      rw [hd]
      clear hd
      go_enter Tryz.func69, Tryz.ntmps69
      go_wp2
      go_ret
      exact ⟨rfl, rfl⟩
  · have hd : decide (0 ≤ b ∧ b < (st.sure.length : Int)) = false := decide_eq_false (fun h => h0 h.1)
    rw [hd]
    clear hd
    go_enter Tryz.func69, Tryz.ntmps69
    go_wp2
    go_ret
    exact ⟨rfl, rfl⟩
set_option maxHeartbeats 400000 in
theorem rCounts (p : Nat) (vS vL : Value) (st : St) (w : World) (h : RAt w p vS vL st) (hl : -1 ≤ st.left ∧ st.left ≤ 9223372036854775807) :
    Calls Tryz.prog 70 #[.pointer (some ⟨p, 0, none⟩)] w fun e w' => (∃ v, e = .returned v) ∧ RAt w' p vS vL ⟨st.sure, st.loose, counted st.left⟩ ∧ Loc (RF p vS vL) (RF p vS vL) w w' := by
  have hc := h.cell2
  have hf := h.free 2
  have H := hide h
  by_cases h0 : 0 < st.left
  · have hx : counted st.left = st.left - 1 := by unfold counted; rw [if_pos h0]
    rw [hx]
    clear hx h
    go_enter Tryz.func70, Tryz.ntmps70
    go_wp2
    go_end0
    exact ⟨⟨_, rfl⟩, H.out.setLeft _, Loc.setCell w ⟨p, 2, none⟩ _ (Or.inl rfl)⟩
  · have hx : counted st.left = st.left := by unfold counted; rw [if_neg h0]
    rw [hx]
    clear hx h
    go_enter Tryz.func70, Tryz.ntmps70
    go_wp2
    go_end0
    exact ⟨⟨_, rfl⟩, H.out, Loc.refl _ _⟩
end Go.Proofs.YtchhojkhfdkhfaaGreatDoor
