/- Stores, plain: a disk that does not stand still; what the law's own 'alive' asks. Stores, plain: what the law's own 'alive' does, step by step. The law's own 'alive', over contracts of the program's stores. The law StoreNil. How what comes in is read, and how it reads behind the call; a world that has the library's tables laid. -/
import Derived.Test.YtchhojkhfdkhfaaGreatDoorK02
import Derived.Test.YtchhojkhfdkhfaaGreatDoorK14
import Derived.Test.YtchhojkhfdkhfaaGreatDoorK17
import Derived.Test.YtchhojkhfdkhfaaGreatDoorK16
import Derived.Test.YtchhojkhfdkhfaaGreatDoorK19
import Derived.Test.YtchhojkhfdkhfaaGreatDoorK03
import Derived.Test.YtchhojkhfdkhfaaGreatDoorRows
import Derived.ProofKit
import Derived.LaidMore
import Derived.OpenShut
import Derived.Stop.Joined
import Derived.Lib.SmallJoins
import Derived.MakeChecks
import Derived.Lay
namespace Go.Proofs.YtchhojkhfdkhfaaGreatDoor
open Frm
/-- It stands still nowhere. -/
def Still (r : Nat × St) : Prop := r.1 ≠ 50 ∧ r.2.left = -1
theorem counted_still : counted (-1) = -1 := by decide
theorem write_still {st : St} (h : st.left = -1) (b : Int) (d : ByteArray) : Still (st.write b d) := by
  unfold St.write
  rw [if_neg (by rw [h]; decide)]
  split
  · exact ⟨by show (5 : Nat) ≠ 50; decide, h⟩
  · split
    · exact ⟨by show (2 : Nat) ≠ 50; decide, h⟩
    · exact ⟨by show (0 : Nat) ≠ 50; decide, by show counted st.left = -1; rw [h, counted_still]⟩
theorem sync_still {st : St} (h : st.left = -1) : Still st.sync ∧ st.sync.1 = 0 := by
  unfold St.sync
  rw [if_neg (by rw [h]; decide)]
  exact ⟨⟨by show (0 : Nat) ≠ 50; decide, by show counted st.left = -1; rw [h, counted_still]⟩, rfl⟩
theorem zeros_still : ∀ (n o : Nat) (st : St), st.left = -1 → Still (zeros n o st)
  | 0, _, _, h => ⟨by show (0 : Nat) ≠ 50; decide, h⟩
  | n + 1, o, st, h => by
    unfold zeros
    split
    · exact zeros_still n _ _ (write_still h _ _).2
    · exact write_still h _ _
theorem clear_still {st : St} (h : st.left = -1) (o n : Nat) : Still (walClear st o n) := by
  unfold walClear
  split
  · exact zeros_still _ _ _ h
  · exact (sync_still (zeros_still _ _ _ h).2).1
theorem puts_still (o : Nat) : ∀ (l : List (ByteArray × ByteArray)) (i : Nat) (st : St), st.left = -1 → Still (puts o l i st)
  | [], _, _, h => ⟨by show (0 : Nat) ≠ 50; decide, h⟩
  | x :: l, i, st, h => by
    unfold puts
    split
    · exact puts_still o l _ _ h
    · split
      · exact puts_still o l _ _ (write_still h _ _).2
      · exact write_still h _ _
theorem andT_still {r : Nat × St} {f : St → Nat × St} (h : Still r) (hf : ∀ s, s.left = -1 → Still (f s)) : Still (andT r f) := by
  unfold andT
  split
  · exact hf _ h.2
  · exact h
theorem putsT_still (o : Nat) (t : ByteArray) : ∀ (n i : Nat) (st : St), st.left = -1 → Still (putsT o t n i st)
  | 0, _, _, h => ⟨by show (0 : Nat) ≠ 50; decide, h⟩
  | n + 1, i, _, h => andT_still (write_still h _ _) (fun s hs => putsT_still o t n (i + 1) s hs)
theorem saveAt_still {st : St} (h : st.left = -1) (a g : Nat) (t : ByteArray) : Still (saveAt a g t st) := by
  unfold saveAt
  exact andT_still (andT_still (andT_still (andT_still (andT_still (write_still h _ _) (fun s hs => (sync_still hs).1)) (fun s hs => putsT_still _ _ _ _ s hs)) (fun s hs => (sync_still hs).1)) (fun s hs => write_still hs _ _)) (fun s hs => (sync_still hs).1)
theorem save_still {st : St} (h : st.left = -1) (o n : Int) (g : Nat) (t : ByteArray) : Still (st.save o n g t) := by
  unfold St.save
  split
  · exact ⟨by show (2 : Nat) ≠ 50; decide, h⟩
  · split
    · exact ⟨by show (2 : Nat) ≠ 50; decide, h⟩
    · split
      · exact ⟨by show (4 : Nat) ≠ 50; decide, h⟩
      · exact saveAt_still h _ _ _
theorem made_still (o : Nat) (l : List (ByteArray × ByteArray)) {st : St} (h : st.left = -1) : Still (made o l st) := by
  unfold made
  split
  · exact puts_still _ _ _ _ h
  · split
    · exact ⟨by show (0 : Nat) ≠ 50; decide, (puts_still _ _ _ _ h).2⟩
    · exact (sync_still (puts_still _ _ _ _ h).2).1
theorem open_still {st : St} (h : st.left = -1) (o n : Nat) : (walOpen st o n).1.1 ≠ 50 ∧ (walOpen st o n).2.left = -1 := by
  have h1 := made_still o (prs n (fun i => st.at (o + i)) (fun i => recount (st.at (o + i)) (kept (reads st o n)) i)) h
  have h2 := made_still o (prs n (fun i => recount (st.at (o + i)) (kept (reads st o n)) i) (fun i => blkOf (kept (reads st o n)) i)) h1.2
  unfold walOpen
  rw [if_neg (by rw [h]; decide)]
  split
  · exact ⟨by show (60 : Nat) ≠ 50; decide, h⟩
  · split
    · exact h1
    · split
      · exact h2
      · exact ⟨by show (0 : Nat) ≠ 50; decide, h2.2⟩
theorem append_still {st : St} (h : st.left = -1) (o n : Nat) (s t : ByteArray) : (walAppend st o n s t).1 ≠ 50 ∧ (walAppend st o n s t).2.2.left = -1 := by
  have h1 := puts_still o (prs n (blkOf s) (blkOf (s ++ frm t))) 0 st h
  unfold walAppend
  split
  · exact ⟨by show (4 : Nat) ≠ 50; decide, h⟩
  · split
    · exact ⟨by show (6 : Nat) ≠ 50; decide, h⟩
    · split
      · exact h1
      · exact ⟨by show (0 : Nat) ≠ 50; decide, h1.2⟩
/-- A record is appended, where nothing stands still. -/
theorem Hale.append_still {ck lg L : Nat} {st : St} {p : Past} (hc : Conf ck lg L) (h : Hale ck lg L st p) (hl : st.left = -1) (t : ByteArray) (ht : t.size ≤ 65536) (hf : (cat p.all).size + (t.size + 8) ≤ lg * 255) :
    ∃ st', stoAppend st ck lg ⟨p.gen, cat p.all, false⟩ t = (0, ⟨p.gen, cat (p.all ++ [t]), false⟩, st') ∧ Hale ck lg L st' ⟨p.gen, p.text, p.all ++ [t], p.sure⟩ ∧ st'.left = -1 := by
  have hs := Go.Proofs.YtchhojkhfdkhfaaGreatDoor.append_still hl (lo ck lg p.gen) lg (cat p.all) t
  have hu : stoAppend st ck lg ⟨p.gen, cat p.all, false⟩ t = ((walAppend st (lo ck lg p.gen) lg (cat p.all) t).1, Sto.told ⟨p.gen, (walAppend st (lo ck lg p.gen) lg (cat p.all) t).2.1, false⟩ (walAppend st (lo ck lg p.gen) lg (cat p.all) t).1, (walAppend st (lo ck lg p.gen) lg (cat p.all) t).2.2) := by
    unfold stoAppend
    rw [if_neg (by simp)]
  rcases h.append hc t with ⟨c, h1, h2⟩ | ⟨st', h1, h2⟩ | ⟨st', h1, _⟩
  · have e : (walAppend st (lo ck lg p.gen) lg (cat p.all) t).1 = c := by rw [hu] at h2; exact (Prod.mk.inj h2).1
    unfold walAppend at e
    rw [if_neg (by omega), if_neg (by omega)] at e
    exfalso
    rcases puts_some (lo ck lg p.gen) (prs lg (blkOf (cat p.all)) (blkOf (cat p.all ++ frm t))) 0 st (by rw [prs_length]; have := h.long; have := lo_fit hc p.gen; omega) (prs_full fun k _ => blkOf_size _ _) with ⟨W, c', p1, p2, p3, _⟩
    split at e
    · have e : (puts (lo ck lg p.gen) (prs lg (blkOf (cat p.all)) (blkOf (cat p.all ++ frm t))) 0 st).1 = c := e
      rcases p3 with h5 | h5
      · have := h5.1; omega
      · have : (puts (lo ck lg p.gen) (prs lg (blkOf (cat p.all)) (blkOf (cat p.all ++ frm t))) 0 st).1 = 50 := h5; omega
    · have e : (0 : Nat) = c := e
      omega
  · refine ⟨st', h1, h2, ?_⟩
    rw [hu] at h1
    rw [← (Prod.mk.inj (Prod.mk.inj h1).2).2]
    exact hs.2
  · rw [hu] at h1
    exact absurd (Prod.mk.inj h1).1 hs.1
theorem Hale.sync_still {ck lg L : Nat} {st : St} {p : Past} (hc : Conf ck lg L) (h : Hale ck lg L st p) (hl : st.left = -1) :
    ∃ st', stoSync st ⟨p.gen, cat p.all, false⟩ = (0, ⟨p.gen, cat p.all, false⟩, st') ∧ Hale ck lg L st' ⟨p.gen, p.text, p.all, p.all.length⟩ ∧ st'.left = -1 := by
  have hs := Go.Proofs.YtchhojkhfdkhfaaGreatDoor.sync_still hl
  have hu : stoSync st ⟨p.gen, cat p.all, false⟩ = (st.sync.1, Sto.told ⟨p.gen, cat p.all, false⟩ st.sync.1, st.sync.2) := by
    unfold stoSync
    rw [if_neg (by simp)]
  rcases h.sync hc with ⟨st', h1, h2⟩ | h1
  · refine ⟨st', h1, h2, ?_⟩
    rw [hu] at h1
    rw [← (Prod.mk.inj (Prod.mk.inj h1).2).2]
    exact hs.1.2
  · rw [hu] at h1
    exact absurd (Prod.mk.inj h1).1 hs.1.1
theorem Hale.trim_still {ck lg L : Nat} {st : St} {p : Past} (hc : Conf ck lg L) (h : Hale ck lg L st p) (hl : st.left = -1) (hg : 1 ≤ p.gen ∧ p.gen < 4611686018427387904) (t : ByteArray) (ht : t.size ≤ (ck - 1) * 256) :
    ∃ st', stoTrim st ck lg ⟨p.gen, cat p.all, false⟩ t = (0, ⟨p.gen + 1, cat [], false⟩, st') ∧ Hale ck lg L st' ⟨p.gen + 1, t, [], 0⟩ ∧ st'.left = -1 := by
  have h2 := hc.ck2
  have h256 := hc.ck256
  have hr : room (2 * (ck : Int)) = ((2 * (ck : Int)) / 2 - 1) * 256 := by unfold room; rw [if_neg (by omega)]
  have k1 := clear_still hl (lo ck lg (p.gen + 1)) lg
  have k2 := save_still k1.2 0 (2 * (ck : Int)) (p.gen + 1) t
  have k3 := open_still k2.2 (lo ck lg (p.gen + 1)) lg
  have hs : (stoTrim st ck lg ⟨p.gen, cat p.all, false⟩ t).1 ≠ 50 ∧ (stoTrim st ck lg ⟨p.gen, cat p.all, false⟩ t).2.2.left = -1 := by
    unfold stoTrim
    rw [if_neg (by simp), if_neg (show ¬ 4611686018427387904 ≤ p.gen by omega)]
    split
    · exact ⟨by show (4 : Nat) ≠ 50; decide, hl⟩
    · split
      · exact ⟨k1.1, k1.2⟩
      · split
        · exact ⟨k2.1, k2.2⟩
        · split
          · exact ⟨k3.1, k3.2⟩
          · exact ⟨by show (0 : Nat) ≠ 50; decide, k3.2⟩
  rcases h.trim hc hg t with ⟨h1, _⟩ | ⟨st', h1, h2⟩ | ⟨st', h1, _⟩
  · rw [hr] at h1; omega
  · refine ⟨st', h1, h2, ?_⟩
    have := hs.2
    rw [h1] at this
    exact this
  · have := hs.1
    rw [h1] at this
    exact absurd rfl this
/-- With nothing picked a crash leaves what is sure. -/
theorem crash_nothing {st : St} (h : st.Ok) : st.crash [] = ⟨st.sure, [], -1⟩ := by
  unfold St.crash
  rw [crashed_nothing _ _ _ h.there]
theorem Hale.bare {ck lg L : Nat} {st : St} {p : Past} (h : Hale ck lg L st p) : Found ck lg st.sure ⟨p.gen, p.text, p.all.take p.sure, p.sure⟩ := by
  have hs := h.well.hold.some
  have hlt : (p.all.take p.sure).length = p.sure := by rw [List.length_take]; omega
  have hle := ends_le p.all p.sure
  have hfit := h.well.hold.fits
  have hct := cat_take p.all p.sure
  refine ⟨h.keep, ⟨fun t ht => h.well.hold.short t (List.mem_of_mem_take ht), ?_, by show p.sure ≤ (p.all.take p.sure).length; omega⟩, fun k hk => ?_⟩
  · show (cat (p.all.take p.sure)).size ≤ lg * 255
    unfold ends at hle
    omega
  · show Fine (cat (p.all.take p.sure)) (ends (p.all.take p.sure) p.sure) k (st.sure.getD (lo ck lg p.gen + k) noText)
    rw [h.well.hold.sure k hk]
    refine ⟨(cat (p.all.take p.sure)).size, ends_le _ _, Nat.le_refl _, ?_⟩
    have := Good.pre (cat (p.all.take p.sure)) k (cat (p.all.take p.sure)).size (Nat.le_refl _)
    rw [pre_all] at this
    exact this
/-- What is opened behind a crash with nothing picked. -/
theorem Hale.crash_open {ck lg L : Nat} {st : St} {p : Past} (hc : Conf ck lg L) (h : Hale ck lg L st p) (hg : 1 ≤ p.gen ∧ p.gen ≤ 4611686018427387904) :
    ∃ st', stoOpen (st.crash []) (ck : Int) (lg : Int) = ((0, p.gen, p.text, cat (p.all.take p.sure), p.all.take p.sure), st') ∧ Hale ck lg L st' ⟨p.gen, p.text, p.all.take p.sure, p.sure⟩ ∧ st'.left = -1 := by
  have hs := h.well.hold.some
  have hlt : (p.all.take p.sure).length = p.sure := by rw [List.length_take]; omega
  rw [crash_nothing h.ok]
  obtain ⟨r, st', h1, h2, h3, h4, h5⟩ := h.bare.open hc h.long hg
  have h1 : p.sure ≤ r := h1
  have h2 : r ≤ (p.all.take p.sure).length := h2
  have hr : r = p.sure := by omega
  subst hr
  simp only [List.take_take, Nat.min_self] at h3 h4
  exact ⟨st', h3, h4, h5⟩
/-- The first Save, on a disk whose first block is bytes 0. -/
theorem keepS_first (N : Nat) (h4 : 4 ≤ N) (S : List ByteArray) (hfull : ∀ x ∈ S, x.size = 256) (hlen : N ≤ S.length) (hz : S.getD 0 noText = zblock) (t : ByteArray) (ht : t.size ≤ (N / 2 - 1) * 256) :
    ∃ S', saveAt (slN N 1) 1 t ⟨S, [], -1⟩ = (0, ⟨S', [], -1⟩) ∧ S'.length = S.length ∧ KeepS N S' 1 t ∧ ∀ j, N ≤ j → S'.getD j noText = S.getD j noText := by
  have hnb := nb_fit ht h4
  have h1 : slN N 1 = N / 2 := by unfold slN; simp
  have h0 : slN N (1 + 1) = 0 := by unfold slN; simp
  rcases save_cases (slN N 1) 1 t S (-1) (by omega) (by omega) with ⟨l2, e, b1, b2⟩ | ⟨l2, e, b1, b2⟩ | ⟨j, l2, hj, e, b1, b2⟩ | ⟨l2, e, b1, b2⟩ | ⟨l2, e, b1⟩ | ⟨l2, e, b1⟩
  · omega
  · omega
  · omega
  · omega
  · omega
  · have hl2 : l2 = -1 := by omega
    subst hl2
    have hS1 : ∀ x ∈ S.set (slN N 1) zblock, x.size = 256 := full_set hfull _ _ zblock_size
    have hS2 : ∀ x ∈ laid (S.set (slN N 1) zblock) (tws (slN N 1 + 1) t 0 (nb t.size)), x.size = 256 := laid_full _ _ hS1 (fun w hw => (tws_mem hw).2.2)
    have hl2 : (laid (S.set (slN N 1) zblock) (tws (slN N 1 + 1) t 0 (nb t.size))).length = S.length := by rw [laid_length, List.length_set]
    refine ⟨_, e, by rw [List.length_set, hl2], ⟨full_set hS2 _ _ (headT_size _ _), by rw [List.length_set, hl2]; exact hlen, ht, getD_set_same _ _ _ (by omega), fun i hi => ?_, ?_⟩, fun j hj => ?_⟩
    · rw [getD_set_other _ _ _ _ (by omega)]
      exact laid_tws _ t (nb t.size) 0 _ (by rw [List.length_set]; omega) i (by omega) (by omega)
    · rw [h0, getD_set_other _ _ _ _ (by omega), laid_other7 _ _ _ (fun w hw => by have := tws_mem hw; omega), getD_set_other _ _ _ _ (by omega), hz]
      exact Oth.zero
    · rw [getD_set_other _ _ _ _ (by omega), laid_other7 _ _ _ (fun w hw => by have := tws_mem hw; omega), getD_set_other _ _ _ _ (by omega)]
theorem load_none (S : List ByteArray) (N : Nat) (h4 : 4 ≤ N) (hN : N ≤ 4096) (he : N % 2 = 0) (hl : N ≤ S.length) (hz : ∀ j, j < N → S.getD j noText = zblock) : (⟨S, [], -1⟩ : St).load 0 (N : Int) = ((0, noText), 5) := by
  have hr : room (N : Int) ≠ 0 := by unfold room; rw [if_neg (by omega)]; omega
  have hm : (⟨S, [], -1⟩ : St).mayC 0 (N : Int) := ⟨hr, by omega, by show (0 : Int) ≤ (S.length : Int) - N; omega⟩
  have hw : ∀ a k odd, 0 < k → a + k ≤ N → (wholeT (blocksAt ⟨S, [], -1⟩ a k) odd).1 = 0 := fun a k odd hk ha => by
    have := whole_less (blocksAt ⟨S, [], -1⟩ a k) odd 1 (by decide) (by
      rw [blocks_getD _ _ _ 0 hk rfl]
      show Oth (S.getD (a + 0) noText) 1
      rw [hz _ (by omega)]
      exact Oth.zero)
    omega
  have hs : ∀ k, slotAt 0 (N : Int) k = slN N k := fun k => by unfold slotAt slN; simp
  have h0 := slN_le N 0
  have h1 := slN_le N 1
  unfold St.load
  rw [if_neg (fun hh => hh hm), if_neg (show ¬ (-1 : Int) = 0 by decide)]
  simp only [hs, Int.toNat_natCast]
  rw [if_pos ⟨hw _ _ _ (by omega) (by omega), hw _ _ _ (by omega) (by omega)⟩]
theorem new_at (L j : Nat) (h : j < L) : (List.replicate L zblock).getD j noText = zblock := by
  rw [List.getD_eq_getElem?_getD, List.getElem?_replicate, if_pos h]
  rfl
/-- Make, on a new disk. -/
theorem make_new {ck lg L : Nat} (hc : Conf ck lg L) : ∃ st', stoMake (St.new L) (ck : Int) (lg : Int) = (0, st') ∧ Hale ck lg L st' ⟨1, noText, [], 0⟩ ∧ st'.loose = [] ∧ st'.left = -1 := by
  have h2 := hc.ck2
  have h256 := hc.ck256
  have hfit := hc.fit
  have hlf := lo_fit hc 1
  have hL : (List.replicate L zblock).length = L := List.length_replicate ..
  have hfull : ∀ x ∈ List.replicate L zblock, x.size = 256 := fun x hx => by rw [List.eq_of_mem_replicate hx]; exact zblock_size
  have hok : (St.new L).Ok := ⟨by show (List.replicate L zblock).length ≤ 4096; rw [hL]; exact hc.few, by show 1 ≤ (List.replicate L zblock).length; rw [hL]; omega, hfull, fun w hw => absurd hw (by simp [St.new]), ⟨Int.le_refl (-1), by show (-1 : Int) ≤ 9223372036854775807; decide⟩⟩
  have e2 : (2 * (ck : Int)) = ((2 * ck : Nat) : Int) := by omega
  have hld := load_none (List.replicate L zblock) (2 * ck) (by omega) (by omega) (by omega) (by rw [hL]; omega) (fun j hj => new_at L j (by omega))
  have k1 := clear_still (st := St.new L) rfl (lo ck lg 1) lg
  have hokC := clear_ok hok (lo ck lg 1) lg
  unfold stoMake
  rw [if_neg (fun x => x (conf_may hc _ hL)), e2]
  rw [show (St.new L).load 0 ((2 * ck : Nat) : Int) = ((0, noText), 5) from hld]
  rw [if_neg (by decide), if_neg (fun x => x rfl), Int.toNat_natCast, Int.toNat_natCast]
  rcases clear_cases (lo ck lg 1) lg (St.new L) (by show _ ≤ (List.replicate L zblock).length; rw [hL]; omega) with ⟨W, c, e, hW⟩ | ⟨c, e⟩
  · rw [e] at k1
    exact absurd rfl k1.1
  · rw [e] at k1 hokC ⊢
    have hcl : c = -1 := k1.2
    subst hcl
    have hrep : ∀ j, j < L → (laid (laid (St.new L).sure (St.new L).loose) (zw (lo ck lg 1) lg)).getD j noText = zblock := fun j hj => by
      by_cases hin : lo ck lg 1 ≤ j ∧ j < lo ck lg 1 + lg
      · have := laid_zw lg (lo ck lg 1) (laid (St.new L).sure (St.new L).loose) (by rw [laid_length]; show _ ≤ (List.replicate L zblock).length; rw [hL]; omega) (j - lo ck lg 1) (by omega)
        rw [show lo ck lg 1 + (j - lo ck lg 1) = j from by omega] at this
        exact this
      · rw [laid_other7 _ _ _ (fun w hw => by have := zw_mem hw; omega)]
        exact new_at L j hj
    obtain ⟨S1, hS1⟩ : ∃ S1, S1 = laid (laid (St.new L).sure (St.new L).loose) (zw (lo ck lg 1) lg) := ⟨_, rfl⟩
    have hlen1 : S1.length = L := by rw [hS1, laid_length, laid_length]; exact hL
    simp only [← hS1] at hokC hrep ⊢
    obtain ⟨S', q1, q2, q3, q4⟩ := keepS_first (2 * ck) (by omega) S1 hokC.full (by omega) (hrep 0 (by omega)) noText (Nat.zero_le _)
    have hsv : (⟨S1, [], -1⟩ : St).save 0 ((2 * ck : Nat) : Int) 1 noText = (0, ⟨S', [], -1⟩) := by
      rw [← e2, save_is h2 h256 (by show 2 * ck ≤ S1.length; omega) (by decide) (Nat.zero_le _)]
      exact q1
    have hz : ∀ k, k < lg → S'.getD (lo ck lg 1 + k) noText = blkOf (cat []) k := fun k hk => by
      rw [q4 _ (by omega), hrep _ (by omega), zeros_good]
    have hokS : (⟨S', [], -1⟩ : St).Ok := by
      have := saveAt_ok hokC (slN (2 * ck) 1) 1 noText
      rw [q1] at this
      exact this
    refine ⟨⟨S', [], -1⟩, ?_, ⟨hokS, by show S'.length = L; omega, q3, ⟨⟨fun x hx => absurd hx (by simp), Nat.zero_le _, Nat.le_refl _, by show lo ck lg 1 + lg ≤ S'.length; omega, hz, trivial⟩, hz, fun w hw => absurd hw (by simp)⟩⟩, rfl, rfl⟩
    unfold andT
    rw [if_pos rfl]
    exact hsv
/-- Make, where there is one. -/
theorem make_there {ck lg L : Nat} {st : St} {p : Past} (hc : Conf ck lg L) (h : Hale ck lg L st p) (hl : st.loose = []) (hf : st.left = -1) (hg : 1 ≤ p.gen ∧ p.gen ≤ 4611686018427387904) : stoMake st (ck : Int) (lg : Int) = (7, st) := by
  have h2 := hc.ck2
  have h256 := hc.ck256
  obtain ⟨S, l, c⟩ := st
  have hl : l = [] := hl
  have hf : c = -1 := hf
  subst hl hf
  have e2 : (2 * (ck : Int)) = ((2 * ck : Nat) : Int) := by omega
  have hld := h.keep.load (-1) (by decide) (by omega) (by omega) (by omega) hg
  unfold stoMake
  rw [if_neg (fun x => x (conf_may hc _ h.long)), e2, hld, if_pos rfl]
/-- Open, where nothing is loose. -/
theorem Hale.open_bare {ck lg L : Nat} {st : St} {p : Past} (hc : Conf ck lg L) (h : Hale ck lg L st p) (hl : st.loose = []) (hf : st.left = -1) (hs : p.sure = p.all.length) (hg : 1 ≤ p.gen ∧ p.gen ≤ 4611686018427387904) :
    ∃ st', stoOpen st (ck : Int) (lg : Int) = ((0, p.gen, p.text, cat p.all, p.all), st') ∧ Hale ck lg L st' ⟨p.gen, p.text, p.all, p.all.length⟩ ∧ st'.left = -1 := by
  have e : st.crash [] = st := by
    rw [crash_nothing h.ok]
    obtain ⟨S, l, c⟩ := st
    have hl : l = [] := hl
    have hf : c = -1 := hf
    subst hl hf
    rfl
  have := h.crash_open hc hg
  rw [e, hs, List.take_length] at this
  exact this
end Go.Proofs.YtchhojkhfdkhfaaGreatDoor
namespace Go.Proofs.YtchhojkhfdkhfaaGreatDoor
open Frm
theorem conf82 : Conf 2 2 8 := ⟨by decide, by decide, by decide, by decide, by decide, by decide⟩
def aT : ByteArray := ⟨#[97]⟩
def bT8 : ByteArray := ⟨#[98]⟩
def cT8 : ByteArray := ⟨#[99]⟩
def xyT : ByteArray := ⟨#[120, 121]⟩
/-- A disk of eight blocks. -/
structure G8 (st : St) : Prop where
  ok : st.Ok
  long : st.sure.length = 8
  few : st.loose.length ≤ 1000
structure Chain (st1 st2 st3 st4 st5 st6 st7 st8 st9 st10 : St) : Prop where
  g1 : G8 st1
  g2 : G8 st2
  g3 : G8 st3
  g4 : G8 st4
  g5 : G8 st5
  g6 : G8 st6
  g7 : G8 st7
  g8 : G8 st8
  g9 : G8 st9
  g10 : G8 st10
  c5 : G8 (st5.crash [])
  c9 : G8 (st9.crash [])
  m1 : stoMake (St.new 8) 2 2 = (0, st1)
  m2 : stoMake st1 2 2 = (7, st1)
  o1 : stoOpen st1 2 2 = ((0, 1, noText, cat [], []), st2)
  a1 : stoAppend st2 2 2 ⟨1, cat [], false⟩ aT = (0, ⟨1, cat [aT], false⟩, st3)
  y1 : stoSync st3 ⟨1, cat [aT], false⟩ = (0, ⟨1, cat [aT], false⟩, st4)
  a2 : stoAppend st4 2 2 ⟨1, cat [aT], false⟩ bT8 = (0, ⟨1, cat [aT, bT8], false⟩, st5)
  o2 : stoOpen (st5.crash []) 2 2 = ((0, 1, noText, cat [aT], [aT]), st6)
  t1 : stoTrim st6 2 2 ⟨1, cat [aT], false⟩ xyT = (0, ⟨2, cat [], false⟩, st7)
  a3 : stoAppend st7 2 2 ⟨2, cat [], false⟩ cT8 = (0, ⟨2, cat [cT8], false⟩, st8)
  y2 : stoSync st8 ⟨2, cat [cT8], false⟩ = (0, ⟨2, cat [cT8], false⟩, st9)
  o3 : stoOpen (st9.crash []) 2 2 = ((0, 2, xyT, cat [cT8], [cT8]), st10)
theorem crash_g8 {st : St} (h : G8 st) : G8 (st.crash []) := ⟨h.ok.crash [], by rw [crash_nothing h.ok]; exact h.long, by rw [crash_few]; decide⟩
theorem toNat2 : (2 : Int).toNat = 2 := rfl
theorem chain : ∃ st1 st2 st3 st4 st5 st6 st7 st8 st9 st10, Chain st1 st2 st3 st4 st5 st6 st7 st8 st9 st10 := by
  obtain ⟨st1, e1, h1, l1, f1⟩ := make_new conf82
  have e1 : stoMake (St.new 8) 2 2 = (0, st1) := e1
  have t1 : stoMake st1 2 2 = (7, st1) := make_there conf82 h1 l1 f1 (by decide)
  have g1 : G8 st1 := ⟨h1.ok, h1.long, by rw [l1]; decide⟩
  obtain ⟨st2, e2, h2, f2⟩ := h1.open_bare conf82 l1 f1 rfl (by decide)
  have e2 : stoOpen st1 2 2 = ((0, 1, noText, cat [], []), st2) := e2
  have h2 : Hale 2 2 8 st2 ⟨1, noText, [], 0⟩ := h2
  have g2 : G8 st2 := ⟨h2.ok, h2.long, by have := stoOpen_few st1 2 2; rw [e2, toNat2, l1] at this; exact Nat.le_trans this (by decide)⟩
  obtain ⟨st3, e3, h3, f3⟩ := h2.append_still conf82 f2 aT (by decide) (by decide)
  have e3 : stoAppend st2 2 2 ⟨1, cat [], false⟩ aT = (0, ⟨1, cat [aT], false⟩, st3) := e3
  have h3 : Hale 2 2 8 st3 ⟨1, noText, [aT], 0⟩ := h3
  have q3 : st3.loose.length ≤ st2.loose.length + 2 := by have := stoAppend_few st2 2 2 ⟨1, cat [], false⟩ aT; rw [e3] at this; exact this
  have q2 : st2.loose.length ≤ 4 := by have := stoOpen_few st1 2 2; rw [e2, toNat2, l1] at this; exact this
  obtain ⟨st4, e4, h4, f4⟩ := h3.sync_still conf82 f3
  have e4 : stoSync st3 ⟨1, cat [aT], false⟩ = (0, ⟨1, cat [aT], false⟩, st4) := e4
  have h4 : Hale 2 2 8 st4 ⟨1, noText, [aT], 1⟩ := h4
  have q4 : st4.loose.length ≤ st3.loose.length := by have := stoSync_few st3 ⟨1, cat [aT], false⟩; rw [e4] at this; exact this
  obtain ⟨st5, e5, h5, f5⟩ := h4.append_still conf82 f4 bT8 (by decide) (by decide)
  have e5 : stoAppend st4 2 2 ⟨1, cat [aT], false⟩ bT8 = (0, ⟨1, cat [aT, bT8], false⟩, st5) := e5
  have h5 : Hale 2 2 8 st5 ⟨1, noText, [aT, bT8], 1⟩ := h5
  have q5 : st5.loose.length ≤ st4.loose.length + 2 := by have := stoAppend_few st4 2 2 ⟨1, cat [aT], false⟩ bT8; rw [e5] at this; exact this
  have g5 : G8 st5 := ⟨h5.ok, h5.long, by omega⟩
  obtain ⟨st6, e6, h6, f6⟩ := h5.crash_open conf82 (by decide)
  have e6 : stoOpen (st5.crash []) 2 2 = ((0, 1, noText, cat [aT], [aT]), st6) := e6
  have h6 : Hale 2 2 8 st6 ⟨1, noText, [aT], 1⟩ := h6
  have q6 : st6.loose.length ≤ 4 := by have := stoOpen_few (st5.crash []) 2 2; rw [e6, toNat2, crash_few] at this; exact this
  obtain ⟨st7, e7, h7, f7⟩ := h6.trim_still conf82 f6 (by decide) xyT (by decide)
  have e7 : stoTrim st6 2 2 ⟨1, cat [aT], false⟩ xyT = (0, ⟨2, cat [], false⟩, st7) := e7
  have h7 : Hale 2 2 8 st7 ⟨2, xyT, [], 0⟩ := h7
  have q7 : st7.loose.length ≤ st6.loose.length + 6 + 1 + 2 := by have := stoTrim_few st6 2 2 ⟨1, cat [aT], false⟩ xyT; rw [e7] at this; exact this
  obtain ⟨st8, e8, h8, f8⟩ := h7.append_still conf82 f7 cT8 (by decide) (by decide)
  have e8 : stoAppend st7 2 2 ⟨2, cat [], false⟩ cT8 = (0, ⟨2, cat [cT8], false⟩, st8) := e8
  have h8 : Hale 2 2 8 st8 ⟨2, xyT, [cT8], 0⟩ := h8
  have q8 : st8.loose.length ≤ st7.loose.length + 2 := by have := stoAppend_few st7 2 2 ⟨2, cat [], false⟩ cT8; rw [e8] at this; exact this
  obtain ⟨st9, e9, h9, f9⟩ := h8.sync_still conf82 f8
  have e9 : stoSync st8 ⟨2, cat [cT8], false⟩ = (0, ⟨2, cat [cT8], false⟩, st9) := e9
  have h9 : Hale 2 2 8 st9 ⟨2, xyT, [cT8], 1⟩ := h9
  have q9 : st9.loose.length ≤ st8.loose.length := by have := stoSync_few st8 ⟨2, cat [cT8], false⟩; rw [e9] at this; exact this
  have g9 : G8 st9 := ⟨h9.ok, h9.long, by omega⟩
  obtain ⟨st10, e10, h10, f10⟩ := h9.crash_open conf82 (by decide)
  have e10 : stoOpen (st9.crash []) 2 2 = ((0, 2, xyT, cat [cT8], [cT8]), st10) := e10
  have q10 : st10.loose.length ≤ 4 := by have := stoOpen_few (st9.crash []) 2 2; rw [e10, toNat2, crash_few] at this; exact this
  exact ⟨st1, st2, st3, st4, st5, st6, st7, st8, st9, st10, ⟨g1, g2, ⟨h3.ok, h3.long, by omega⟩, ⟨h4.ok, h4.long, by omega⟩, g5, ⟨h6.ok, h6.long, by omega⟩, ⟨h7.ok, h7.long, by omega⟩, ⟨h8.ok, h8.long, by omega⟩, g9, ⟨h10.ok, h10.long, by omega⟩, crash_g8 g5, crash_g8 g9, e1, t1, e2, e3, e4, e5, e6, e7, e8, e9, e10⟩⟩
end Go.Proofs.YtchhojkhfdkhfaaGreatDoor
namespace Go.Proofs.YtchhojkhfdkhfaaGreatDoor
open Go Go.RowKit Frm Go.Shelf
theorem info23 : (Tryz.prog.info? 23).map (·.size) = some 2 := by kernel_rfl
theorem small_any (w : World) : Calls Tryz.prog 28 #[] w fun e v => e = .returned (confV 2 2) ∧ Below w.heap.size w v := by
  go_enter Tryz.func28, Tryz.ntmps28
  go_wp2
  exact bodyPost_ret (results_cell_row Tryz.results28 _ _ w.heap.size 23 _ (0, 0) _ rfl (heap_alloc_last w _) Tryz.underlying23 rfl info23) rfl ⟨rfl, one_below _ _⟩
/-- The box of what is kept. -/
structure Bk (w : World) (B : Nat) (u : World) : Prop where
  low : w.heap.size ≤ B
  box : ∃ v0 v1 v2, u.heap[B]? = some (.cells #[v0, v1, v2] 61 (0, 0))
theorem Bk.lt {w : World} {B : Nat} {u : World} (h : Bk w B u) : B < u.heap.size := by
  obtain ⟨_, v0, v1, v2, h⟩ := h
  exact (Array.getElem?_eq_some_iff.1 h).1
theorem Bk.below {w : World} {B : Nat} {u v : World} (h : Bk w B u) (hb : Below u.heap.size u v) : Bk w B v := ⟨h.low, by
  obtain ⟨v0, v1, v2, e⟩ := h.box
  exact ⟨v0, v1, v2, (hb.block B h.lt).trans e⟩⟩
theorem Bk.loc {w : World} {B : Nat} {u v : World} {A A' : Nat → Prop} (h : Bk w B u) (hn : ¬ A B) (hl : Loc A A' u v) : Bk w B v ∧ ¬ A' B := by
  refine ⟨⟨h.low, ?_⟩, fun hf => ?_⟩
  · obtain ⟨v0, v1, v2, e⟩ := h.box
    exact ⟨v0, v1, v2, (hl.block B h.lt hn).trans e⟩
  · rcases hl.own B hf with h1 | h1
    · exact hn h1
    · have := h.lt; omega
theorem Bk.cells {w : World} {B : Nat} {u : World} (h : Bk w B u) : ∃ v0 v1 v2, (u.cell? ⟨B, 0, none⟩ = some v0 ∧ u.cell? ⟨B, 1, none⟩ = some v1 ∧ u.cell? ⟨B, 2, none⟩ = some v2) ∧ ∀ i, u.frozen? ⟨B, i, none⟩ = false := by
  obtain ⟨v0, v1, v2, e⟩ := h.box
  refine ⟨v0, v1, v2, ⟨?_, ?_, ?_⟩, fun i => by simp [World.frozen?, e]⟩ <;> simp [World.cell?, e]
theorem Bk.set {w : World} {B : Nat} {u : World} (h : Bk w B u) (x y z : Value) : Bk w B (((u.setCell ⟨B, 0, none⟩ x).setCell ⟨B, 1, none⟩ y).setCell ⟨B, 2, none⟩ z) := ⟨h.low, by
  obtain ⟨v0, v1, v2, e⟩ := h.box
  exact ⟨x, y, z, heap_set3 (i := 2) (heap_set3 (i := 1) (heap_set3 (i := 0) e x) y) z⟩⟩
theorem set3_block (u : World) (B : Nat) (x y z : Value) (k : Nat) (h : k ≠ B) : (((u.setCell ⟨B, 0, none⟩ x).setCell ⟨B, 1, none⟩ y).setCell ⟨B, 2, none⟩ z).heap[k]? = u.heap[k]? := by
  rw [Below.heap_setCell _ ⟨B, 2, none⟩ z k h, Below.heap_setCell _ ⟨B, 1, none⟩ y k h, Below.heap_setCell _ ⟨B, 0, none⟩ x k h]
theorem set3_below {w u : World} (h : Below w.heap.size w u) (B : Nat) (hB : w.heap.size ≤ B) (x y z : Value) : Below w.heap.size w (((u.setCell ⟨B, 0, none⟩ x).setCell ⟨B, 1, none⟩ y).setCell ⟨B, 2, none⟩ z) :=
  ((h.setCell (p := ⟨B, 0, none⟩) hB x).setCell (p := ⟨B, 1, none⟩) hB y).setCell (p := ⟨B, 2, none⟩) hB z
/-- A disk of the caller's own, and the box. -/
structure Ak (w : World) (q : Nat) (st : St) (F : Nat → Prop) (B : Nat) (u : World) : Prop where
  al : Al8 w q st F u
  bx : Bk w B u
  free : ¬ F B
/-- A store of the caller's own, and the box. -/
structure Sk (PS : World → Nat → Nat → Nat → Nat → Sto → St → (Nat → Prop) → Prop) (w : World) (p q : Nat) (s : Sto) (st : St) (A : Nat → Prop) (B : Nat) (u : World) : Prop where
  sl : Sl8 PS w p q 2 2 s st A u
  bx : Bk w B u
  free : ¬ A B
theorem Ak.step {w : World} {q : Nat} {st st' : St} {F F' : Nat → Prop} {B : Nat} {u v : World} (h : Ak w q st F B u) (hd : DAt v q st' F') (hl : Loc F F' u v) : Ak w q st' F' B v :=
  ⟨h.al.step hd hl, (h.bx.loc h.free hl).1, (h.bx.loc h.free hl).2⟩
theorem Ak.keep {w : World} {q : Nat} {st : St} {F : Nat → Prop} {B : Nat} {u v : World} (h : Ak w q st F B u) (hb : Below u.heap.size u v) : Ak w q st F B v := ⟨h.al.keep hb, h.bx.below hb, h.free⟩
theorem Ak.opened {PS : World → Nat → Nat → Nat → Nat → Sto → St → (Nat → Prop) → Prop} {w : World} {p q : Nat} {s : Sto} {st st' : St} {F A : Nat → Prop} {B : Nat} {u v : World} (h : Ak w q st F B u) (hd : PS v p q 2 2 s st' A) (hl : Loc F A u v) : Sk PS w p q s st' A B v :=
  ⟨h.al.opened hd hl, (h.bx.loc h.free hl).1, (h.bx.loc h.free hl).2⟩
theorem Sk.step {PS : World → Nat → Nat → Nat → Nat → Sto → St → (Nat → Prop) → Prop} {w : World} {p q : Nat} {s s' : Sto} {st st' : St} {A A' : Nat → Prop} {B : Nat} {u v : World} (h : Sk PS w p q s st A B u) (hd : PS v p q 2 2 s' st' A') (hl : Loc A A' u v) : Sk PS w p q s' st' A' B v :=
  ⟨h.sl.step hd hl, (h.bx.loc h.free hl).1, (h.bx.loc h.free hl).2⟩
theorem Sk.disk {PS : World → Nat → Nat → Nat → Nat → Sto → St → (Nat → Prop) → Prop} (C : SCon PS) {w : World} {p q : Nat} {s : Sto} {st : St} {A : Nat → Prop} {B : Nat} {u : World} (h : Sk PS w p q s st A B u) : ∃ G, Ak w q st G B u := by
  obtain ⟨G, h1, h2, _⟩ := C.disk h.sl.sto
  exact ⟨G, ⟨h1, h.sl.below, fun k hk => h.sl.new k (h2 k hk)⟩, h.bx, fun hf => h.free (h2 _ hf)⟩
theorem Sk.start {PS : World → Nat → Nat → Nat → Nat → Sto → St → (Nat → Prop) → Prop} (C : SCon PS) {w : World} {p q : Nat} {s : Sto} {st : St} {A : Nat → Prop} {u : World} (h : Sl8 PS w p q 2 2 s st A u) (x y z : Value) : Sk PS w p q s st A u.heap.size (u.alloc (.cells #[x, y, z] 61)) :=
  ⟨⟨C.below h.sto (one_below _ _), bnext h.below (one_below _ _), h.new⟩, ⟨h.below.size, x, y, z, heap_alloc_last u _⟩, fun hf => Nat.lt_irrefl _ (C.lt h.sto _ hf)⟩
theorem Sk.set {PS : World → Nat → Nat → Nat → Nat → Sto → St → (Nat → Prop) → Prop} (C : SCon PS) {w : World} {p q : Nat} {s : Sto} {st : St} {A : Nat → Prop} {B : Nat} {u : World} (h : Sk PS w p q s st A B u) (x y z : Value) : Sk PS w p q s st A B (((u.setCell ⟨B, 0, none⟩ x).setCell ⟨B, 1, none⟩ y).setCell ⟨B, 2, none⟩ z) :=
  ⟨⟨C.same h.sl.sto (fun k hk => set3_block u B x y z k (fun e => h.free (e ▸ hk))), set3_below h.sl.below B h.bx.low x y z, h.sl.new⟩, h.bx.set x y z, h.free⟩
set_option maxRecDepth 10000 in
set_option maxHeartbeats 4000000 in
theorem alive8_any {PS : World → Nat → Nat → Nat → Nat → Sto → St → (Nat → Prop) → Prop} (C : SCon PS) (w : World) : Calls Tryz.prog 9 #[] w fun e w' => e = .returned (.bool true) ∧ Below w.heap.size w w' := by
  obtain ⟨st1, st2, st3, st4, st5, st6, st7, st8, st9, st10, H⟩ := chain
  have K1 := hide (con.new 8 w (by decide) (by decide))
  have KS : Hid (∀ q st F u, Al8 w q st F u → Calls Tryz.prog 28 #[] u fun e v => e = .returned (confV 2 2) ∧ Al8 w q st F v) := fun q st F u h => by
    refine (small_any u).mono ?_
    rintro e v ⟨rfl, hb⟩
    exact ⟨rfl, h.keep hb⟩
  have KS2 : Hid (∀ q st F B u, Ak w q st F B u → Calls Tryz.prog 28 #[] u fun e v => e = .returned (confV 2 2) ∧ Ak w q st F B v) := fun q st F B u h => by
    refine (small_any u).mono ?_
    rintro e v ⟨rfl, hb⟩
    exact ⟨rfl, h.keep hb⟩
  have KB : Hid (∀ q st F u, Al8 w q st F u → Calls Tryz.prog 6 #[confV 2 2] u fun e v => e = .returned (.int .i64 8) ∧ Al8 w q st F v) := fun q st F u h => by
    refine (C.blocks 2 2 u (by decide) (by decide)).mono ?_
    rintro e v ⟨rfl, hb⟩
    exact ⟨rfl, h.keep hb⟩
  have KM1 : Hid (∀ q F u, Al8 w q (St.new 8) F u → Calls Tryz.prog 19 #[.pointer (some ⟨q, 0, none⟩), confV 2 2] u fun e v => e = .returned (.int .i64 0) ∧ ∃ F', Al8 w q st1 F' v) := fun q F u h => by
    have := C.make q (St.new 8) F 2 2 u h.disk (St.Ok.new (by decide) (by decide)) (by decide) (by decide) (by decide) (by decide)
    rw [show stoMake (St.new 8) 2 2 = (0, st1) from H.m1] at this
    refine this.mono ?_
    rintro e v ⟨rfl, F', hd, hl⟩
    exact ⟨rfl, F', h.step hd hl⟩
  have KM2 : Hid (∀ q F u, Al8 w q st1 F u → Calls Tryz.prog 19 #[.pointer (some ⟨q, 0, none⟩), confV 2 2] u fun e v => e = .returned (.int .i64 7) ∧ ∃ F', Al8 w q st1 F' v) := fun q F u h => by
    have := C.make q st1 F 2 2 u h.disk H.g1.ok (by have := H.g1.few; omega) (by rw [H.g1.long]; decide) (by decide) (by decide)
    rw [show stoMake st1 2 2 = (7, st1) from H.m2] at this
    refine this.mono ?_
    rintro e v ⟨rfl, F', hd, hl⟩
    exact ⟨rfl, F', h.step hd hl⟩
  have KO : ∀ (st st' : St) (g : Nat) (x : ByteArray) (rs : List ByteArray), G8 st → stoOpen st 2 2 = ((0, g, x, cat rs, rs), st') →
      Hid (∀ q F u, Al8 w q st F u → Calls Tryz.prog 20 #[.pointer (some ⟨q, 0, none⟩), confV 2 2] u fun e v => ∃ pp a c A, e = .returned (.tuple #[.pointer (some ⟨pp, 0, none⟩), .agg #[.int .u64 (g : Int), .string x, .slice a rs.length c], .int .i64 0]) ∧ Sl8 PS w pp q 2 2 ⟨g, cat rs, false⟩ st' A v ∧ StrsAt v a rs) := fun st st' g x rs hg eo q F u h => by
    have := C.opens q st F 2 2 u h.disk hg.ok (by have := hg.few; omega) (by have := hg.long; omega) (by decide) (by decide)
    rw [eo] at this
    refine this.mono ?_
    rintro e v (⟨_, pp, a, c, A, rfl, hd, hl, hs, _⟩ | ⟨h0, _⟩)
    · exact ⟨pp, a, c, A, rfl, h.opened hd hl, hs⟩
    · exact absurd rfl h0
  have KOk : ∀ (st st' : St) (g : Nat) (x : ByteArray) (rs : List ByteArray), G8 st → stoOpen st 2 2 = ((0, g, x, cat rs, rs), st') →
      Hid (∀ q F B u, Ak w q st F B u → Calls Tryz.prog 20 #[.pointer (some ⟨q, 0, none⟩), confV 2 2] u fun e v => ∃ pp a c A, e = .returned (.tuple #[.pointer (some ⟨pp, 0, none⟩), .agg #[.int .u64 (g : Int), .string x, .slice a rs.length c], .int .i64 0]) ∧ Sk PS w pp q ⟨g, cat rs, false⟩ st' A B v ∧ StrsAt v a rs ∧ ∀ b off, a = some ⟨b, off, none⟩ → B < b) := fun st st' g x rs hg eo q F B u h => by
    have := C.opens q st F 2 2 u h.al.disk hg.ok (by have := hg.few; omega) (by have := hg.long; omega) (by decide) (by decide)
    rw [eo] at this
    refine this.mono ?_
    rintro e v (⟨_, pp, a, c, A, rfl, hd, hl, hs, hn⟩ | ⟨h0, _⟩)
    · exact ⟨pp, a, c, A, rfl, h.opened hd hl, hs, fun b off e => Nat.lt_of_lt_of_le h.bx.lt (hn b off e)⟩
    · exact absurd rfl h0
  have KO1 : Hid (∀ q F u, Al8 w q st1 F u → Calls Tryz.prog 20 #[.pointer (some ⟨q, 0, none⟩), confV 2 2] u fun e v => ∃ pp a c A, e = .returned (.tuple #[.pointer (some ⟨pp, 0, none⟩), .agg #[.int .u64 1, .string ⟨#[]⟩, .slice a 0 c], .int .i64 0]) ∧ Sl8 PS w pp q 2 2 ⟨1, cat [], false⟩ st2 A v ∧ StrsAt v a []) := KO st1 st2 1 noText [] H.g1 H.o1
  have KO2 : Hid (∀ q F B u, Ak w q (st5.crash []) F B u → Calls Tryz.prog 20 #[.pointer (some ⟨q, 0, none⟩), confV 2 2] u fun e v => ∃ pp a c A, e = .returned (.tuple #[.pointer (some ⟨pp, 0, none⟩), .agg #[.int .u64 1, .string ⟨#[]⟩, .slice a 1 c], .int .i64 0]) ∧ Sk PS w pp q ⟨1, cat [aT], false⟩ st6 A B v ∧ StrsAt v a [aT] ∧ ∀ b off, a = some ⟨b, off, none⟩ → B < b) := KOk (st5.crash []) st6 1 noText [aT] H.c5 H.o2
  have KO3 : Hid (∀ q F B u, Ak w q (st9.crash []) F B u → Calls Tryz.prog 20 #[.pointer (some ⟨q, 0, none⟩), confV 2 2] u fun e v => ∃ pp a c A, e = .returned (.tuple #[.pointer (some ⟨pp, 0, none⟩), .agg #[.int .u64 2, .string ⟨#[120, 121]⟩, .slice a 1 c], .int .i64 0]) ∧ Sk PS w pp q ⟨2, cat [cT8], false⟩ st10 A B v ∧ StrsAt v a [cT8] ∧ ∀ b off, a = some ⟨b, off, none⟩ → B < b) := KOk (st9.crash []) st10 2 xyT [cT8] H.c9 H.o3
  have KA : ∀ (st st' : St) (s s' : Sto) (t : ByteArray), G8 st → t.size ≤ 65536 → stoAppend st 2 2 s t = (0, s', st') →
      Hid (∀ pp q A B u, Sk PS w pp q s st A B u → Calls Tryz.prog 22 #[.pointer (some ⟨pp, 0, none⟩), .string t] u fun e v => e = .returned (.int .i64 0) ∧ ∃ A', Sk PS w pp q s' st' A' B v) := fun st st' s s' t hh ht ea pp q A B u h => by
    have := C.append pp q 2 2 s t st A u h.sl.sto hh.ok (by have := hh.few; omega) (by rw [hh.long]; exact conf82) (by decide) ht
    rw [ea] at this
    refine this.mono ?_
    rintro e v ⟨rfl, A', hd, hl⟩
    exact ⟨rfl, A', h.step hd hl⟩
  have KY : ∀ (st st' : St) (s s' : Sto), G8 st → stoSync st s = (0, s', st') →
      Hid (∀ pp q A B u, Sk PS w pp q s st A B u → Calls Tryz.prog 23 #[.pointer (some ⟨pp, 0, none⟩)] u fun e v => e = .returned (.int .i64 0) ∧ ∃ A', Sk PS w pp q s' st' A' B v) := fun st st' s s' hh ea pp q A B u h => by
    have := C.sync pp q 2 2 s st A u h.sl.sto hh.ok (by have := hh.few; omega)
    rw [ea] at this
    refine this.mono ?_
    rintro e v ⟨rfl, A', hd, hl⟩
    exact ⟨rfl, A', h.step hd hl⟩
  have KT : ∀ (st st' : St) (s s' : Sto) (t : ByteArray), G8 st → t.size ≤ 65536 → s.gen < 18446744073709551616 → stoTrim st 2 2 s t = (0, s', st') →
      Hid (∀ pp q A B u, Sk PS w pp q s st A B u → Calls Tryz.prog 24 #[.pointer (some ⟨pp, 0, none⟩), .string t] u fun e v => e = .returned (.int .i64 0) ∧ ∃ A', Sk PS w pp q s' st' A' B v) := fun st st' s s' t hh ht hg ea pp q A B u h => by
    have := C.trim pp q 2 2 s t st A u h.sl.sto hh.ok (by have := hh.few; omega) (by rw [hh.long]; exact conf82) (by decide) ht hg
    rw [ea] at this
    refine this.mono ?_
    rintro e v ⟨rfl, A', hd, hl⟩
    exact ⟨rfl, A', h.step hd hl⟩
  have KC : ∀ (st : St), G8 st →
      Hid (∀ q F B u, Ak w q st F B u → Calls Tryz.prog 26 #[.pointer (some ⟨q, 0, none⟩), .slice none 0 0] u fun e v => e = .returned (.int .i64 0) ∧ ∃ F', Ak w q (st.crash []) F' B v) := fun st hh q F B u h => by
    refine (con.crash q st F none 0 [] u h.al.disk hh.ok (by have := hh.few; omega) (Or.inl rfl) (fun h => absurd rfl h) (by decide) (by simp)).mono ?_
    rintro e v ⟨rfl, F', hd, hl⟩
    exact ⟨rfl, F', h.step hd hl⟩
  have KA1 : Hid (∀ pp q A B u, Sk PS w pp q ⟨1, cat [], false⟩ st2 A B u → Calls Tryz.prog 22 #[.pointer (some ⟨pp, 0, none⟩), .string ⟨#[97]⟩] u fun e v => e = .returned (.int .i64 0) ∧ ∃ A', Sk PS w pp q ⟨1, cat [aT], false⟩ st3 A' B v) := KA st2 st3 _ _ aT H.g2 (by decide) H.a1
  have KY1 : Hid (∀ pp q A B u, Sk PS w pp q ⟨1, cat [aT], false⟩ st3 A B u → Calls Tryz.prog 23 #[.pointer (some ⟨pp, 0, none⟩)] u fun e v => e = .returned (.int .i64 0) ∧ ∃ A', Sk PS w pp q ⟨1, cat [aT], false⟩ st4 A' B v) := KY st3 st4 _ _ H.g3 H.y1
  have KA2 : Hid (∀ pp q A B u, Sk PS w pp q ⟨1, cat [aT], false⟩ st4 A B u → Calls Tryz.prog 22 #[.pointer (some ⟨pp, 0, none⟩), .string ⟨#[98]⟩] u fun e v => e = .returned (.int .i64 0) ∧ ∃ A', Sk PS w pp q ⟨1, cat [aT, bT8], false⟩ st5 A' B v) := KA st4 st5 _ _ bT8 H.g4 (by decide) H.a2
  have KC1 := KC st5 H.g5
  have KT1 : Hid (∀ pp q A B u, Sk PS w pp q ⟨1, cat [aT], false⟩ st6 A B u → Calls Tryz.prog 24 #[.pointer (some ⟨pp, 0, none⟩), .string ⟨#[120, 121]⟩] u fun e v => e = .returned (.int .i64 0) ∧ ∃ A', Sk PS w pp q ⟨2, cat [], false⟩ st7 A' B v) := KT st6 st7 _ _ xyT H.g6 (by decide) (by decide) H.t1
  have KA3 : Hid (∀ pp q A B u, Sk PS w pp q ⟨2, cat [], false⟩ st7 A B u → Calls Tryz.prog 22 #[.pointer (some ⟨pp, 0, none⟩), .string ⟨#[99]⟩] u fun e v => e = .returned (.int .i64 0) ∧ ∃ A', Sk PS w pp q ⟨2, cat [cT8], false⟩ st8 A' B v) := KA st7 st8 _ _ cT8 H.g7 (by decide) H.a3
  have KY2 : Hid (∀ pp q A B u, Sk PS w pp q ⟨2, cat [cT8], false⟩ st8 A B u → Calls Tryz.prog 23 #[.pointer (some ⟨pp, 0, none⟩)] u fun e v => e = .returned (.int .i64 0) ∧ ∃ A', Sk PS w pp q ⟨2, cat [cT8], false⟩ st9 A' B v) := KY st8 st9 _ _ H.g8 H.y2
  have KC2 := KC st9 H.g9
  clear KO KOk KA KY KT KC H
  go_enter Tryz.func9, Tryz.ntmps9
  go_wp2_with fail
  refine K1.out.mono ?_
  rintro e w1 ⟨q, F1, rfl, hd1, hF1, hb1⟩
  have A1 := hide (Al8.mk (st := St.new 8) hd1 hb1 hF1)
  clear hd1 hF1 hb1
  go_wp2_with fail
  refine (KS.out _ _ _ _ A1.out).mono ?_
  rintro e w2 ⟨rfl, hA2⟩
  have A2 := hide hA2
  clear hA2
  go_wp2_with fail
  refine (KB.out _ _ _ _ A2.out).mono ?_
  rintro e w3 ⟨rfl, hA3⟩
  have A3 := hide hA3
  clear hA3
  go_wp2_with fail
  refine (KS.out _ _ _ _ A3.out).mono ?_
  rintro e w4 ⟨rfl, hA4⟩
  have A4 := hide hA4
  clear hA4
  go_wp2_with fail
  refine (KM1.out _ _ _ A4.out).mono ?_
  rintro e w5 ⟨rfl, F5, hA5⟩
  have A5 := hide hA5
  clear hA5
  go_wp2_with fail
  refine (KS.out _ _ _ _ A5.out).mono ?_
  rintro e w6 ⟨rfl, hA6⟩
  have A6 := hide hA6
  clear hA6
  go_wp2_with fail
  refine (KM2.out _ _ _ A6.out).mono ?_
  rintro e w7 ⟨rfl, F7, hA7⟩
  have A7 := hide hA7
  clear hA7
  go_wp2_with fail
  refine (KS.out _ _ _ _ A7.out).mono ?_
  rintro e w8 ⟨rfl, hA8⟩
  have A8 := hide hA8
  clear hA8
  go_wp2_with fail
  refine (KO1.out _ _ _ A8.out).mono ?_
  rintro e w9 ⟨p1, a1, c1, G9, rfl, hA9, -⟩
  have A9 := hide (Sk.start C hA9 (.int .u64 1) (.string ⟨#[]⟩) (.slice a1 0 c1))
  clear hA9
  go_wp2_with fail
  refine (KA1.out _ _ _ _ _ A9.out).mono ?_
  rintro e w10 ⟨rfl, G10, hA10⟩
  have A10 := hide hA10
  clear hA10
  go_wp2_with fail
  refine (KY1.out _ _ _ _ _ A10.out).mono ?_
  rintro e w11 ⟨rfl, G11, hA11⟩
  have A11 := hide hA11
  clear hA11
  go_wp2_with fail
  refine (KA2.out _ _ _ _ _ A11.out).mono ?_
  rintro e w12 ⟨rfl, G12, hA12⟩
  have A12 := hide hA12
  clear hA12
  go_wp2_with fail
  obtain ⟨F13, hD13⟩ := A12.out.disk C
  refine (KC1.out _ _ _ _ hD13).mono ?_
  clear hD13
  rintro e w13 ⟨rfl, G13, hA13⟩
  have A13 := hide hA13
  clear hA13
  go_wp2_with fail
  refine (KS2.out _ _ _ _ _ A13.out).mono ?_
  rintro e w14 ⟨rfl, hA14⟩
  have A14 := hide hA14
  clear hA14
  go_wp2_with fail
  refine (KO2.out _ _ _ _ A14.out).mono ?_
  rintro e w15 ⟨p15, a15, c15, G15, rfl, hA15, hs15, hn15⟩
  have A15 := hide (fun x y z => hA15.set C x y z)
  obtain ⟨u15, u151, u152, ⟨k150, k151, k152⟩, f15⟩ := hA15.bx.cells
  have f150 := f15 0
  have f151 := f15 1
  have f152 := f15 2
  clear hA15 f15
  rcases hs15 with h0 | ⟨b15, o15, rfl, hc15⟩
  · exact absurd h0 (by simp)
  have x15 : w15.cell? ⟨b15, o15, none⟩ = some (.string ⟨#[97]⟩) := hc15 0 (by decide)
  have n15 : ¬ w9.heap.size = b15 := by have := hn15 _ _ rfl; omega
  have m15 : ¬ b15 = w9.heap.size := by have := hn15 _ _ rfl; omega
  clear hc15 hn15
  go_wp2_with fail
  refine (KT1.out _ _ _ _ _ (A15.out _ _ _)).mono ?_
  rintro e w16 ⟨rfl, G16, hA16⟩
  have A16 := hide hA16
  clear hA16
  go_wp2_with fail
  refine (KA3.out _ _ _ _ _ A16.out).mono ?_
  rintro e w17 ⟨rfl, G17, hA17⟩
  have A17 := hide hA17
  clear hA17
  go_wp2_with fail
  refine (KY2.out _ _ _ _ _ A17.out).mono ?_
  rintro e w18 ⟨rfl, G18, hA18⟩
  have A18 := hide hA18
  clear hA18
  go_wp2_with fail
  obtain ⟨F19, hD19⟩ := A18.out.disk C
  refine (KC2.out _ _ _ _ hD19).mono ?_
  clear hD19
  rintro e w19 ⟨rfl, G19, hA19⟩
  have A19 := hide hA19
  clear hA19
  go_wp2_with fail
  refine (KS2.out _ _ _ _ _ A19.out).mono ?_
  rintro e w20 ⟨rfl, hA20⟩
  have A20 := hide hA20
  clear hA20
  go_wp2_with fail
  refine (KO3.out _ _ _ _ A20.out).mono ?_
  rintro e w21 ⟨p21, a21, c21, G21, rfl, hA21, hs21, hn21⟩
  have A21 := hide (fun x y z => hA21.set C x y z)
  obtain ⟨u21, u211, u212, ⟨k210, k211, k212⟩, f21⟩ := hA21.bx.cells
  have f210 := f21 0
  have f211 := f21 1
  have f212 := f21 2
  clear hA21 f21
  rcases hs21 with h0 | ⟨b21, o21, rfl, hc21⟩
  · exact absurd h0 (by simp)
  have x21 : w21.cell? ⟨b21, o21, none⟩ = some (.string ⟨#[99]⟩) := hc21 0 (by decide)
  have n21 : ¬ w9.heap.size = b21 := by have := hn21 _ _ rfl; omega
  have m21 : ¬ b21 = w9.heap.size := by have := hn21 _ _ rfl; omega
  clear hc21 hn21
  go_wp2
  go_ret
  exact ⟨rfl, (A21.out _ _ _).sl.below⟩
end Go.Proofs.YtchhojkhfdkhfaaGreatDoor
namespace Go.Proofs.YtchhojkhfdkhfaaGreatDoor
open Go Go.RowKit Frm
theorem alive_any8 (w : World) : Calls Tryz.prog 9 #[] w fun e w' => e = .returned (.bool true) ∧ Below w.heap.size w w' := alive8_any con8 w
set_option maxRecDepth 10000 in
set_option maxHeartbeats 4000000 in
theorem StoreNil_any (ck lg : Int) (t : ByteArray) (w : World) (h1 : I64 ck) (h2 : I64 lg) : Calls Tryz.prog 5 #[confV ck lg, .string t] w fun e w' => e = .returned (.bool true) ∧ Below w.heap.size w w' := by
  have KA := hide alive_any8
  have KO := hide (fun u => con8.nopen ck lg u h1 h2)
  have KM := hide (fun u => con8.nmake ck lg u h1 h2)
  have HB := hide (one_below w (.cells #[.int .i64 ck, .int .i64 lg] 23))
  have HC : Hid (∀ z, Below (w.alloc (.cells #[.int .i64 ck, .int .i64 lg] 23)).heap.size (w.alloc (.cells #[.int .i64 ck, .int .i64 lg] 23)) z → _) := conf_cells w ck lg
  obtain ⟨c0, c1⟩ := conf_cells w ck lg _ (Below.refl _ _)
  unfold confV at *
  clear h1 h2
  by_cases h : 4096 < t.size
  · go_enter Tryz.func5, Tryz.ntmps5
    go_wp2_with fail
    refine (KA.out _).mono ?_
    rintro e w1 ⟨rfl, hb1⟩
    have HB1 := hide (bnext HB.out hb1)
    clear hb1
    go_wp2
    go_ret
    exact ⟨rfl, HB1.out⟩
  · go_enter Tryz.func5, Tryz.ntmps5
    go_wp2_with fail
    generalize w.alloc (.cells #[.int .i64 ck, .int .i64 lg] 23) = W at *
    refine (KO.out _).mono ?_
    rintro e w1 ⟨rfl, hb1⟩
    have HB1 := hide hb1
    clear hb1 c0 c1
    go_wp2_with fail
    have hs2 := one_below w1 (.cells #[.int .u64 0, .string ⟨#[]⟩, .slice none 0 0] 61)
    have k0 : (w1.alloc (.cells #[.int .u64 0, .string ⟨#[]⟩, .slice none 0 0] 61)).cell? ⟨w1.heap.size, 0, none⟩ = some (.int .u64 0) := (cell_of_row _ _ 0 _ _ _ (heap_alloc_last w1 _)).trans rfl
    have HB2 := hide (bnext HB1.out hs2)
    generalize w1.alloc (.cells #[.int .u64 0, .string ⟨#[]⟩, .slice none 0 0] 61) = w2 at *
    generalize w1.heap.size = n1 at *
    have HK := hide k0
    clear hs2 k0 HB1
    refine (con8.nappend t w2).mono ?_
    rintro e w3 ⟨rfl, hb3⟩
    have HB3 := hide (bnext HB2.out hb3)
    have HK3 := hide (cellB9 hb3 HK.out)
    clear hb3
    go_wp2_with fail
    refine (con8.nsync w3).mono ?_
    rintro e w4 ⟨rfl, hb4⟩
    have HB4 := hide (bnext HB3.out hb4)
    have HK4 := hide (cellB9 hb4 HK3.out)
    clear hb4
    go_wp2_with fail
    refine (con8.ntrim t w4).mono ?_
    rintro e w5 ⟨rfl, hb5⟩
    have HB5 := hide (bnext HB4.out hb5)
    have HK5 := hide (cellB9 hb5 HK4.out)
    clear hb5
    go_wp2_with fail
    refine (con8.ngen w5).mono ?_
    rintro e w6 ⟨rfl, hb6⟩
    have HB6 := hide (bnext HB5.out hb6)
    have HK6 := hide (cellB9 hb6 HK5.out)
    clear hb6
    go_wp2_with fail
    refine (con8.nroom w6).mono ?_
    rintro e w7 ⟨rfl, hb7⟩
    have HB7 := hide (bnext HB6.out hb7)
    have k7 := cellB9 hb7 HK6.out
    obtain ⟨c0, c1⟩ := HC.out _ HB7.out
    clear hb7
    go_wp2_with fail
    refine (KM.out _).mono ?_
    rintro e w8 ⟨rfl, hb8⟩
    have HB8 := hide (bnext HB7.out hb8)
    clear hb8 k7 c0 c1
    go_wp2_with fail
    refine (KA.out _).mono ?_
    rintro e w9 ⟨rfl, hb9⟩
    have HB9 := hide (HB.out.trans ((bnext HB8.out hb9).mono HB.out.size))
    clear hb9
    go_wp2
    go_ret
    exact ⟨rfl, HB9.out⟩
end Go.Proofs.YtchhojkhfdkhfaaGreatDoor
namespace Go.Proofs.YtchhojkhfdkhfaaGreatDoor
open Go Go.ChangeShapes Go.WideShapes Go.ChangeAt Go.RowKit Go.Joins

theorem Tryz.own : ownKnob Tryz.prog.godebug = none := by kernel_rfl
theorem int_of_wf64 {x : Int} (h : (Lit.int .i64 x).wf = true) : -9223372036854775808 ≤ x ∧ x ≤ 9223372036854775807 := by
  simp [Lit.wf, IntKind.min, IntKind.max, IntKind.signed, IntKind.bits] at h
  exact ⟨by omega, by omega⟩
theorem shut_text {H : Type} {enc : TypeId × Value → H} {W : World} {base : Nat} {sp : Nat → Bool} {held : Bool} {s : ByteArray} (hs : s.size ≤ maxLen) :
    DataW.Trod enc Tryz.prog W base sp held 9 (.string s) (.lit (.string s.data.toList)) [] :=
  ⟨1, by simp [DataW.trod, Value.cells, Tryz.underlying9, hs]⟩
/-- What the rows list. -/
def listed : List (String × DataW Unit) := [("unicode/utf8.acceptRanges", Rows.laid_unicode_utf8_acceptRanges), ("unicode/utf8.first", Rows.laid_unicode_utf8_first)]
theorem tabled_met (os : Os) (args : Array Value) : laidMetH Tryz.prog listed ((World.laidAll Tryz.prog os listed).forCall (fun _ _ => 0) ⟨#[], args, []⟩).memory := by
  rw [MakeChecks.laidMetH_plain _ _ _ (by kernel_rfl)]
  exact laidMet_laidAll args (by kernel_rfl) (by kernel_rfl)
theorem tabled_shaped (os : Os) : (World.laidAll Tryz.prog os listed).Shaped Tryz.prog := World.shaped_of_ZipB (by kernel_rfl) (by kernel_rfl)
end Go.Proofs.YtchhojkhfdkhfaaGreatDoor
