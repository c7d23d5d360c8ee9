/- The program's net: slices.Delete of one letter. -/
import Derived.Test.YtdfioggeiagihaaDel
import Derived.Deep.RegionLaw
import Derived.Lib.Walk
namespace Go.Proofs.Ytdfioggeiagihaa
open Go Go.RowKit

set_option maxRecDepth 10000 in
set_option maxHeartbeats 2000000 in
theorem pDelete (g c k M : Nat) (l : List Lt) (w : World) (h : Recs w 41 5 letC (.slice (some ⟨g, 0, none⟩) l.length c) l) (hl : l.length = k + 1 + M) (hM : M ≤ 4096) (hk : k ≤ 4096) :
    Calls Try.prog 53 #[.slice (some ⟨g, 0, none⟩) l.length c, .int .i64 (k : Int), .int .i64 ((k : Int) + 1)] w fun e w' => e = .returned (.slice (some ⟨g, 0, none⟩) (k + M) c) ∧ Recs w' 41 5 letC (.slice (some ⟨g, 0, none⟩) (k + M) c) (l.take k ++ l.drop (k + 1)) ∧ Loc (fun j => j = g) (fun j => j = g) w w' := by
  obtain ⟨i0, hi0, hz0, hz1, hz2⟩ := info_parts infoL
  have H := hide h
  obtain ⟨g', c', e', hcap, -, h4, hfz⟩ := Recs.there h letC_len (by omega)
  cases e'
  clear h
  obtain ⟨news, hnews⟩ : ∃ news, news = (l.drop (k + 1)).flatMap letC := ⟨_, rfl⟩
  have hlen : news.length = M * 5 := by rw [hnews, flat_len letC_len, List.length_drop]; omega
  have s1 := hide hlen
  have s2 : Hid (∀ u ∈ news, u.oneCell' = true) := by rw [hnews]; exact one_letC _
  obtain ⟨A, hA, hsrc⟩ : ∃ A : Addr, (if c = k + 1 then some (⟨g, 0, none⟩ : Addr) else some ⟨g, (k + 1) * 5, none⟩) = some A ∧ Hid (∀ t u, news[t]? = some u → w.drew.cell? (A.add t) = some u) := by
    by_cases hc : c = k + 1
    · refine ⟨⟨g, 0, none⟩, by simp [hc], fun t u hu => ?_⟩
      have h0 : news.length = 0 := by rw [hlen]; omega
      rw [List.length_eq_zero_iff.1 h0] at hu
      simp at hu
    · refine ⟨⟨g, (k + 1) * 5, none⟩, by simp [hc], ?_⟩
      rw [hnews]
      exact news_of (by decide) letC_len _ ((k + 1) * 5) (fun a b ha hb => by
        rw [List.length_drop] at ha
        rw [show (k + 1) * 5 + (a * 5 + b) = (k + 1 + a) * 5 + b from by omega]
        show w.cell? _ = _
        rw [h4 (k + 1 + a) b (by omega) hb, List.getElem_drop])
  have hthere : ∀ j, j < l.length * 5 → (w.cell? ⟨g, j, none⟩).isSome = true := fun j hj => by
    have h5 := h4 (j / 5) (j % 5) (by omega) (Nat.mod_lt _ (by decide))
    rw [show j / 5 * 5 + j % 5 = j by omega] at h5
    rw [h5, List.getElem?_eq_getElem (by rw [letC_len]; exact Nat.mod_lt _ (by decide))]
    rfl
  have s3 : Hid (∀ t, t < news.length → (w.drew.cell? ⟨g, 0 + k * 5 + t, none⟩).isSome = true ∧ w.drew.frozen? ⟨g, 0 + k * 5 + t, none⟩ = false) := fun t ht => by
    rw [hlen] at ht
    exact ⟨hthere _ (by omega), hfz _⟩
  obtain ⟨W1, hW1⟩ : ∃ W1, W1 = w.drew.setCells g (0 + k * 5) news := ⟨_, rfl⟩
  have hW : Hid (W1 = w.drew.setCells g (0 + k * 5) news) := hW1
  have hcl : ∀ ty, (Builtin.clear_ #[28] ty #[.slice (some ⟨g, (k + M) * 5, none⟩) (k + 1 + M - (k + M)) (c - (k + M))]).run Try.prog W1 = .ok (.tuple #[]) (W1.setCells g ((k + M) * 5) zeroC) := fun ty => by
    rw [show k + 1 + M - (k + M) = 1 by omega]
    rw [← zeroC_is]
    exact run_clear_one W1 _ _ ty zeroL Try.underlying28 zeroLetter (by decide) g ((k + M) * 5) _ (fun j hj => by
      rw [hW1]
      refine World.isSome_setCells _ _ _ _ _ (hthere _ ?_)
      have : zeroL.cells.size = 5 := rfl
      omega) (fun j hj => by rw [hW1, World.frozen?_setCells]; exact hfz _)
  have HC : Hid (Recs (W1.setCells g ((k + M) * 5) zeroC) 41 5 letC (.slice (some ⟨g, 0, none⟩) (k + M) c) (l.take k ++ l.drop (k + 1))) := by
    have := cut_row (w := w.drew) H.out hl
    rw [zeroC_is] at this
    rw [hW1, hnews, Nat.zero_add]
    exact this
  have HL : Hid (Loc (fun j => j = g) (fun j => j = g) w (W1.setCells g ((k + M) * 5) zeroC)) := by
    rw [hW1]
    exact (Loc.undrew (setCells_loc g (F := fun j => j = g) rfl _ _ w.drew)).trans (setCells_loc g (F := fun j => j = g) rfl _ _ _)
  have hic : k ≤ c := by omega
  have hjc : k + 1 ≤ c := by omega
  have hb1 : (0 : Int) ≤ (k : Int) + 1 := by omega
  have hb2 : (k : Int) + 1 ≤ (k : Int) + 1 + (M : Int) := by omega
  clear hW1 hthere hlen hfz h4
  rw [hl] at hcap ⊢
  have HI := hide (And.intro hi0 (And.intro hz0 (And.intro hz1 hz2)))
  clear hi0 hz0 hz1 hz2 hl H hnews
  go_enter Try.func53, Try.ntmps53
  go_wp2_with fail
  go_region_law (refine step_append_room rfl (.tmp 22) (.tmp 25) 28 rfl 41 i0 5 Try.underlying28 HI.out.1 HI.out.2.2.1 g 0 k c (by simp [Act.eval, Act.put]) A M (c - (k + 1)) news (by simp [Act.eval, Act.put]) s1.out hsrc.out s2.out (by omega) s3.out ?_; rw [← hW.out])
  all_goals
    go_wp2
    go_ret
    exact ⟨rfl, HC.out, HL.out⟩
end Go.Proofs.Ytdfioggeiagihaa
