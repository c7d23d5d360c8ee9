/- The document's own net: drop, Take, Drop. -/
import Derived.Test.YtdfioggeiagihaaRef2
namespace Go.Proofs.Ytdfioggeiagihaa
open Go Go.RowKit

set_option maxRecDepth 10000 in
set_option maxHeartbeats 2000000 in
theorem rDropAt (q : Nat) (vL vC : Value) (st : Nt) (cuts : List (Int × Int)) (m k : Nat) (w : World) (h : RAt w q vL vC st cuts) (hok : st.Ok m) (hk : k < st.l.length) :
    Calls Try.prog 42 #[.pointer (some ⟨q, 0, none⟩), .int .i64 (k : Int)] w fun e w' => e = .returned (.tuple #[]) ∧ ∃ vL', RAt w' q vL' vC (dropN st st.l[k].id) cuts ∧ Loc (RF q vL vC) (RF q vL' vC) w w' := by
  obtain ⟨i0, hi, hz0, hz1, hz2⟩ := info_parts infoL
  have HI := hide (And.intro hi (And.intro hz0 (And.intro hz1 hz2)))
  have H := hide h
  have hfew := hok.few
  have HD := hide (drop_take hok k hk)
  have HN : Hid ((dropN st st.l[k].id).n = st.n ∧ (dropN st st.l[k].id).p = st.p) := ⟨rfl, rfl⟩
  obtain ⟨g, c, rfl, hcap, -, -, -⟩ := h.letter (by omega)
  obtain ⟨c0, -, -⟩ := h.cells
  have hq0 := h.free 0
  have HCell : Hid (∀ i j (hi : i < st.l.length), j < 5 → w.cell? ⟨g, i * 5 + j, none⟩ = (letC st.l[i])[j]?) := by
    obtain ⟨g', c', e', -, -, h4, -⟩ := Recs.there h.ls letC_len (by omega)
    cases e'
    exact h4
  clear hi hz0 hz1 hz2 h hok
  have HGq : Hid (g < w.heap.size ∧ g ≠ q) := ⟨H.out.ls.lt rfl, fun e => H.out.neL (by rw [e]; rfl)⟩
  have HQl : Hid (q < w.heap.size) := H.out.lt q (Or.inl rfl)
  have hlt : (k : Int) < (st.l.length : Int) := by omega
  go_enter Try.func42, Try.ntmps42
  have hT : (st.l.take k).length = k := by rw [List.length_take]; omega
  have f1 : ((st.l.take k).flatMap letC).length = k * 5 := by rw [flat_len letC_len, hT]
  have f2 : ∀ j u, ((st.l.take k).flatMap letC)[j]? = some u → w.cell? ((⟨g, 0, none⟩ : Addr).add j) = some u := news_of (by decide) letC_len _ 0 (fun a b ha hb => by
    rw [List.length_take] at ha
    rw [Nat.zero_add, HCell.out a b (by omega) hb, List.getElem_take])
  have f3 := one_letC (st.l.take k)
  have HF := hide (And.intro f1 (And.intro f2 f3))
  clear f1 f2 f3
  go_wp2_with (at_builtin; refine wpList_append_own_at _ rfl _ _ 28 rfl 0 41 i0 (.agg #[.int .u64 0, .int .i64 0, .int .i64 0, .string ⟨#[]⟩, .int .i64 0]) 5 48 Try.underlying28 HI.out.1 HI.out.2.1 HI.out.2.2.1 HI.out.2.2.2 rfl (by decide) (.slice none 0 0) 0 [] rfl (World.ownsRow_nil _ _ _ _) ⟨g, 0, none⟩ k c ((st.l.take k).flatMap letC) rfl HF.out.1 HF.out.2.1 HF.out.2.2 (by unfold maxLen; omega) (by omega) (Nat.zero_le _) ?_)
  intro v1 w1 hown1 hgr1 _ hat1
  have hb1 : Below w.heap.size w w1 := Below.grown (Below.refl _ _) hgr1 (Nat.le_refl _) (fun j hj => by cases hj)
  have hq1 : w1.cell? ⟨q, 0, none⟩ = some (.slice (some ⟨g, 0, none⟩) st.l.length c) := (hb1.cell (p := ⟨q, 0, none⟩) HQl.out).trans c0
  have HCell1 : Hid (∀ i j (hi : i < st.l.length), j < 5 → w1.cell? ⟨g, i * 5 + j, none⟩ = (letC st.l[i])[j]?) := fun a b ha hb => (hb1.cell (p := ⟨g, a * 5 + b, none⟩) HGq.out.1).trans (HCell.out a b ha hb)
  have HOwn1 := hide hown1
  have HB1 := hide hb1
  have HAt1 := hide hat1
  obtain ⟨a1, d1, rfl, -, -, -⟩ := slice_of hown1
  clear hown1 hgr1 hat1 hb1 c0 hq0 HF HCell
  have hT2 : (st.l.drop (k + 1)).length = st.l.length - (k + 1) := List.length_drop ..
  have f1 : ((st.l.drop (k + 1)).flatMap letC).length = (st.l.length - (k + 1)) * 5 := by rw [flat_len letC_len, hT2]
  have f3 := one_letC (st.l.drop (k + 1))
  have HF := hide (And.intro f1 f3)
  clear f1 f3
  by_cases hc1 : c - (k + 1) = 0
  · have f2 : Hid (∀ j u, ((st.l.drop (k + 1)).flatMap letC)[j]? = some u → w1.cell? ((⟨g, 0, none⟩ : Addr).add j) = some u) := fun j u hu => by
      have h1 := (List.getElem?_eq_some_iff.1 hu).1
      rw [HF.out.1] at h1
      omega
    go_wp2_with (at_builtin; refine wpList_append_own_at _ rfl _ _ 28 rfl 0 41 i0 (.agg #[.int .u64 0, .int .i64 0, .int .i64 0, .string ⟨#[]⟩, .int .i64 0]) 5 48 Try.underlying28 HI.out.1 HI.out.2.1 HI.out.2.2.1 HI.out.2.2.2 rfl (by decide) (.slice a1 k d1) k ((st.l.take k).flatMap letC) rfl HOwn1.out ⟨g, 0, none⟩ (st.l.length - (k + 1)) (c - (k + 1)) ((st.l.drop (k + 1)).flatMap letC) (by first | rfl | (rw [hc1]; rfl)) HF.out.1 f2.out HF.out.2 (by unfold maxLen; omega) (by omega) (Nat.zero_le _) ?_)
    intro v2 w2 hown2 hgr2 _ hat2
    have hb2 : Below w.heap.size w w2 := HB1.out.grown hgr2 HB1.out.size (fun j hj => by
      rcases HAt1.out with h1 | h1
      · rw [h1] at hj; cases hj
      · rw [h1] at hj; cases hj; exact Nat.le_refl _)
    have hn2 : ∀ g, v2.ownBlock = some g → w.heap.size ≤ g := fun j hj => by
      rcases hat2 with h2 | h2
      · rw [h2] at hj
        rcases HAt1.out with h1 | h1
        · rw [h1] at hj; cases hj
        · rw [h1] at hj; cases hj; exact Nat.le_refl _
      · rw [h2] at hj; cases hj; exact HB1.out.size
    have hl2 : Recs w2 41 5 letC v2 (dropN st st.l[k].id).l := by
      unfold Recs
      rw [HD.out, List.length_append, hT, hT2, List.flatMap_append]
      exact hown2
    obtain ⟨r1, r2⟩ := H.out.replL hb2 hl2 hn2
    have HR := hide (And.intro r1 r2)
    have hq2 : w2.cell? ⟨q, 0, none⟩ = some (.slice (some ⟨g, 0, none⟩) st.l.length c) := (H.out.below hb2).cells.1
    have hf2 : w2.frozen? ⟨q, 0, none⟩ = false := (H.out.below hb2).free 0
    obtain ⟨a2, d2, rfl, -, -, -⟩ := slice_of hown2
    clear hown2 hgr2 hat2 hb2 hn2 hl2 r1 r2
    go_wp2_with fail
    exact ⟨rfl, .tuple #[], by simp [results, Try.results42, go_sem], rfl, _, HR.out.1, HR.out.2⟩
  · have f2 : Hid (∀ j u, ((st.l.drop (k + 1)).flatMap letC)[j]? = some u → w1.cell? ((⟨g, (k + 1) * 5, none⟩ : Addr).add j) = some u) := news_of (by decide) letC_len _ ((k + 1) * 5) (fun a b ha hb => by
      rw [List.length_drop] at ha
      rw [show (k + 1) * 5 + (a * 5 + b) = (k + 1 + a) * 5 + b from by omega, HCell1.out (k + 1 + a) b (by omega) hb, List.getElem_drop])
    go_wp2_with (at_builtin; refine wpList_append_own_at _ rfl _ _ 28 rfl 0 41 i0 (.agg #[.int .u64 0, .int .i64 0, .int .i64 0, .string ⟨#[]⟩, .int .i64 0]) 5 48 Try.underlying28 HI.out.1 HI.out.2.1 HI.out.2.2.1 HI.out.2.2.2 rfl (by decide) (.slice a1 k d1) k ((st.l.take k).flatMap letC) rfl HOwn1.out ⟨g, (k + 1) * 5, none⟩ (st.l.length - (k + 1)) (c - (k + 1)) ((st.l.drop (k + 1)).flatMap letC) rfl HF.out.1 f2.out HF.out.2 (by unfold maxLen; omega) (by omega) (Nat.zero_le _) ?_)
    intro v2 w2 hown2 hgr2 _ hat2
    have hb2 : Below w.heap.size w w2 := HB1.out.grown hgr2 HB1.out.size (fun j hj => by
      rcases HAt1.out with h1 | h1
      · rw [h1] at hj; cases hj
      · rw [h1] at hj; cases hj; exact Nat.le_refl _)
    have hn2 : ∀ g, v2.ownBlock = some g → w.heap.size ≤ g := fun j hj => by
      rcases hat2 with h2 | h2
      · rw [h2] at hj
        rcases HAt1.out with h1 | h1
        · rw [h1] at hj; cases hj
        · rw [h1] at hj; cases hj; exact Nat.le_refl _
      · rw [h2] at hj; cases hj; exact HB1.out.size
    have hl2 : Recs w2 41 5 letC v2 (dropN st st.l[k].id).l := by
      unfold Recs
      rw [HD.out, List.length_append, hT, hT2, List.flatMap_append]
      exact hown2
    obtain ⟨r1, r2⟩ := H.out.replL hb2 hl2 hn2
    have HR := hide (And.intro r1 r2)
    have hq2 : w2.cell? ⟨q, 0, none⟩ = some (.slice (some ⟨g, 0, none⟩) st.l.length c) := (H.out.below hb2).cells.1
    have hf2 : w2.frozen? ⟨q, 0, none⟩ = false := (H.out.below hb2).free 0
    obtain ⟨a2, d2, rfl, -, -, -⟩ := slice_of hown2
    clear hown2 hgr2 hat2 hb2 hn2 hl2 r1 r2
    go_wp2_with fail
    exact ⟨rfl, .tuple #[], by simp [results, Try.results42, go_sem], rfl, _, HR.out.1, HR.out.2⟩
end Go.Proofs.Ytdfioggeiagihaa
