/- What the document's own Sum does: a loop over a list that is only read. -/
import Derived.Test.YtklekpbfjcpjlaaThree
import Derived.Test.YtklekpbfjcpjlaaSum
import Derived.Deep.DeepCutAuto
namespace Go.Proofs.Ytklekpbfjcpjlaa
open Go.RowKit
attribute [local go_sem ↓] Go.wp_at_zero Go.wp_at_succ

/-- Block p of u holds the number z in two halves. -/
def H2 (p : Nat) (z : Int) (u : World) : Prop := u.cell? ⟨p, 0, none⟩ = some (.int .i64 (z / 4294967296)) ∧ u.cell? ⟨p, 1, none⟩ = some (.int .i64 (z % 4294967296))
theorem H2.call {p : Nat} {z : Int} {u u' : World} (h : H2 p z u) (hb : Below u.heap.size u u') (hp : p < u.heap.size) : H2 p z u' :=
  ⟨((bcell hb).1 _ _ hp).trans h.1, ((bcell hb).1 _ _ hp).trans h.2⟩
theorem H2.far {p q : Nat} {z : Int} {u : World} (h : H2 p z u) (hq : p ≠ q) (i j : Nat) (a b : Value) : H2 p z ((u.setCell ⟨q, i, none⟩ a).setCell ⟨q, j, none⟩ b) :=
  ⟨(cell_set_ne _ p 0 q j b hq).trans ((cell_set_ne _ p 0 q i a hq).trans h.1), (cell_set_ne _ p 1 q j b hq).trans ((cell_set_ne _ p 1 q i a hq).trans h.2)⟩
theorem H2.set {p : Nat} {z y : Int} {u : World} (h : H2 p z u) : H2 p y ((u.setCell ⟨p, 0, none⟩ (.int .i64 (y / 4294967296))).setCell ⟨p, 1, none⟩ (.int .i64 (y % 4294967296))) := by
  have e : ((u.setCell ⟨p, 0, none⟩ (.int .i64 (y / 4294967296))).cell? ⟨p, 1, none⟩) = u.cell? ⟨p, 1, none⟩ := World.cell?_setCell_other (w := u) (a := ⟨p, 0, none⟩) (b := ⟨p, 1, none⟩) (v := .int .i64 (y / 4294967296)) (by simp)
  constructor
  · refine (World.cell?_setCell_other (w := u.setCell ⟨p, 0, none⟩ (.int .i64 (y / 4294967296))) (a := ⟨p, 1, none⟩) (b := ⟨p, 0, none⟩) (v := .int .i64 (y % 4294967296)) (by simp)).trans ?_
    exact World.cell?_setCell_same _ _ _ h.1
  · exact World.cell?_setCell_same _ _ _ (e.trans h.2)
/-- What holds behind a round: the three sums, and that nothing else has turned. -/
def Kr (w : World) (za zb zc : Int) (u : World) : Prop :=
  (∀ b o, b < w.heap.size + 1 → u.cell? ⟨b, o, none⟩ = ((((w.alloc (.cells #[.int .i64 0, .int .i64 0, .int .i64 0] 23)).alloc (.cells #[.int .i64 0, .int .i64 0] 54)).alloc (.cells #[.int .i64 0, .int .i64 0] 54)).alloc (.cells #[.int .i64 0, .int .i64 0] 54)).cell? ⟨b, o, none⟩) ∧
  (∀ b o, b < w.heap.size + 1 + 1 + 1 + 1 → u.frozen? ⟨b, o, none⟩ = ((((w.alloc (.cells #[.int .i64 0, .int .i64 0, .int .i64 0] 23)).alloc (.cells #[.int .i64 0, .int .i64 0] 54)).alloc (.cells #[.int .i64 0, .int .i64 0] 54)).alloc (.cells #[.int .i64 0, .int .i64 0] 54)).frozen? ⟨b, o, none⟩) ∧
  H2 (w.heap.size + 1) za u ∧ H2 (w.heap.size + 1 + 1) zb u ∧ H2 (w.heap.size + 1 + 1 + 1) zc u ∧ w.heap.size + 1 + 1 + 1 + 1 ≤ u.heap.size ∧ Below w.heap.size w u
theorem Kr.drew {w u : World} {za zb zc : Int} (h : Kr w za zb zc u) : Kr w za zb zc u.drew := ⟨h.1, h.2.1, h.2.2.1, h.2.2.2.1, h.2.2.2.2.1, h.2.2.2.2.2.1, h.2.2.2.2.2.2.drew⟩
theorem Kr.call {w u u' : World} {za zb zc : Int} (h : Kr w za zb zc u) (hb : Below u.heap.size u u') : Kr w za zb zc u' := by
  obtain ⟨h1, h2, h3, h4, h5, h6, h7⟩ := h
  exact ⟨fun b o hlt => ((bcell hb).1 b o (by omega)).trans (h1 b o hlt), fun b o hlt => ((bcell hb).2 b o (by omega)).trans (h2 b o hlt),
    h3.call hb (by omega), h4.call hb (by omega), h5.call hb (by omega), Nat.le_trans h6 hb.size, h7.trans (hb.mono (by omega))⟩
theorem Kr.setA {w u : World} {za zb zc y : Int} (h : Kr w za zb zc u) : Kr w y zb zc ((u.setCell ⟨w.heap.size + 1, 0, none⟩ (.int .i64 (y / 4294967296))).setCell ⟨w.heap.size + 1, 1, none⟩ (.int .i64 (y % 4294967296))) := by
  obtain ⟨h1, h2, h3, h4, h5, h6, h7⟩ := h
  exact ⟨fun b o hlt => (cell_set_ne _ b o _ 1 _ (by omega)).trans ((cell_set_ne _ b o _ 0 _ (by omega)).trans (h1 b o hlt)), fun b o hlt => by rw [World.frozen?_setCell, World.frozen?_setCell]; exact h2 b o hlt,
    h3.set, h4.far (by omega) 0 1 _ _, h5.far (by omega) 0 1 _ _, by simpa [World.setCell] using h6, (h7.setCell (by show w.heap.size ≤ w.heap.size + 1; omega) _).setCell (by show w.heap.size ≤ w.heap.size + 1; omega) _⟩
theorem Kr.setB {w u : World} {za zb zc y : Int} (h : Kr w za zb zc u) : Kr w za y zc ((u.setCell ⟨w.heap.size + 1 + 1, 0, none⟩ (.int .i64 (y / 4294967296))).setCell ⟨w.heap.size + 1 + 1, 1, none⟩ (.int .i64 (y % 4294967296))) := by
  obtain ⟨h1, h2, h3, h4, h5, h6, h7⟩ := h
  exact ⟨fun b o hlt => (cell_set_ne _ b o _ 1 _ (by omega)).trans ((cell_set_ne _ b o _ 0 _ (by omega)).trans (h1 b o hlt)), fun b o hlt => by rw [World.frozen?_setCell, World.frozen?_setCell]; exact h2 b o hlt,
    h3.far (by omega) 0 1 _ _, h4.set, h5.far (by omega) 0 1 _ _, by simpa [World.setCell] using h6, (h7.setCell (by show w.heap.size ≤ w.heap.size + 1 + 1; omega) _).setCell (by show w.heap.size ≤ w.heap.size + 1 + 1; omega) _⟩
theorem Kr.setC {w u : World} {za zb zc y : Int} (h : Kr w za zb zc u) : Kr w za zb y ((u.setCell ⟨w.heap.size + 1 + 1 + 1, 0, none⟩ (.int .i64 (y / 4294967296))).setCell ⟨w.heap.size + 1 + 1 + 1, 1, none⟩ (.int .i64 (y % 4294967296))) := by
  obtain ⟨h1, h2, h3, h4, h5, h6, h7⟩ := h
  exact ⟨fun b o hlt => (cell_set_ne _ b o _ 1 _ (by omega)).trans ((cell_set_ne _ b o _ 0 _ (by omega)).trans (h1 b o hlt)), fun b o hlt => by rw [World.frozen?_setCell, World.frozen?_setCell]; exact h2 b o hlt,
    h3.far (by omega) 0 1 _ _, h4.far (by omega) 0 1 _ _, h5.set, by simpa [World.setCell] using h6, (h7.setCell (by show w.heap.size ≤ w.heap.size + 1 + 1 + 1; omega) _).setCell (by show w.heap.size ≤ w.heap.size + 1 + 1 + 1; omega) _⟩
theorem rsumS (w u : World) (za zb zc : Int) (hk : Kr w za zb zc u) :
    u.cell? ⟨w.heap.size + 1, 0, none⟩ = some (.int .i64 (za / 4294967296)) ∧
    u.cell? ⟨w.heap.size + 1, 1, none⟩ = some (.int .i64 (za % 4294967296)) ∧
    u.cell? ⟨w.heap.size + 1 + 1, 0, none⟩ = some (.int .i64 (zb / 4294967296)) ∧
    u.cell? ⟨w.heap.size + 1 + 1, 1, none⟩ = some (.int .i64 (zb % 4294967296)) ∧
    u.cell? ⟨w.heap.size + 1 + 1 + 1, 0, none⟩ = some (.int .i64 (zc / 4294967296)) ∧
    u.cell? ⟨w.heap.size + 1 + 1 + 1, 1, none⟩ = some (.int .i64 (zc % 4294967296)) ∧
    u.frozen? ⟨w.heap.size + 1, 0, none⟩ = false ∧
    u.frozen? ⟨w.heap.size + 1, 1, none⟩ = false ∧
    u.frozen? ⟨w.heap.size + 1 + 1, 0, none⟩ = false ∧
    u.frozen? ⟨w.heap.size + 1 + 1, 1, none⟩ = false ∧
    u.frozen? ⟨w.heap.size + 1 + 1 + 1, 0, none⟩ = false ∧
    u.frozen? ⟨w.heap.size + 1 + 1 + 1, 1, none⟩ = false :=
  ⟨hk.2.2.1.1,
    hk.2.2.1.2,
    hk.2.2.2.1.1,
    hk.2.2.2.1.2,
    hk.2.2.2.2.1.1,
    hk.2.2.2.2.1.2,
    (hk.2.1 _ _ (by omega)).trans (by simp [go_sem]),
    (hk.2.1 _ _ (by omega)).trans (by simp [go_sem]),
    (hk.2.1 _ _ (by omega)).trans (by simp [go_sem]),
    (hk.2.1 _ _ (by omega)).trans (by simp [go_sem]),
    (hk.2.1 _ _ (by omega)).trans (by simp [go_sem]),
    (hk.2.1 _ _ (by omega)).trans (by simp [go_sem])⟩
theorem rsumE (w u : World) (za zb zc : Int) (hk : Kr w za zb zc u) :
    u.cell? ⟨w.heap.size, 0, none⟩ = some (.int .i64 0) ∧
    u.cell? ⟨w.heap.size, 1, none⟩ = some (.int .i64 0) ∧
    u.cell? ⟨w.heap.size, 2, none⟩ = some (.int .i64 0) ∧
    u.frozen? ⟨w.heap.size, 0, none⟩ = false ∧
    u.frozen? ⟨w.heap.size, 1, none⟩ = false ∧
    u.frozen? ⟨w.heap.size, 2, none⟩ = false :=
  ⟨(hk.1 _ _ (by omega)).trans (by simp [go_sem]),
    (hk.1 _ _ (by omega)).trans (by simp [go_sem]),
    (hk.1 _ _ (by omega)).trans (by simp [go_sem]),
    (hk.2.1 _ _ (by omega)).trans (by simp [go_sem]),
    (hk.2.1 _ _ (by omega)).trans (by simp [go_sem]),
    (hk.2.1 _ _ (by omega)).trans (by simp [go_sem])⟩
theorem rsum0 (w : World) : Kr w 0 0 0 ((((w.alloc (.cells #[.int .i64 0, .int .i64 0, .int .i64 0] 23)).alloc (.cells #[.int .i64 0, .int .i64 0] 54)).alloc (.cells #[.int .i64 0, .int .i64 0] 54)).alloc (.cells #[.int .i64 0, .int .i64 0] 54)) :=
  ⟨fun _ _ _ => rfl, fun _ _ _ => rfl, ⟨by simp [go_sem], by simp [go_sem]⟩, ⟨by simp [go_sem], by simp [go_sem]⟩, ⟨by simp [go_sem], by simp [go_sem]⟩, by simp, grow4 w _ _ _ _⟩
theorem RB_sum (f : Nat → Int) (n : Nat) (hf : ∀ i, i < n → I64 (f i)) (hn : n ≤ 1073741824) (k : Nat) (hk : k ≤ n) : RB (sumTo f k) := by
  have h := sumTo_bd f n hf k hk
  unfold RB; omega

set_option maxHeartbeats 1000000 in
theorem RSum_some (b off len cap : Nat) (X Y Z : Nat → Int) (w : World) (hlen : len ≤ 1073741824) (hb0 : b < w.heap.size)
    (hX : ∀ i, i < len → I64 (X i)) (hY : ∀ i, i < len → I64 (Y i)) (hZ : ∀ i, i < len → I64 (Z i))
    (hc : ∀ i, i < len → w.cell? ⟨b, off + i * 3, none⟩ = some (.int .i64 (X i)) ∧ w.cell? ⟨b, off + i * 3 + 1, none⟩ = some (.int .i64 (Y i)) ∧ w.cell? ⟨b, off + i * 3 + 2, none⟩ = some (.int .i64 (Z i))) :
    Calls Try.prog 16 #[.slice (some ⟨b, off, none⟩) len cap] w fun e w' => e = .returned (nv (sumTo X len) (sumTo Y len) (sumTo Z len)) ∧ Below w.heap.size w w' := by
  have HX := hide hX; have HY := hide hY; have HZ := hide hZ; have HC := hide hc
  clear hX hY hZ hc
  go_enter Try.func16, Try.ntmps16
  go_wp2_with fail
  go_loopw [7] (fun i wr => ∃ k : Nat, k ≤ len ∧ i = .int .i64 k ∧ Kr w (sumTo X k) (sumTo Y k) (sumTo Z k) wr) (fun i _ => len - (intOf i).toNat)
  case atStart => exact ⟨0, Nat.zero_le _, rfl, rsum0 w⟩
  case round =>
    obtain ⟨k, hk, rfl, hK⟩ := hrel
    by_cases hlt : k < len
    · obtain ⟨c0, c1, c2⟩ := HC.out k hlt
      have cc : ∀ u : World, (∀ b o, b < w.heap.size + 1 → u.cell? ⟨b, o, none⟩ = ((((w.alloc (.cells #[.int .i64 0, .int .i64 0, .int .i64 0] 23)).alloc (.cells #[.int .i64 0, .int .i64 0] 54)).alloc (.cells #[.int .i64 0, .int .i64 0] 54)).alloc (.cells #[.int .i64 0, .int .i64 0] 54)).cell? ⟨b, o, none⟩) → u.cell? ⟨b, off + k * 3, none⟩ = some (.int .i64 (X k)) ∧ u.cell? ⟨b, off + k * 3 + 1, none⟩ = some (.int .i64 (Y k)) ∧ u.cell? ⟨b, off + k * 3 + 2, none⟩ = some (.int .i64 (Z k)) := fun u hu =>
        ⟨(hu _ _ (by omega)).trans (((bcell (grow4 w _ _ _ _)).1 _ _ hb0).trans c0), (hu _ _ (by omega)).trans (((bcell (grow4 w _ _ _ _)).1 _ _ hb0).trans c1), (hu _ _ (by omega)).trans (((bcell (grow4 w _ _ _ _)).1 _ _ hb0).trans c2)⟩
      have HCC := hide cc
      have hi0 : (0 : Int) ≤ (k : Int) := by omega
      have hi1 : (k : Int) < (len : Int) := by omega
      have hS := rsumS w wr _ _ _ hK
      have hD := HCC.out wr hK.1
      have HK := hide hK
      have HR := hide (And.intro (RB_sum X len HX.out hlen k hk) (And.intro (RB_sum Y len HY.out hlen k hk) (RB_sum Z len HZ.out hlen k hk)))
      have HI := hide (And.intro (HX.out k hlt) (And.intro (HY.out k hlt) (HZ.out k hlt)))
      clear hK c0 c1 c2 cc
      go_wp2_with fail
      go_cut [] (fun u => Kr w (sumTo X (k + 1)) (sumTo Y k) (sumTo Z k) u)
      case first =>
        go_region_with (first
          | (go_at_call 30; refine (rOf_any (X k) _).mono ?_; rintro e w1 ⟨rfl, hb1⟩; have hK1 := Kr.call (Kr.drew HK.out) hb1; have hS1 := rsumS w w1 _ _ _ hK1)
          | (go_at_call 31; refine (rWAdd_any (sumTo X k) (X k) HR.out.1 (RB_of HI.out.1) _).mono ?_; rintro e w2 ⟨rfl, hb2⟩; have hK2 := Kr.call hK1 hb2; have hS2 := rsumS w w2 _ _ _ hK2; unfold R2))
        all_goals (go_wp2_with fail; go_meet)
        all_goals exact Kr.setA hK2
      clear HK hS hD
      have hS := rsumS w wc _ _ _ hcut
      have hD := HCC.out wc hcut.1
      have HK := hide hcut
      clear hcut
      go_wp2_with fail
      go_cut [] (fun u => Kr w (sumTo X (k + 1)) (sumTo Y (k + 1)) (sumTo Z k) u)
      case first =>
        go_region_with (first
          | (go_at_call 30; refine (rOf_any (Y k) _).mono ?_; rintro e w1 ⟨rfl, hb1⟩; have hK1 := Kr.call (Kr.drew HK.out) hb1; have hS1 := rsumS w w1 _ _ _ hK1)
          | (go_at_call 31; refine (rWAdd_any (sumTo Y k) (Y k) HR.out.2.1 (RB_of HI.out.2.1) _).mono ?_; rintro e w2 ⟨rfl, hb2⟩; have hK2 := Kr.call hK1 hb2; have hS2 := rsumS w w2 _ _ _ hK2; unfold R2))
        all_goals (go_wp2_with fail; go_meet)
        all_goals exact Kr.setB hK2
      clear HK hS hD
      have hS := rsumS w wc _ _ _ hcut
      have hD := HCC.out wc hcut.1
      have HK := hide hcut
      clear hcut
      go_wp2_with fail
      go_region_with (first
        | (go_at_call 30; refine (rOf_any (Z k) _).mono ?_; rintro e w1 ⟨rfl, hb1⟩; have hK1 := Kr.call (Kr.drew HK.out) hb1; have hS1 := rsumS w w1 _ _ _ hK1)
        | (go_at_call 31; refine (rWAdd_any (sumTo Z k) (Z k) HR.out.2.2 (RB_of HI.out.2.2) _).mono ?_; rintro e w2 ⟨rfl, hb2⟩; have hK2 := Kr.call hK1 hb2; have hS2 := rsumS w w2 _ _ _ hK2; unfold R2))
      all_goals
        go_wp2
        go_roundw
        case rel => exact ⟨k + 1, hlt, by go_num, Kr.setC hK2⟩
        case measure => simp [intOf]; omega
    · have hke : k = len := by omega
      subst hke
      have hS := rsumS w wr _ _ _ hK
      have HK := hide hK
      clear hK
      cases hf : (fit (sumTo X k) && fit (sumTo Y k) && fit (sumTo Z k))
      · have HF := hide hf
        have HN : Hid (nv (sumTo X k) (sumTo Y k) (sumTo Z k) = .tuple #[V3 0 0 0, .int .i64 9]) := by unfold nv; rw [hf]; rfl
        clear hf
        go_wp2_with fail
        refine (three_no HF.out _).mono ?_
        rintro e w1 ⟨rfl, hb1⟩
        have HK1 := hide (Kr.call HK.out hb1)
        have hS1 := rsumE w w1 _ _ _ HK1.out
        clear hb1
        go_wp2
        exact bodyPost_ret (v := nv (sumTo X k) (sumTo Y k) (sumTo Z k)) (by rw [HN.out]; simp [results, Try.results16, go_sem, V3, *]) rfl ⟨rfl, ((HK1.out.2.2.2.2.2.2.setCell (by simp) _).setCell (by simp) _).setCell (by simp) _⟩
      · have hq := Bool.and_eq_true_iff.1 hf
        have hp := Bool.and_eq_true_iff.1 hq.1
        have HF := hide (And.intro hp.1 (And.intro hp.2 hq.2))
        have HN := hide (nv_ok hp.1 hp.2 hq.2)
        clear hf hq hp
        go_wp2_with fail
        refine (three_ok HF.out.1 HF.out.2.1 HF.out.2.2 _).mono ?_
        rintro e w1 ⟨rfl, hb1⟩
        have HK1 := hide (Kr.call HK.out hb1)
        have hS1 := rsumE w w1 _ _ _ HK1.out
        clear hb1
        go_wp2
        exact bodyPost_ret (v := nv (sumTo X k) (sumTo Y k) (sumTo Z k)) (by rw [HN.out]; simp [results, Try.results16, go_sem, V3, *]) rfl ⟨rfl, ((HK1.out.2.2.2.2.2.2.setCell (by simp) _).setCell (by simp) _).setCell (by simp) _⟩
end Go.Proofs.Ytklekpbfjcpjlaa
