/- The program's net: find. -/
import Derived.Test.YtdfioggeiagihaaMe1
namespace Go.Proofs.Ytdfioggeiagihaa
open Go Go.RowKit

theorem cmpN_lt (a b : Nat) : cmpN a b < 0 ↔ a < b := by
  unfold cmpN
  split
  · omega
  · split <;> omega
theorem cmpN_eq (a b : Nat) : cmpN a b = 0 ↔ a = b := by
  unfold cmpN
  split
  · omega
  · split <;> omega
/-- The number stands there. -/
def isAt (l : List Lt) (id k : Nat) : Bool := decide ((l[k]?.map (·.id)) = some id)
/-- Where a number stands, or would. -/
structure Found (l : List Lt) (id k : Nat) : Prop where
  le : k ≤ l.length
  low : ∀ j (hj : j < l.length), j < k → l[j].id < id
  high : ∀ j (hj : j < l.length), k ≤ j → id ≤ l[j].id
set_option maxRecDepth 10000 in
set_option maxHeartbeats 2000000 in
theorem pSearch (p b : Nat) (a : Option Addr) (c : Nat) (st : Nt) (m : Nat) (id : Nat) (w : World) (h : PAt w p b (.slice a st.l.length c) st) (hok : st.Ok m) :
    Calls Try.prog 50 #[.slice a st.l.length c, .int .u64 (id : Int), .func (.func 51) #[] #[]] w fun e w' =>
      ∃ k, Found st.l id k ∧ e = .returned (.tuple #[.int .i64 (k : Int), .bool (isAt st.l id k)]) ∧ Below w.heap.size w w' := by
  have H := hide h
  have HOk := hide hok
  have hfew := hok.few
  have KF := fun x z => hide (pFindFn x id z)
  clear h hok
  go_enter Try.func50, Try.ntmps50
  go_wp2_with fail
  go_loopw [9, 10, 11] (fun i j _ wr => ∃ k1 k2 : Nat, k1 ≤ k2 ∧ k2 ≤ st.l.length ∧ i = .int .i64 (k1 : Int) ∧ j = .int .i64 (k2 : Int) ∧ (∀ x (hx : x < st.l.length), x < k1 → st.l[x].id < id) ∧ (∀ x (hx : x < st.l.length), k2 ≤ x → id ≤ st.l[x].id) ∧ Below w.heap.size w wr) (fun i j _ _ => (intOf j).toNat - (intOf i).toNat)
  case atStart => exact ⟨0, st.l.length, Nat.zero_le _, Nat.le_refl _, rfl, rfl, fun _ _ h => by omega, fun x hx h => by omega, Below.refl _ _⟩
  case round =>
    obtain ⟨k1, k2, h12, h2, rfl, rfl, hlow, hhigh, hb⟩ := hrel
    have HLow := hide hlow
    have HHigh := hide hhigh
    have HB := hide hb
    clear hlow hhigh hb
    by_cases hlt : k1 < k2
    · have hltz : (k1 : Int) < (k2 : Int) := by omega
      obtain ⟨k, hk⟩ : ∃ k : Nat, k = (k1 + k2) / 2 := ⟨_, rfl⟩
      have hk1 : k1 ≤ k := by omega
      have hk2 : k < k2 := by omega
      have hkl : k < st.l.length := by omega
      obtain ⟨g, c', e', -, -, h4, -⟩ := (H.out.below (HB.out)).letter (by omega)
      cases e'
      obtain ⟨g0, g1, g2, g3, g4⟩ := h4 k hkl
      have hkz : (k : Int) < (st.l.length : Int) := by omega
      have HLow2 : Hid (st.l[k].id < id → ∀ x (hx : x < st.l.length), x < k + 1 → st.l[x].id < id) := fun h1 x hx hxk => by
        by_cases e : x = k
        · subst e; exact h1
        · have := List.pairwise_iff_getElem.1 HOk.out.rise x k hx hkl (by omega)
          omega
      have HHigh2 : Hid (¬ st.l[k].id < id → ∀ x (hx : x < st.l.length), k ≤ x → id ≤ st.l[x].id) := fun h1 x hx hxk => by
        by_cases e : x = k
        · subst e; omega
        · have := List.pairwise_iff_getElem.1 HOk.out.rise k x hkl hx (by omega)
          omega
      have HKh : Hid (((k1 : Int) + (k2 : Int)) / 2 = (k : Int)) := by unfold Hid; omega
      clear hk
      go_upto_region 5 with fail
      rw [HKh.out]
      clear HKh hltz h4
      generalize st.l[k] = y at *
      have hcl := cmpN_lt y.id id
      obtain ⟨yi, ya, yb, ys, yg⟩ := y
      dsimp only at *
      go_wp2_with fail
      refine (KF ⟨yi, ya, yb, ys, yg⟩ _).out.mono ?_
      rintro e w2 ⟨rfl, hb2⟩
      have HB2 := hide (bnext HB.out hb2)
      clear hb2 g0 g1 g2 g3 g4
      dsimp only at *
      by_cases hyl : yi < id
      · have hc : cmpN yi id < 0 := hcl.2 hyl
        have HL3 := hide (HLow2.out hyl)
        clear hcl HLow2 HHigh2
        generalize cmpN yi id = cc at *
        go_wp2_with fail
        exact ⟨⟨k + 1, k2, by omega, h2, by go_num, rfl, HL3.out, HHigh.out, HB2.out⟩, by simp [intOf]; omega⟩
      · have hc : ¬ cmpN yi id < 0 := fun h => hyl (hcl.1 h)
        have HL3 := hide (HHigh2.out hyl)
        clear hcl HLow2 HHigh2
        generalize cmpN yi id = cc at *
        go_wp2_with fail
        exact ⟨⟨k1, k, hk1, by omega, rfl, rfl, HLow.out, HL3.out, HB2.out⟩, by simp [intOf]; omega⟩
    · have hltz : ¬ (k1 : Int) < (k2 : Int) := by omega
      obtain rfl : k1 = k2 := by omega
      have HFd : Hid (Found st.l id k1) := ⟨h2, fun x hx hxk => HLow.out x hx hxk, fun x hx hxk => HHigh.out x hx hxk⟩
      by_cases hkl : k1 < st.l.length
      · have hkz : (k1 : Int) < (st.l.length : Int) := by omega
        obtain ⟨g, c', e', -, -, h4, -⟩ := (H.out.below (HB.out)).letter (by omega)
        cases e'
        obtain ⟨g0, g1, g2, g3, g4⟩ := h4 k1 hkl
        have HD : Hid (isAt st.l id k1 = decide (st.l[k1].id = id)) := by
          unfold Hid isAt
          rw [List.getElem?_eq_getElem hkl]
          simp
        clear h4
        generalize st.l[k1] = y at *
        have hcl := cmpN_eq y.id id
        obtain ⟨yi, ya, yb, ys, yg⟩ := y
        dsimp only at *
        go_wp2_with fail
        refine (KF ⟨yi, ya, yb, ys, yg⟩ _).out.mono ?_
        rintro e w2 ⟨rfl, hb2⟩
        have HB2 := hide (bnext HB.out hb2)
        clear hb2 g0 g1 g2 g3 g4
        dsimp only at *
        by_cases hyl : yi = id
        · have hc : (cmpN yi id == 0) = true := by rw [hcl.2 hyl]; rfl
          have HE := hide hyl
          clear hcl hyl
          generalize cmpN yi id = cc at *
          go_wp2
          go_ret2
          exact ⟨k1, HFd.out, by rw [HD.out, decide_eq_true HE.out]; rfl, HB2.out⟩
        · have hc : (cmpN yi id == 0) = false := by simpa using fun h => hyl (hcl.1 h)
          have HE := hide hyl
          clear hcl hyl
          generalize cmpN yi id = cc at *
          go_wp2
          go_ret2
          exact ⟨k1, HFd.out, by rw [HD.out, decide_eq_false HE.out]; rfl, HB2.out⟩
      · have hkz : ¬ (k1 : Int) < (st.l.length : Int) := by omega
        have HD : Hid (isAt st.l id k1 = false) := by
          unfold Hid isAt
          rw [List.getElem?_eq_none (by omega)]
          simp
        go_wp2
        go_ret2
        exact ⟨k1, HFd.out, by rw [HD.out]; rfl, HB.out⟩
theorem Found.yes {l : List Lt} {id k : Nat} (h : isAt l id k = true) : ∃ hk : k < l.length, l[k].id = id := by
  unfold isAt at h
  have h1 := of_decide_eq_true h
  by_cases hk : k < l.length
  · rw [List.getElem?_eq_getElem hk] at h1
    exact ⟨hk, by simpa using h1⟩
  · rw [List.getElem?_eq_none (by omega)] at h1
    cases h1
theorem Found.no {l : List Lt} {id k : Nat} (h : Found l id k) (hr : l.Pairwise (fun x y => x.id < y.id)) (hn : isAt l id k = false) : ∀ j (hj : j < l.length), l[j].id ≠ id := fun j hj e => by
  by_cases h1 : j < k
  · have := h.low j hj h1; omega
  · by_cases h2 : j = k
    · subst h2
      unfold isAt at hn
      rw [List.getElem?_eq_getElem hj] at hn
      simp [e] at hn
    · have h3 := List.pairwise_iff_getElem.1 hr k j (by omega) hj (by omega)
      have := h.high k (by omega) (Nat.le_refl _)
      omega
set_option maxRecDepth 10000 in
set_option maxHeartbeats 1000000 in
theorem pFind (p b : Nat) (vL : Value) (st : Nt) (m : Nat) (id : Nat) (w : World) (h : PAt w p b vL st) (hok : st.Ok m) :
    Calls Try.prog 38 #[.pointer (some ⟨p, 0, none⟩), .int .u64 (id : Int)] w fun e w' => Below w.heap.size w w' ∧ ((st.find id = none ∧ e = .returned (.tuple #[.int .i64 0, .int .i64 5])) ∨ ∃ k, ∃ hk : k < st.l.length, st.find id = some st.l[k] ∧ st.l[k].id = id ∧ e = .returned (.tuple #[.int .i64 (k : Int), .int .i64 0])) := by
  have KM := hide (pMade p b vL st w h)
  obtain ⟨a, c, rfl, -⟩ := h.ls.slice
  have KS := hide (pSearch p b a c st m id w h hok)
  obtain ⟨c0, c1, c2⟩ := h.cells
  have HOk := hide hok
  clear h hok
  go_enter Try.func38, Try.ntmps38
  go_wp2_with fail
  refine KM.out.mono ?_
  rintro e w1 ⟨rfl, hw⟩
  obtain rfl := hw.symm
  clear hw
  go_wp2_with fail
  refine KS.out.mono ?_
  rintro e w2 ⟨k, hf, rfl, hb⟩
  have HB := hide hb
  have HF := hide hf
  clear hb hf KS KM
  cases hat : isAt st.l id k with
  | true =>
    obtain ⟨hk, hid⟩ := Found.yes hat
    have HR : Hid (st.find id = some st.l[k] ∧ st.l[k].id = id) := ⟨by rw [← hid]; exact find_at HOk.out k hk, hid⟩
    clear hid
    go_wp2
    go_ret2
    exact ⟨HB.out, Or.inr ⟨k, hk, HR.out.1, HR.out.2, rfl⟩⟩
  | false =>
    have HR : Hid (st.find id = none) := by
      refine List.find?_eq_none.2 (fun y hy => ?_)
      obtain ⟨j, hj, rfl⟩ := List.getElem_of_mem hy
      have := HF.out.no HOk.out.rise hat j hj
      simpa using this
    go_wp2
    go_ret2
    exact ⟨HB.out, Or.inl ⟨HR.out, rfl⟩⟩
theorem nFind (id : Nat) (w : World) : Calls Try.prog 38 #[.pointer none, .int .u64 (id : Int)] w fun e w' => w' = w ∧ e = .returned (.tuple #[.int .i64 0, .int .i64 1]) := by
  have KM := hide (nMade w)
  go_enter Try.func38, Try.ntmps38
  go_wp2_with fail
  refine KM.out.mono ?_
  rintro e w1 ⟨rfl, hw⟩
  obtain rfl := hw.symm
  clear hw
  go_wp2
  go_ret2
  exact ⟨rfl, rfl⟩
end Go.Proofs.Ytdfioggeiagihaa
