/- The document's own disk: Read, Sure. -/
import Derived.Test.YtiebhdgpnloieaaDoorRefB
namespace Go.Proofs.YtiebhdgpnloieaaDoor
open Go Go.RowKit

theorem rev_take (l : List (Nat × ByteArray)) (k : Nat) (h : k < l.length) : (l.take (k + 1)).reverse = l[k] :: (l.take k).reverse := by
  rw [List.take_succ_eq_append_getElem h, List.reverse_append]; rfl
theorem row_cell {w : World} {base : Nat} {e : TypeId} {size n : Nat} {a : Option Addr} {c : Nat} {xs : List Value} (h : w.ownsRow base e size (.slice a n c) n xs) (hn : 0 < n) : ∃ g, a = some ⟨g, 0, none⟩ ∧ ∀ j, j < n * size → w.cell? ⟨g, j, none⟩ = xs[j]? := by
  rcases h.2 with ⟨h1, h2⟩ | ⟨g, cap, cur, h1, _⟩
  · omega
  · cases h1
    exact ⟨g, rfl, fun j hj => World.ownsRow.cellAt h j hj⟩
set_option maxRecDepth 10000 in
set_option maxHeartbeats 1000000 in
theorem rRead (p : Nat) (vS vL : Value) (st : St) (b : Int) (w : World) (h : RAt w p vS vL st) (hok : st.Ok) (hl : st.loose.length ≤ 100000) :
    Calls Tryd.prog 28 #[.pointer (some ⟨p, 0, none⟩), .int .i64 b] w fun e w' => e = .returned (.tuple #[.string (st.read b).1, .int .i64 (((st.read b).2 : Nat) : Int)]) ∧ w' = w := by
  have HD := hide (rDown p vS vL st w h)
  have HT := hide (rThere p vS vL st b w h hok.few)
  have HOk := hide hok
  obtain ⟨aS, cS, rfl, _⟩ := slice_of h.sure
  obtain ⟨aL, cL, rfl, _⟩ := slice_of h.loose
  have hc0 := h.cell0
  have hc1 := h.cell1
  have H := hide h
  clear h hok
  by_cases h0 : st.left = 0
  · have hw : st.read b = (noText, 50) := by unfold St.read; rw [if_pos h0]
    rw [hw]
    have hb : (st.left == 0) = true := by simpa using h0
    rw [hb] at HD
    clear hw hb h0
    go_enter Tryd.func28, Tryd.ntmps28
    go_wp2_with fail
    refine HD.out.mono ?_
    rintro e w1 ⟨rfl, rfl⟩
    go_wp2
    go_ret2
    exact ⟨rfl, rfl⟩
  · have hb : (st.left == 0) = false := by simpa using h0
    rw [hb] at HD
    clear hb
    by_cases h1 : 0 ≤ b ∧ b < (st.sure.length : Int)
    · rw [decide_eq_true h1] at HT
      have hw : st.read b = (stands st.sure b.toNat st.loose.reverse, 0) := by unfold St.read; rw [if_neg h0, if_neg (fun h => h h1)]
      rw [hw]
      obtain ⟨m, hm⟩ : ∃ m : Nat, b = (m : Int) := ⟨b.toNat, by omega⟩
      subst hm
      have hms : m < st.sure.length := by omega
      have hmf := HOk.out.few
      obtain ⟨gS, rfl, hcS⟩ := row_cell H.out.sure (by omega)
      have hcm := hcS m (by omega)
      have hgm : (st.sure.map Value.string)[m]? = some (.string (st.sure.getD m noText)) := by simp [hms]
      rw [hgm] at hcm
      rw [show ((m : Int)).toNat = m from by omega]
      generalize hT : stands st.sure m st.loose.reverse = T
      have HT2 := hide hT
      clear hT hw h0 h1 hcS hgm
      generalize hn : st.sure.length = n at *
      go_enter Tryd.func28, Tryd.ntmps28
      go_wp2_with fail
      refine HD.out.mono ?_
      rintro e w1 ⟨rfl, rfl⟩
      go_wp2_with fail
      refine HT.out.mono ?_
      rintro e w1 ⟨rfl, rfl⟩
      go_wp2_with fail
      go_loop [6] (fun i => ∃ k : Nat, k ≤ st.loose.length ∧ i = .int .i64 ((k : Int) - 1) ∧ stands st.sure m (st.loose.take k).reverse = T) (fun i => (intOf i + 1).toNat)
      case atStart => exact ⟨st.loose.length, Nat.le_refl _, rfl, by rw [List.take_length]; exact HT2.out⟩
      case round =>
        obtain ⟨k, hk, rfl, hst⟩ := hrel
        have HS := hide hst
        clear hst
        cases k with
        | zero =>
          have hT : st.sure.getD m noText = T := HS.out
          rw [hT] at hcm
          go_wp2
          go_ret2
          exact ⟨rfl, rfl⟩
        | succ k =>
          have hkl : k < st.loose.length := hk
          obtain ⟨gL, rfl, hcL⟩ := row_cell H.out.loose (by omega)
          have e1 := hcL (k * 2) (by omega)
          have e2 := hcL (k * 2 + 1) (by omega)
          rw [(looseCells_at st.loose k hkl).1] at e1
          rw [(looseCells_at st.loose k hkl).2] at e2
          have hs2 := HS.out
          rw [rev_take _ _ hkl] at hs2
          unfold stands at hs2
          have HS2 := hide hs2
          have hki : (((k + 1 : Nat) : Int) - 1) = (k : Int) := by omega
          rw [hki]
          clear hs2 hcL hki HS
          by_cases heq : st.loose[k].1 = m
          · have hs3 := HS2.out
            rw [if_pos heq] at hs3
            rw [hs3] at e2
            rw [heq] at e1
            go_wp2
            go_ret2
            exact ⟨rfl, rfl⟩
          · have hs3 := HS2.out
            rw [if_neg heq] at hs3
            have HS3 := hide hs3
            have hez : ¬ (((st.loose[k].1 : Nat) : Int) = (m : Int)) := by omega
            clear hs3 HS2
            generalize hq : st.loose[k].1 = x at *
            clear hq
            go_wp2
            go_round
            case rel => exact ⟨k, by omega, rfl, HS3.out⟩
            case measure => simp [intOf]
    · rw [decide_eq_false h1] at HT
      have hw : st.read b = (noText, 5) := by unfold St.read; rw [if_neg h0, if_pos h1]
      rw [hw]
      clear hw h0 h1
      go_enter Tryd.func28, Tryd.ntmps28
      go_wp2_with fail
      refine HD.out.mono ?_
      rintro e w1 ⟨rfl, rfl⟩
      go_wp2_with fail
      refine HT.out.mono ?_
      rintro e w1 ⟨rfl, rfl⟩
      go_wp2
      go_ret2
      exact ⟨rfl, rfl⟩
end Go.Proofs.YtiebhdgpnloieaaDoor
