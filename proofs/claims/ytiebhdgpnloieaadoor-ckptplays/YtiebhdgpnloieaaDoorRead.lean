/- The program's disk: Read. -/
import Derived.Test.YtiebhdgpnloieaaDoorStand
namespace Go.Proofs.YtiebhdgpnloieaaDoor
open Go Go.RowKit
/-- The bytes of a block's cells, as a text. -/
theorem text_of (T : ByteArray) (g : Nat) (u : World) (h : u.heap[g]? = some (.cells (tc T).toArray 72 (0, 0))) (hT : T.size = 256) : (convert 56 9 (.slice (some ⟨g, 0, none⟩) 256 256)).run Tryd.prog u = .ok (.string T) u := by
  have key := run_convert_bytes_back (P := Tryd.prog) u 56 9 5 ⟨g, 0, none⟩ 256 T.data.toList Tryd.underlying56 Tryd.underlying5 Tryd.underlying9 (fun j hj => by
    rw [add_at, cell_of_row _ _ _ _ _ _ h]
    unfold tc Lib.byteCells
    rw [List.getElem?_toArray, List.getElem?_map, List.getElem?_eq_getElem hj]
    rfl)
  rw [show T.data.toList.length = 256 from by rw [← Lib.size_eq]; exact hT] at key
  exact key
set_option maxRecDepth 10000 in
set_option maxHeartbeats 1000000 in
theorem pRead (p : Nat) (vS vL : Value) (x : Int) (st : St) (b : Int) (w : World) (h : PAt w p vS vL x st) (hok : st.Ok) (hl : st.loose.length ≤ 10000) :
    Calls Tryd.prog 63 #[.pointer (some ⟨p, 0, none⟩), .int .i64 b] w fun e w' => e = .returned (.tuple #[.string (st.read b).1, .int .i64 (((st.read b).2 : Nat) : Int)]) ∧ Below w.heap.size w w' := by
  have KF := hide (pFaultAt p vS vL x st b w h hok)
  have H := hide h
  have HOk := hide hok
  by_cases h0 : st.left = 0
  · have hw : st.read b = (noText, 50) := by unfold St.read; rw [if_pos h0]
    have hf : faultAtOf st b = 50 := by unfold faultAtOf; rw [if_pos h0]
    rw [hw]
    rw [hf] at KF
    clear hw hf h0 h hok
    go_enter Tryd.func63, Tryd.ntmps63
    go_wp2_with fail
    refine KF.out.mono ?_
    rintro e w1 ⟨rfl, hw1⟩
    obtain rfl := hw1.symm
    go_wp2
    go_ret2
    exact ⟨rfl, Below.refl _ _⟩
  · by_cases h1 : 0 ≤ b ∧ b < (st.sure.length : Int)
    · have hw : st.read b = (stands st.sure b.toNat st.loose.reverse, 0) := by unfold St.read; rw [if_neg h0, if_neg (fun h => h h1)]
      have hf : faultAtOf st b = 0 := by unfold faultAtOf; rw [if_neg h0, if_neg (fun hh => hh h1)]
      rw [hw]
      rw [hf] at KF
      obtain ⟨m, hm⟩ : ∃ m : Nat, b = (m : Int) := ⟨b.toNat, by omega⟩
      subst hm
      have hms : m < st.sure.length := by omega
      have KS := hide (pStanding p vS vL x st m w h hok hms hl)
      have HRs := hide (stands_size hok.full hms st.loose.reverse (fun w hw => (hok.there w (List.mem_reverse.1 hw)).2))
      rw [show ((m : Int)).toNat = m from by omega]
      generalize stands st.sure m st.loose.reverse = T at *
      have hz := zv69
      have HZ1 := hide zrow1_size
      have HT1 := hide (tone T)
      have HTs : Hid ((tc T).toArray.size = 256) := tsize _ HRs.out
      clear hw hf h0 h1 h hok
      go_enter Tryd.func63, Tryd.ntmps63
      go_wp2_with fail
      refine KF.out.mono ?_
      rintro e w1 ⟨rfl, hw1⟩
      obtain rfl := hw1.symm
      go_wp2_with fail
      refine KS.out.mono ?_
      rintro e w2 ⟨rfl, hb2⟩
      have HB2 := hide hb2
      have HA1 := hide (heap_alloc_last w2 (.cells zrow1 72))
      have HA2 := hide (World.setRow_alloc_new w2 zrow1 (tc T).toArray 72)
      have HCv := hide (text_of T w2.heap.size _ (heap_alloc_last w2 (.cells (tc T).toArray 72)) HRs.out)
      have HBl := hide (bnext hb2 ((Below.refl _ _).alloc (Nat.le_refl _) (.cells (tc T).toArray 72)))
      clear hb2
      generalize zrow1 = Z at *
      go_upto_region 5 with (with_reducible refine wpList_store_row (by with_unfolding_all rfl) 72 (.tmp 7) (.tmp 16) (by with_unfolding_all rfl) w2.heap.size (tc T).toArray (by with_unfolding_all rfl) (by with_unfolding_all rfl) 72 Z HA1.out (by rw [HTs.out]; exact size69) (by rw [HTs.out, HZ1.out]) HT1.out ?_)
      rw [HA2.out]
      have hcv := HCv.out
      clear HA1 HA2 hz HCv
      generalize w2.alloc (.cells (tc T).toArray 72) = U at *
      generalize w2.heap.size = g at *
      go_wp2
      go_ret2
      exact ⟨rfl, HBl.out⟩
    · have hw : st.read b = (noText, 5) := by unfold St.read; rw [if_neg h0, if_pos h1]
      have hf : faultAtOf st b = 5 := by unfold faultAtOf; rw [if_neg h0, if_pos h1]
      rw [hw]
      rw [hf] at KF
      clear hw hf h0 h1 h hok
      go_enter Tryd.func63, Tryd.ntmps63
      go_wp2_with fail
      refine KF.out.mono ?_
      rintro e w1 ⟨rfl, hw1⟩
      obtain rfl := hw1.symm
      go_wp2
      go_ret2
      exact ⟨rfl, Below.refl _ _⟩
set_option maxHeartbeats 400000 in
theorem nRead (b : Int) (w : World) : Calls Tryd.prog 63 #[.pointer none, .int .i64 b] w fun e w' => e = .returned (.tuple #[.string ⟨#[]⟩, .int .i64 1]) ∧ w' = w := by
  go_enter Tryd.func63, Tryd.ntmps63
  go_wp2_with fail
  refine (nFaultAt b w).mono ?_
  rintro e w1 ⟨rfl, hw1⟩
  obtain rfl := hw1.symm
  go_wp2
  go_ret2
  exact ⟨rfl, rfl⟩
end Go.Proofs.YtiebhdgpnloieaaDoor
