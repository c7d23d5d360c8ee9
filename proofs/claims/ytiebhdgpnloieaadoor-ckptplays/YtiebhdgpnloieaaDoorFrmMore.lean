/- What More and Of do. -/
import Derived.Test.YtiebhdgpnloieaaDoorFrmTables
import Derived.Test.YtiebhdgpnloieaaDoorGFrm
namespace Go.Proofs.YtiebhdgpnloieaaDoor.Frm
open Go Go.RowKit
theorem store_new58 (w : World) (f : Nat → Nat) : (storeCells ⟨w.heap.size, 0, none⟩ (rowN 256 f).toList 0).run Tryd.prog (w.alloc (.cells (rowN 256 fun _ => 0) 133)) = .ok () (w.alloc (.cells (rowN 256 f) 133)) :=
  run_storeCells_new w 133 _ _ (by rw [rowN_size]; exact info58) (by rw [rowN_size, rowN_size]) (rowN_one _ _)
set_option maxRecDepth 10000 in
set_option maxHeartbeats 1000000 in
theorem more_core (c : Nat) (s : ByteArray) (F : Nat → Nat) (w : World) (hc : c < 4294967296) (hs : s.size ≤ maxLen)
    (h0 : F 0 = cpl c) (hF : ∀ k, F k < 4294967296) (hn : ∀ k (h : k < s.size), F (k + 1) = upd (F k) s[k].toNat) :
    Calls Tryd.prog 72 #[.int .u32 (c : Int), .string s] w fun e w' => e = .returned (.int .u32 ((cpl (F s.size) : Nat) : Int)) ∧ Below w.heap.size w w' := by
  unfold maxLen at hs
  have H0 := hide h0
  have HF := hide hF
  have HN := hide hn
  have HC := hide hc
  clear h0 hF hn hc
  have hz := zv58
  go_enter Tryd.func72, Tryd.ntmps72
  go_wp2_with fail
  refine (bytesAlone_any _).mono ?_
  rintro e w1 ⟨rfl, hb1⟩
  have hst := store_new58 w1 (fun i => stps 8 i)
  have hR := RowAt.new w1 256 133 (fun i => stps 8 i)
  have hbel := (hb1.alloc (w := w1) hb1.size (.cells (rowN 256 fun i => stps 8 i) 133))
  have hsz := rowN_size 256 (fun i => stps 8 i)
  have HR := hide hR
  have HB := hide hbel
  clear hR hbel hb1
  generalize (rowN 256 fun _ => 0) = Z at *
  generalize (rowN 256 fun i => stps 8 i) = R at *
  go_wp2_with fail
  clear hst hsz hz
  generalize w1.alloc (.cells R 133) = W at *
  generalize w1.heap.size = g at *
  go_loop [0, 6, 12] (fun t _ i => ∃ k : Nat, k ≤ s.size ∧ i = .int .i64 k ∧ t = .int .u32 ((F k : Nat) : Int)) (fun _ _ i => s.size - (intOf i).toNat)
  case atStart => exact ⟨0, Nat.zero_le _, rfl, val_u32 (by rw [H0.out]; exact u32_xor c 4294967295 HC.out (by decide))⟩
  case round =>
    obtain ⟨k, hk, rfl, rfl⟩ := hrel
    by_cases hlt : k < s.size
    · have hb := s[k].toNat_lt
      have hm : F k % 256 < 256 := Nat.mod_lt _ (by decide)
      have hx8 : bits .xor .u8 ((F k : Int) % 256) ((s[k].toNat : Nat) : Int) = ((F k % 256 ^^^ s[k].toNat : Nat) : Int) := by
        have h := u8_xor_nat (F k % 256) s[k].toNat hm hb
        rw [show ((F k % 256 : Nat) : Int) = (F k : Int) % 256 from by omega] at h
        exact h
      have hi : F k % 256 ^^^ s[k].toNat < 256 := Nat.xor_lt_two_pow (n := 8) hm hb
      have hc := HR.out.cell hi
      have hx32 := u32_xor (stps 8 (F k % 256 ^^^ s[k].toNat)) (F k / 256) (stps_lt 8 (by omega)) (by have := HF.out k; omega)
      rw [upd_by (F k) _ hb, ← HN.out k hlt, show ((F k / 256 : Nat) : Int) = (F k : Int) / 256 from by omega] at hx32
      generalize F k % 256 ^^^ s[k].toNat = idx at *
      generalize stps 8 idx = sv at *
      clear hm hb
      go_wp2
      go_round
      case rel => exact ⟨k + 1, by omega, by go_num, rfl⟩
      case measure => simp [intOf]; omega
    · go_wp2_with fail
      go_ret
      have hke : k = s.size := by omega
      subst hke
      exact ⟨ret_u32 (u32_xor _ 4294967295 (HF.out _) (by decide)), HB.out⟩

theorem more_any (c : Nat) (s : ByteArray) (w : World) (hc : c < 4294967296) (hs : s.size ≤ maxLen) :
    Calls Tryd.prog 72 #[.int .u32 (c : Int), .string s] w fun e w' => e = .returned (.int .u32 ((more c (bytesOf s) : Nat) : Int)) ∧ Below w.heap.size w w' := by
  have h := more_core c s (fun k => fold (cpl c) ((bytesOf s).take k)) w hc hs rfl
    (fun k => fold_lt _ (cpl_lt hc) (fun b hm => bytesOf_lt s b (List.mem_of_mem_take hm)))
    (fun k hk => by
      have e : (bytesOf s).take (k + 1) = (bytesOf s).take k ++ [s[k].toNat] := by
        have hk2 : k < (s.data.toList.map UInt8.toNat).length := by simpa using hk
        unfold bytesOf
        rw [List.take_succ_eq_append_getElem hk2]
        simp
        rfl
      show fold (cpl c) ((bytesOf s).take (k + 1)) = _
      rw [e, fold_append]
      rfl)
  have e : (bytesOf s).take s.size = bytesOf s := List.take_of_length_le (by rw [bytesOf_length]; exact Nat.le_refl _)
  simp only [e] at h
  exact h
set_option maxHeartbeats 400000 in
theorem of_any (s : ByteArray) (w : World) (hs : s.size ≤ maxLen) :
    Calls Tryd.prog 62 #[.string s] w fun e w' => e = .returned (.int .u32 ((more 0 (bytesOf s) : Nat) : Int)) ∧ Below w.heap.size w w' := by
  have HM : Hid (∀ u, Calls Tryd.prog 72 #[.int .u32 0, .string s] u fun e w' => e = .returned (.int .u32 ((more 0 (bytesOf s) : Nat) : Int)) ∧ Below u.heap.size u w') := fun u => more_any 0 s u (by decide) hs
  go_enter Tryd.func62, Tryd.ntmps62
  go_wp2_with fail
  refine (HM.out _).mono ?_
  rintro e w1 ⟨rfl, hb1⟩
  have HB := hide hb1
  clear hb1
  go_wp2
  go_ret
  exact ⟨rfl, HB.out⟩
end Go.Proofs.YtiebhdgpnloieaaDoor.Frm