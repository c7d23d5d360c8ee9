/- The document's own checkpoints: a block of a text. -/
import Derived.Test.YtiebhdgpnloieaaDoorRa
namespace Go.Proofs.YtiebhdgpnloieaaDoor
open Go Go.RowKit Frm
theorem blk_cut (t : ByteArray) (k lo hi : Nat) (hlo : lo = min (k * 256) t.size) (hhi : hi = min (lo + 256) t.size) : t.extract lo hi ++ zs (256 - (hi - lo)) = blkT t k := by
  unfold blkT
  have h1 : 256 - (hi - lo) = 256 - min 256 (t.size - k * 256) := by omega
  rw [h1]
  congr 1
  by_cases e : k * 256 ≤ t.size
  · rw [show lo = k * 256 from by omega]
    apply ByteArray.ext
    rw [ByteArray.data_extract, ByteArray.data_extract]
    have hsz : t.data.size = t.size := rfl
    apply Array.ext
    · simp; omega
    · intro i a b; simp
  · refine bytes_ext (by rw [ByteArray.size_extract, ByteArray.size_extract]; omega) (fun j hj => ?_)
    rw [ByteArray.size_extract] at hj
    omega
set_option maxRecDepth 10000 in
set_option maxHeartbeats 2000000 in
theorem rBlock_any (t : ByteArray) (k : Nat) (w : World) (hk : k ≤ 1000000) (ht : t.size ≤ 140737488351232) :
    Calls Tryd.prog 47 #[.string t, .int .i64 (k : Int)] w fun e w' => e = .returned (.string (blkT t k)) ∧ Below w.heap.size w w' := by
  obtain ⟨lo, hlo⟩ : ∃ lo, lo = min (k * 256) t.size := ⟨_, rfl⟩
  obtain ⟨hi, hhi⟩ : ∃ hi, hi = min (lo + 256) t.size := ⟨_, rfl⟩
  have hz3 : wrap64 ((k : Int) * 256) = (k : Int) * 256 := by unfold wrap64; omega
  have hm1 : (if (t.size : Int) < (k : Int) * 256 then (t.size : Int) else (k : Int) * 256) = (lo : Int) := by split <;> omega
  have hz4 : wrap64 ((lo : Int) + 256) = (lo : Int) + 256 := by unfold wrap64; omega
  have hm2 : (if (t.size : Int) < (lo : Int) + 256 then (t.size : Int) else (lo : Int) + 256) = (hi : Int) := by split <;> omega
  obtain ⟨m, hm⟩ : ∃ m, m = hi - lo := ⟨_, rfl⟩
  obtain ⟨z, hz⟩ : ∃ z, z = 256 - m := ⟨_, rfl⟩
  have HE : Hid (t.extract lo hi ++ zs z = blkT t k) := by show _ = _; rw [hz, hm]; exact blk_cut t k lo hi hlo hhi
  have HSz : Hid ((t.extract lo hi).size = m) := by show _ = _; rw [ByteArray.size_extract]; omega
  have HI : Hid ((lo : Int) ≤ (hi : Int) ∧ (hi : Int) ≤ (t.size : Int) ∧ wrap64 ((hi : Int) - (lo : Int)) = (m : Int) ∧ wrap64 (256 - (m : Int)) = (z : Int) ∧ z ≤ 256 ∧ m ≤ 256 ∧ IntKind.i64.wrap ((hi : Int) - (lo : Int)) = (m : Int) ∧ IntKind.i64.wrap (256 - (m : Int)) = (z : Int)) := by
    have e1 : wrap64 ((hi : Int) - (lo : Int)) = (m : Int) := by unfold wrap64; omega
    have e2 : wrap64 (256 - (m : Int)) = (z : Int) := by unfold wrap64; omega
    exact ⟨by omega, by omega, e1, e2, by omega, by omega, by rw [IntKind.wrap_i64]; omega, by rw [IntKind.wrap_i64]; omega⟩
  clear hlo hhi hm hz
  go_enter Tryd.func47, Tryd.ntmps47
  go_upto_region 3 with fail
  obtain ⟨h1, h2, h3, h4, h5, h6, h7, h8⟩ := HI.out
  have hzm := fun u => zcmake z h5 u
  have hzt := zctext z w (w.alloc (.cells (zc z) 5)).drew (heap_alloc_last w _)
  have hsz := HSz.out
  have hzs := zs_size z
  have hrev : ¬ ((hi : Int) < (lo : Int)) := by omega
  have hcat : ¬ (9223372036854775807 < m + z) := by omega
  clear hm1 hm2 hz3 hz4 HI
  generalize zs z = zz at *
  have hsz2 : t.extract lo hi ++ zz = blkT t k := HE.out
  go_region_law (fail)
  have HB : Below w.heap.size w (w.alloc (.cells (zc z) 5)).drew := ((Below.refl _ _).alloc (Nat.le_refl _) _).drew
  go_wp2
  go_ret
  exact ⟨rfl, HB⟩
end Go.Proofs.YtiebhdgpnloieaaDoor
