/- The law SumBursts, walked. -/
import Derived.Test.YtppebhnfiddbmaaDoorAlive
namespace Go.Proofs.YtppebhnfiddbmaaDoor
open Go Go.RowKit
/-- The bytes of a list lie in block b, from its head on, and may be written. -/
def BytesAt (u : World) (b : Nat) (l : List UInt8) : Prop := ∀ j (hj : j < l.length), u.cell? ⟨b, j, none⟩ = some (.int .u8 ((l[j].toNat : Nat) : Int)) ∧ u.frozen? ⟨b, j, none⟩ = false
theorem bytes_new (w : World) (s : ByteArray) (cap : Nat) (e : TypeId) : BytesAt (w.drew.alloc (.cells (bytesRow s cap) e ((bytesRow s cap).size, (bytesRow s cap).size + 1))) w.heap.size s.data.toList := by
  intro j hj
  have hj' : j < s.data.size := by simpa using hj
  have hlt : j < (bytesRow s cap).size := by
    have h := bytesRow_at s cap j hj'
    exact (Array.getElem?_eq_some_iff.1 h).1
  refine ⟨?_, ?_⟩
  · have h := World.cell?_alloc_mark w.drew (bytesRow s cap) e ((bytesRow s cap).size, (bytesRow s cap).size + 1) j
    rw [show w.drew.heap.size = w.heap.size from rfl] at h
    rw [h, bytesRow_at s cap j hj']
    simp
  · have h := World.frozen?_alloc_mark w.drew (bytesRow s cap) e (bytesRow s cap).size ((bytesRow s cap).size + 1) j
    rw [show w.drew.heap.size = w.heap.size from rfl] at h
    rw [h]
    simp
    omega
theorem bit_val (x b j m : Nat) (hx : x < 256) (hb : b < 4294967296) (hm : m < 8) :
    bits .xor .u8 (x : Int) (bits .and .u32 ((b : Int) / 2 ^ j) 1 % 256 * 2 ^ m % 256) = ((x ^^^ b / 2 ^ j % 2 * 2 ^ m : Nat) : Int) := by
  have e1 : (b : Int) / 2 ^ j = ((b / 2 ^ j : Nat) : Int) := by
    rw [show ((2 : Int) ^ j) = ((2 ^ j : Nat) : Int) from (Int.natCast_pow 2 j).symm]; exact (Int.natCast_ediv _ _).symm
  have h1 : b / 2 ^ j < 4294967296 := Nat.lt_of_le_of_lt (Nat.div_le_self _ _) hb
  rw [e1, and_one _ h1]
  have h2 : b / 2 ^ j % 2 < 2 := Nat.mod_lt _ (by decide)
  generalize b / 2 ^ j % 2 = y at *
  have h3 : 2 ^ m ≤ 128 := by
    have := Nat.pow_le_pow_right (n := 2) (by decide) (show m ≤ 7 by omega)
    omega
  have e2 : ((2 : Int) ^ m) = ((2 ^ m : Nat) : Int) := (Int.natCast_pow 2 m).symm
  rw [e2]
  generalize 2 ^ m = p at *
  have h4 : y * p ≤ 1 * 128 := Nat.mul_le_mul (by omega) h3
  have e3 : ((y : Int) % 256 * (p : Int)) % 256 = ((y * p : Nat) : Int) := by
    rw [show (y : Int) % 256 = (y : Int) from by omega, ← Int.natCast_mul]; omega
  rw [e3]
  exact u8_xor_nat x (y * p) hx (by omega)
theorem byte_lt (y m : Nat) (hy : y < 2) (hm : m < 8) : y * 2 ^ m < 256 := by
  have h3 : 2 ^ m ≤ 2 ^ 7 := Nat.pow_le_pow_right (n := 2) (by decide) (by omega)
  have h4 : y * 2 ^ m ≤ 1 * 2 ^ 7 := Nat.mul_le_mul (by omega) h3
  omega
theorem BytesAt.set {u : World} {b : Nat} {l : List UInt8} (h : BytesAt u b l) (k v : Nat) (hk : k < l.length) (hv : v < 256) :
    BytesAt (u.setCell ⟨b, k, none⟩ (.int .u8 (v : Int))) b (l.set k (UInt8.ofNat v)) := by
  intro j hj
  have hj' : j < l.length := by simpa using hj
  refine ⟨?_, by rw [World.frozen?_setCell]; exact (h j hj').2⟩
  by_cases e : k = j
  · subst e
    rw [World.cell?_setCell_same _ _ _ (h k hk).1, List.getElem_set_self]
    rw [UInt8.toNat_ofNat', Nat.mod_eq_of_lt hv]
  · rw [World.cell?_setCell_other u ⟨b, k, none⟩ ⟨b, j, none⟩ _ (fun hh => e (congrArg Addr.off hh)), List.getElem_set_ne e]
    exact (h j hj').1
/-- One bit more is turned. -/
theorem turn_num (l : List UInt8) (s : List Nat) (f b j : Nat) (hk : (f + j) / 8 < l.length) (hn : num (l.map UInt8.toNat) = num s ^^^ 2 ^ f * (b % 2 ^ j)) :
    num ((l.set ((f + j) / 8) (UInt8.ofNat (l[(f + j) / 8].toNat ^^^ b / 2 ^ j % 2 * 2 ^ ((f + j) % 8)))).map UInt8.toNat) = num s ^^^ 2 ^ f * (b % 2 ^ (j + 1)) := by
  have hy := byte_lt (b / 2 ^ j % 2) ((f + j) % 8) (Nat.mod_lt _ (by decide)) (Nat.mod_lt _ (by decide))
  have hv : l[(f + j) / 8].toNat ^^^ b / 2 ^ j % 2 * 2 ^ ((f + j) % 8) < 256 := Nat.xor_lt_two_pow (n := 8) l[(f + j) / 8].toNat_lt hy
  have hk2 : (f + j) / 8 < (l.map UInt8.toNat).length := by simpa using hk
  have h := num_set (l.map UInt8.toNat) ((f + j) / 8) (b / 2 ^ j % 2 * 2 ^ ((f + j) % 8)) hk2
  rw [List.map_set, UInt8.toNat_ofNat', Nat.mod_eq_of_lt hv]
  rw [List.getElem_map] at h
  rw [h, hn, Nat.xor_assoc, bits_succ b j, mul_xor]
  congr 2
  rw [Nat.mul_comm (b / 2 ^ j % 2), ← Nat.mul_assoc, pow_at, Nat.pow_add, Nat.mul_assoc]
set_option maxRecDepth 10000 in
set_option maxHeartbeats 1000000 in
theorem SumBursts_core (s : ByteArray) (a b : Nat) (w : World) (hs : s.size ≤ 8192) (h5 : 5 ≤ s.size) (ha : a < 65536) (hb : b < 4294967296) (hb0 : b ≠ 0) (hT : TabAt w) :
    Calls Tryd.prog 6 #[.string s, .int .u16 (a : Int), .int .u32 (b : Int)] w fun e w' => e = .returned (.bool true) ∧ Below w.heap.size w w' := by
  have HT := hide hT
  have hcv := fun u => run_bytes_of_string (P := Tryd.prog) u 9 31 5 s Tryd.underlying9 Tryd.underlying31 Tryd.underlying5
  have hz1 : ¬ ((s.size : Int) < 5) := by omega
  have hz2 : ¬ ((8192 : Int) < (s.size : Int)) := by omega
  have hz3 : ¬ ((b : Int) = 0) := by omega
  clear hT
  go_enter Tryd.func6, Tryd.ntmps6
  go_wp2_with fail
  have hN : BytesAt (w.alloc (.cells (bytesRow s (grownCap w s.size 0 5)) 5 ((bytesRow s (grownCap w s.size 0 5)).size, (bytesRow s (grownCap w s.size 0 5)).size + 1))).drew w.heap.size s.data.toList := bytes_new w s _ 5
  have hB : Below w.heap.size w (w.alloc (.cells (bytesRow s (grownCap w s.size 0 5)) 5 ((bytesRow s (grownCap w s.size 0 5)).size, (bytesRow s (grownCap w s.size 0 5)).size + 1))).drew := ((Below.refl _ _).alloc (Nat.le_refl _) _).drew
  generalize (w.alloc (.cells (bytesRow s (grownCap w s.size 0 5)) 5 ((bytesRow s (grownCap w s.size 0 5)).size, (bytesRow s (grownCap w s.size 0 5)).size + 1))).drew = W0 at *
  generalize grownCap w s.size 0 5 = cap at *
  have HN := hide hN
  have HB := hide hB
  clear hN hB hcv
  have hfrom : ∃ f : Nat, f + 32 ≤ 8 * s.size ∧ (a : Int) % (8 * (s.size : Int) - 31) = (f : Int) := by
    refine ⟨a % (8 * s.size - 31), ?_, ?_⟩
    · have := Nat.mod_lt a (show 8 * s.size - 31 > 0 by omega); omega
    · rw [show (8 * (s.size : Int) - 31) = ((8 * s.size - 31 : Nat) : Int) from by omega]; exact (Int.natCast_emod _ _).symm
  obtain ⟨f, hf, hfe⟩ := hfrom
  rw [hfe]
  clear hfe ha
  go_loopw [9, 10] (fun i _ wr => ∃ (j : Nat) (l : List UInt8), j ≤ 32 ∧ i = .int .i64 (j : Int) ∧ l.length = s.size ∧ num (l.map UInt8.toNat) = num (bytesOf s) ^^^ 2 ^ f * (b % 2 ^ j) ∧ BytesAt wr w.heap.size l ∧ Below w.heap.size w wr) (fun i _ _ => 32 - (intOf i).toNat)
  case atStart => exact ⟨0, s.data.toList, Nat.zero_le _, rfl, by simp, by rw [Nat.pow_zero, Nat.mod_one, Nat.mul_zero, Nat.xor_zero]; rfl, HN.out, HB.out⟩
  case round =>
    obtain ⟨j, l, hj, rfl, hll, hnum, hby, hbel⟩ := hrel
    by_cases hlt : j < 32
    · have hk : (f + j) / 8 < l.length := by omega
      obtain ⟨hc, hfr⟩ := hby ((f + j) / 8) hk
      have HNum := hide hnum
      have HBy := hide hby
      have HBel := hide hbel
      clear hnum hby hbel
      generalize hlk : l[(f + j) / 8].toNat = x at *
      have HLK := hide hlk
      clear hlk
      go_wp2_with fail
      have hx : x < 256 := by rw [← HLK.out]; exact l[(f + j) / 8].toNat_lt
      have hv : x ^^^ b / 2 ^ j % 2 * 2 ^ ((f + j) % 8) < 256 := Nat.xor_lt_two_pow (n := 8) hx (byte_lt _ _ (Nat.mod_lt _ (by decide)) (Nat.mod_lt _ (by decide)))
      rw [bit_val x b j _ hx hb (Nat.mod_lt _ (by decide))]
      refine ⟨⟨j + 1, _, hlt, by go_num, ?_, ?_, HBy.out.set ((f + j) / 8) _ hk hv, HBel.out.setCell (Nat.le_refl _) _⟩, by simp [intOf]; omega⟩
      · rw [List.length_set]; exact hll
      · have h := turn_num l (bytesOf s) f b j hk HNum.out
        rw [HLK.out] at h
        exact h
    · have hje : j = 32 := by omega
      subst hje
      rw [Nat.mod_eq_of_lt hb] at hnum
      have hne := burst (bytesOf s) (l.map UInt8.toNat) (cpl 0) f b (by rw [List.length_map, hll, bytesOf_length]) (by rw [bytesOf_length]; omega) hnum hb hb0
      have hmne : more 0 (bytesOf ⟨l.toArray⟩) ≠ more 0 (bytesOf s) := fun h => hne (by
        have e : bytesOf ⟨l.toArray⟩ = l.map UInt8.toNat := rfl
        rw [e] at h
        unfold more at h
        have h2 := congrArg cpl h
        rw [cpl_cpl, cpl_cpl] at h2
        exact h2)
      have hconv : (convert 31 9 (.slice (some ⟨w.heap.size, 0, none⟩) s.size cap)).run Tryd.prog wr = .ok (.string ⟨l.toArray⟩) wr := by
        rw [← hll]
        refine run_convert_bytes_back wr 31 9 5 ⟨w.heap.size, 0, none⟩ cap l Tryd.underlying31 Tryd.underlying5 Tryd.underlying9 (fun j hj => ?_)
        have hadd : (⟨w.heap.size, 0, none⟩ : Addr).add j = ⟨w.heap.size, j, none⟩ := by unfold Addr.add; split <;> simp_all
        rw [hadd]
        exact (hby j hj).1
      have hsz : (ByteArray.mk l.toArray).size ≤ maxLen := by
        show l.toArray.size ≤ maxLen
        rw [List.size_toArray, hll]; unfold maxLen; omega
      have hms : s.size ≤ maxLen := by unfold maxLen; omega
      have K1 : Hid (∀ u, Calls Tryd.prog 8 #[.string ⟨l.toArray⟩] u fun e w' => e = .returned (.int .u32 ((more 0 (bytesOf ⟨l.toArray⟩) : Nat) : Int)) ∧ Below u.heap.size u w') := fun u => of_any _ u hsz
      have K2 : Hid (∀ u, Calls Tryd.prog 8 #[.string s] u fun e w' => e = .returned (.int .u32 ((more 0 (bytesOf s) : Nat) : Int)) ∧ Below u.heap.size u w') := fun u => of_any s u hms
      have HBel := hide hbel
      generalize more 0 (bytesOf ⟨l.toArray⟩) = v1 at *
      generalize more 0 (bytesOf s) = v2 at *
      have hv : ¬ ((v1 : Int) = (v2 : Int)) := by omega
      clear hnum hby hbel hne hsz hms hmne
      generalize (ByteArray.mk l.toArray) = t at *
      go_wp2_with fail
      refine (K1.out _).mono ?_
      rintro e w1 ⟨rfl, hb1⟩
      have HB1 := hide (bnext HBel.out hb1)
      clear hb1
      go_wp2_with fail
      refine (K2.out _).mono ?_
      rintro e w2 ⟨rfl, hb2⟩
      have HB2 := hide (bnext HB1.out hb2)
      clear hb2
      go_wp2_with fail
      refine (alive_any _ (HT.out.below HB2.out)).mono ?_
      rintro e w3 ⟨rfl, hb3⟩
      have HB3 := hide (bnext HB2.out hb3)
      clear hb3
      go_wp2
      go_ret
      exact ⟨congrArg (fun x => Ending.returned (.bool x)) (show ((v1 : Int) != (v2 : Int)) = true by simpa using hv), HB3.out⟩
set_option maxRecDepth 10000 in
set_option maxHeartbeats 1000000 in
theorem SumBursts_let (s : ByteArray) (a b : Nat) (w : World) (hs : s.size ≤ maxLen) (h : s.size < 5 ∨ 8192 < s.size ∨ b = 0) (hT : TabAt w) :
    Calls Tryd.prog 6 #[.string s, .int .u16 (a : Int), .int .u32 (b : Int)] w fun e w' => e = .returned (.bool true) ∧ Below w.heap.size w w' := by
  have HT := hide hT
  clear hT
  unfold maxLen at hs
  by_cases h1 : s.size < 5
  · have hz : (s.size : Int) < 5 := by omega
    clear h
    go_enter Tryd.func6, Tryd.ntmps6
    go_wp2_with fail
    refine (alive_any _ HT.out).mono ?_
    rintro e w1 ⟨rfl, hb⟩
    have HB := hide hb
    clear hb
    go_wp2
    go_ret
    exact ⟨rfl, HB.out⟩
  · have hz : ¬ ((s.size : Int) < 5) := by omega
    by_cases h2 : 8192 < s.size
    · have hz2 : (8192 : Int) < (s.size : Int) := by omega
      clear h
      go_enter Tryd.func6, Tryd.ntmps6
      go_wp2_with fail
      refine (alive_any _ HT.out).mono ?_
      rintro e w1 ⟨rfl, hb⟩
      have HB := hide hb
      clear hb
      go_wp2
      go_ret
      exact ⟨rfl, HB.out⟩
    · have hz2 : ¬ ((8192 : Int) < (s.size : Int)) := by omega
      have hb0 : b = 0 := by omega
      subst hb0
      clear h
      go_enter Tryd.func6, Tryd.ntmps6
      go_wp2_with fail
      refine (alive_any _ HT.out).mono ?_
      rintro e w1 ⟨rfl, hb⟩
      have HB := hide hb
      clear hb
      go_wp2
      go_ret
      exact ⟨rfl, HB.out⟩
theorem SumBursts_any (s : ByteArray) (a b : Nat) (w : World) (hs : s.size ≤ maxLen) (ha : a < 65536) (hb : b < 4294967296) (hT : TabAt w) :
    Calls Tryd.prog 6 #[.string s, .int .u16 (a : Int), .int .u32 (b : Int)] w fun e w' => e = .returned (.bool true) ∧ Below w.heap.size w w' := by
  by_cases h : s.size < 5 ∨ 8192 < s.size ∨ b = 0
  · exact SumBursts_let s a b w hs h hT
  · exact SumBursts_core s a b w (by omega) (by omega) ha hb (by omega) hT
end Go.Proofs.YtppebhnfiddbmaaDoor
