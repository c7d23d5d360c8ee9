/- The law FrameTurned, walked. -/
import Derived.Test.YtnmbojgjefhoaaaAlive
namespace Go.Proofs.Ytnmbojgjefhoaaa
open Go Go.RowKit
/-- The bytes of a list lie in block b, from its head on, and may be written. -/
def BytesAt (u : World) (b : Nat) (l : List UInt8) : Prop := ∀ j (hj : j < l.length), u.cell? ⟨b, j, none⟩ = some (.int .u8 ((l[j].toNat : Nat) : Int)) ∧ u.frozen? ⟨b, j, none⟩ = false
theorem bytes_new (w : World) (s : ByteArray) (cap : Nat) (e : TypeId) : BytesAt (w.drew.alloc (.cells (bytesRow s cap) e ((bytesRow s cap).size, (bytesRow s cap).size + 1))) w.heap.size s.data.toList := by
  intro j hj
  have hj' : j < s.data.size := by simpa using hj
  have hlt : j < (bytesRow s cap).size := by
    have h := bytesRow_at s cap j hj'
    exact (Array.getElem?_eq_some_iff.1 h).1
  refine ⟨?_, ?_⟩
  · have h := World.cell?_alloc_mark w.drew (bytesRow s cap) e ((bytesRow s cap).size, (bytesRow s cap).size + 1) j
    rw [show w.drew.heap.size = w.heap.size from rfl] at h
    rw [h, bytesRow_at s cap j hj']
    simp
  · have h := World.frozen?_alloc_mark w.drew (bytesRow s cap) e (bytesRow s cap).size ((bytesRow s cap).size + 1) j
    rw [show w.drew.heap.size = w.heap.size from rfl] at h
    rw [h]
    simp
    omega
theorem bit_val (x b j m : Nat) (hx : x < 256) (hb : b < 4294967296) (hm : m < 8) :
    bits .xor .u8 (x : Int) (bits .and .u32 ((b : Int) / 2 ^ j) 1 % 256 * 2 ^ m % 256) = ((x ^^^ b / 2 ^ j % 2 * 2 ^ m : Nat) : Int) := by
  have e1 : (b : Int) / 2 ^ j = ((b / 2 ^ j : Nat) : Int) := by
    rw [show ((2 : Int) ^ j) = ((2 ^ j : Nat) : Int) from (Int.natCast_pow 2 j).symm]; exact (Int.natCast_ediv _ _).symm
  have h1 : b / 2 ^ j < 4294967296 := Nat.lt_of_le_of_lt (Nat.div_le_self _ _) hb
  rw [e1, and_one _ h1]
  have h2 : b / 2 ^ j % 2 < 2 := Nat.mod_lt _ (by decide)
  generalize b / 2 ^ j % 2 = y at *
  have h3 : 2 ^ m ≤ 128 := by
    have := Nat.pow_le_pow_right (n := 2) (by decide) (show m ≤ 7 by omega)
    omega
  have e2 : ((2 : Int) ^ m) = ((2 ^ m : Nat) : Int) := (Int.natCast_pow 2 m).symm
  rw [e2]
  generalize 2 ^ m = p at *
  have h4 : y * p ≤ 1 * 128 := Nat.mul_le_mul (by omega) h3
  have e3 : ((y : Int) % 256 * (p : Int)) % 256 = ((y * p : Nat) : Int) := by
    rw [show (y : Int) % 256 = (y : Int) from by omega, ← Int.natCast_mul]; omega
  rw [e3]
  exact u8_xor_nat x (y * p) hx (by omega)
theorem byte_lt (y m : Nat) (hy : y < 2) (hm : m < 8) : y * 2 ^ m < 256 := by
  have h3 : 2 ^ m ≤ 2 ^ 7 := Nat.pow_le_pow_right (n := 2) (by decide) (by omega)
  have h4 : y * 2 ^ m ≤ 1 * 2 ^ 7 := Nat.mul_le_mul (by omega) h3
  omega
theorem BytesAt.set {u : World} {b : Nat} {l : List UInt8} (h : BytesAt u b l) (k v : Nat) (hk : k < l.length) (hv : v < 256) :
    BytesAt (u.setCell ⟨b, k, none⟩ (.int .u8 (v : Int))) b (l.set k (UInt8.ofNat v)) := by
  intro j hj
  have hj' : j < l.length := by simpa using hj
  refine ⟨?_, by rw [World.frozen?_setCell]; exact (h j hj').2⟩
  by_cases e : k = j
  · subst e
    rw [World.cell?_setCell_same _ _ _ (h k hk).1, List.getElem_set_self]
    rw [UInt8.toNat_ofNat', Nat.mod_eq_of_lt hv]
  · rw [World.cell?_setCell_other u ⟨b, k, none⟩ ⟨b, j, none⟩ _ (fun hh => e (congrArg Addr.off hh)), List.getElem_set_ne e]
    exact (h j hj').1
/-- One bit more is turned. -/
theorem turn_num (l : List UInt8) (s : List Nat) (f b j : Nat) (hk : (f + j) / 8 < l.length) (hn : num (l.map UInt8.toNat) = num s ^^^ 2 ^ f * (b % 2 ^ j)) :
    num ((l.set ((f + j) / 8) (UInt8.ofNat (l[(f + j) / 8].toNat ^^^ b / 2 ^ j % 2 * 2 ^ ((f + j) % 8)))).map UInt8.toNat) = num s ^^^ 2 ^ f * (b % 2 ^ (j + 1)) := by
  have hy := byte_lt (b / 2 ^ j % 2) ((f + j) % 8) (Nat.mod_lt _ (by decide)) (Nat.mod_lt _ (by decide))
  have hv : l[(f + j) / 8].toNat ^^^ b / 2 ^ j % 2 * 2 ^ ((f + j) % 8) < 256 := Nat.xor_lt_two_pow (n := 8) l[(f + j) / 8].toNat_lt hy
  have hk2 : (f + j) / 8 < (l.map UInt8.toNat).length := by simpa using hk
  have h := num_set (l.map UInt8.toNat) ((f + j) / 8) (b / 2 ^ j % 2 * 2 ^ ((f + j) % 8)) hk2
  rw [List.map_set, UInt8.toNat_ofNat', Nat.mod_eq_of_lt hv]
  rw [List.getElem_map] at h
  rw [h, hn, Nat.xor_assoc, bits_succ b j, mul_xor]
  congr 2
  rw [Nat.mul_comm (b / 2 ^ j % 2), ← Nat.mul_assoc, pow_at, Nat.pow_add, Nat.mul_assoc]

set_option maxRecDepth 10000 in
set_option maxHeartbeats 1000000 in
theorem FrameTurned_core (x : ByteArray) (a b : Nat) (w : World) (hx : x.size ≤ 4096) (ha : a < 65536) (hb : b < 4294967296) (hb0 : b ≠ 0) :
    Calls Try.prog 6 #[.string x, .int .u16 (a : Int), .int .u32 (b : Int)] w fun e w' => e = .returned (.bool true) ∧ Below w.heap.size w w' := by
  have hz2 : ¬ ((4096 : Int) < (x.size : Int)) := by omega
  have hz3 : ¬ ((b : Int) = 0) := by omega
  have K1 := hide (fun u => frame_any x u (by omega))
  have hsz : (frm x).size = x.size + 8 := frm_size x
  have HTurn : Hid (∀ (t : ByteArray) (k : Nat), t.size = x.size + 8 → (bytesOf t).take 4 = (bytesOf (frm x)).take 4 → k ≤ 8 * (x.size + 8) → num (bytesOf t) = num (bytesOf (frm x)) ^^^ 2 ^ k * b → (rdf t).2.2 = 41) := fun t k h1 h2 h3 h4 => rdf_turned x t k b (by omega) h1 h2 h3 h4 hb hb0
  generalize frm x = s at *
  have hcv := fun u => run_bytes_of_string (P := Try.prog) u 9 40 5 s Try.underlying9 Try.underlying40 Try.underlying5
  go_enter Try.func6, Try.ntmps6
  go_wp2_with fail
  refine (K1.out _).mono ?_
  rintro e w0 ⟨rfl, hb1⟩
  have HB0 := hide hb1
  clear hb1
  go_wp2_with fail
  have hN : BytesAt (w0.alloc (.cells (bytesRow s (grownCap w0 (x.size + 8) 0 5)) 5 ((bytesRow s (grownCap w0 (x.size + 8) 0 5)).size, (bytesRow s (grownCap w0 (x.size + 8) 0 5)).size + 1))).drew w0.heap.size s.data.toList := bytes_new w0 s _ 5
  have hB : Below w.heap.size w (w0.alloc (.cells (bytesRow s (grownCap w0 (x.size + 8) 0 5)) 5 ((bytesRow s (grownCap w0 (x.size + 8) 0 5)).size, (bytesRow s (grownCap w0 (x.size + 8) 0 5)).size + 1))).drew := (HB0.out.alloc HB0.out.size _).drew
  generalize (w0.alloc (.cells (bytesRow s (grownCap w0 (x.size + 8) 0 5)) 5 ((bytesRow s (grownCap w0 (x.size + 8) 0 5)).size, (bytesRow s (grownCap w0 (x.size + 8) 0 5)).size + 1))).drew = W0 at *
  generalize grownCap w0 (x.size + 8) 0 5 = cap at *
  have HN := hide hN
  have HB := hide hB
  have hg : w.heap.size ≤ w0.heap.size := HB0.out.size
  generalize w0.heap.size = g at *
  clear hN hB hcv HB0
  have hfrom : ∃ f : Nat, 32 ≤ f ∧ f + 32 ≤ 8 * (x.size + 8) ∧ 32 + (a : Int) % (8 * ((x.size : Int) + 8 - 4) - 31) = (f : Int) := by
    refine ⟨32 + a % (8 * (x.size + 4) - 31), by omega, ?_, ?_⟩
    · have := Nat.mod_lt a (show 8 * (x.size + 4) - 31 > 0 by omega); omega
    · rw [show (8 * ((x.size : Int) + 8 - 4) - 31) = ((8 * (x.size + 4) - 31 : Nat) : Int) from by omega, ← Int.natCast_emod]; omega
  obtain ⟨f, hf32, hf, hfe⟩ := hfrom
  have hl0 : s.data.toList.length = x.size + 8 := by rw [← hsz]; simp
  have HSZ := hide hsz
  clear hsz
  have hwf : wrap64 (f : Int) = (f : Int) := by unfold wrap64; omega
  rw [hfe, hwf]
  clear hfe ha hwf
  go_loopw [11, 12] (fun i _ wr => ∃ (j : Nat) (l : List UInt8), j ≤ 32 ∧ i = .int .i64 (j : Int) ∧ l.length = x.size + 8 ∧ l.take 4 = s.data.toList.take 4 ∧ num (l.map UInt8.toNat) = num (bytesOf s) ^^^ 2 ^ f * (b % 2 ^ j) ∧ BytesAt wr g l ∧ Below w.heap.size w wr) (fun i _ _ => 32 - (intOf i).toNat)
  case atStart => exact ⟨0, s.data.toList, Nat.zero_le _, rfl, hl0, rfl, by rw [Nat.pow_zero, Nat.mod_one, Nat.mul_zero, Nat.xor_zero]; rfl, HN.out, HB.out⟩
  case round =>
    obtain ⟨j, l, hj, rfl, hll, hl4, hnum, hby, hbel⟩ := hrel
    have HL4 := hide hl4
    clear hl4 hl0
    by_cases hlt : j < 32
    · have hk : (f + j) / 8 < l.length := by omega
      obtain ⟨hc, hfr⟩ := hby ((f + j) / 8) hk
      have HNum := hide hnum
      have HBy := hide hby
      have HBel := hide hbel
      clear hnum hby hbel
      generalize hlk : l[(f + j) / 8].toNat = y at *
      have HLK := hide hlk
      clear hlk
      go_wp2_with fail
      have hy : y < 256 := by rw [← HLK.out]; exact l[(f + j) / 8].toNat_lt
      have hv : y ^^^ b / 2 ^ j % 2 * 2 ^ ((f + j) % 8) < 256 := Nat.xor_lt_two_pow (n := 8) hy (byte_lt _ _ (Nat.mod_lt _ (by decide)) (Nat.mod_lt _ (by decide)))
      rw [bit_val y b j _ hy hb (Nat.mod_lt _ (by decide))]
      refine ⟨⟨j + 1, _, hlt, by go_num, ?_, ?_, ?_, HBy.out.set ((f + j) / 8) _ hk hv, HBel.out.setCell hg _⟩, by simp [intOf]; omega⟩
      · rw [List.length_set]; exact hll
      · rw [List.take_set_of_le (by omega)]; exact HL4.out
      · have h := turn_num l (bytesOf s) f b j hk HNum.out
        rw [HLK.out] at h
        exact h
    · have hje : j = 32 := by omega
      subst hje
      rw [Nat.mod_eq_of_lt hb] at hnum
      have hrd : (rdf ⟨l.toArray⟩).2.2 = 41 := HTurn.out ⟨l.toArray⟩ f (by show l.toArray.size = _; simpa using hll) (by
        have e : bytesOf ⟨l.toArray⟩ = l.map UInt8.toNat := rfl
        rw [e, ← List.map_take, HL4.out, List.map_take]
        rfl) (by omega) hnum
      have hconv : (convert 40 9 (.slice (some ⟨g, 0, none⟩) (x.size + 8) cap)).run Try.prog wr = .ok (.string ⟨l.toArray⟩) wr := by
        rw [← hll]
        refine run_convert_bytes_back wr 40 9 5 ⟨g, 0, none⟩ cap l Try.underlying40 Try.underlying5 Try.underlying9 (fun j hj => ?_)
        have hadd : (⟨g, 0, none⟩ : Addr).add j = ⟨g, j, none⟩ := by unfold Addr.add; split <;> simp_all
        rw [hadd]
        exact (hby j hj).1
      have K2 := hide (fun u => read_any ⟨l.toArray⟩ u (by show l.toArray.size ≤ _; rw [List.size_toArray]; omega))
      rw [hrd] at K2
      have HBel := hide hbel
      generalize (rdf ⟨l.toArray⟩).1 = r1 at *
      generalize (rdf ⟨l.toArray⟩).2.1 = r2 at *
      clear hnum hby hbel hrd
      generalize (ByteArray.mk l.toArray) = t at *
      go_wp2_with fail
      clear hconv
      refine (K2.out _).mono ?_
      rintro e w1 ⟨rfl, hb1⟩
      have HB1 := hide (bnext HBel.out hb1)
      clear hb1
      go_wp2_with fail
      refine (alive_any _).mono ?_
      rintro e w3 ⟨rfl, hb3⟩
      have HB3 := hide (bnext HB1.out hb3)
      clear hb3
      go_wp2
      go_ret
      exact ⟨rfl, HB3.out⟩
set_option maxRecDepth 10000 in
set_option maxHeartbeats 1000000 in
theorem FrameTurned_let (x : ByteArray) (a b : Nat) (w : World) (hx : x.size ≤ maxLen) (h : 4096 < x.size ∨ b = 0) :
    Calls Try.prog 6 #[.string x, .int .u16 (a : Int), .int .u32 (b : Int)] w fun e w' => e = .returned (.bool true) ∧ Below w.heap.size w w' := by
  unfold maxLen at hx
  by_cases h1 : 4096 < x.size
  · have hz : (4096 : Int) < (x.size : Int) := by omega
    clear h
    go_enter Try.func6, Try.ntmps6
    go_wp2_with fail
    refine (alive_any _).mono ?_
    rintro e w1 ⟨rfl, hb⟩
    have HB := hide hb
    clear hb
    go_wp2
    go_ret
    exact ⟨rfl, HB.out⟩
  · have hz : ¬ ((4096 : Int) < (x.size : Int)) := by omega
    have hb0 : b = 0 := by omega
    subst hb0
    clear h
    go_enter Try.func6, Try.ntmps6
    go_wp2_with fail
    refine (alive_any _).mono ?_
    rintro e w1 ⟨rfl, hb⟩
    have HB := hide hb
    clear hb
    go_wp2
    go_ret
    exact ⟨rfl, HB.out⟩
theorem FrameTurned_any (x : ByteArray) (a b : Nat) (w : World) (hx : x.size ≤ maxLen) (ha : a < 65536) (hb : b < 4294967296) :
    Calls Try.prog 6 #[.string x, .int .u16 (a : Int), .int .u32 (b : Int)] w fun e w' => e = .returned (.bool true) ∧ Below w.heap.size w w' := by
  by_cases h : 4096 < x.size ∨ b = 0
  · exact FrameTurned_let x a b w hx h
  · exact FrameTurned_core x a b w (by omega) ha hb (by omega)
end Go.Proofs.Ytnmbojgjefhoaaa
