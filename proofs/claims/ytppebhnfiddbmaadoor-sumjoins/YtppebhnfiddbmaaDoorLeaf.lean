/- What the smallest functions of package sum do, and the library's TrailingZeros32: walks. -/
import Derived.Test.YtppebhnfiddbmaaDoorRef
import Derived.Shelf.Spec.TrailingZeros
import Derived.Deep.WholeRow
namespace Go.Proofs.YtppebhnfiddbmaaDoor
open Go Go.RowKit

theorem u32_and (a b : Nat) (ha : a < 4294967296) (hb : b < 4294967296) : bits .and .u32 (a : Int) (b : Int) = ((a &&& b : Nat) : Int) := u32_and_nat a b ha hb
theorem u32_xor (a b : Nat) (ha : a < 4294967296) (hb : b < 4294967296) : bits .xor .u32 (a : Int) (b : Int) = ((a ^^^ b : Nat) : Int) := u32_xor_nat a b ha hb

set_option maxHeartbeats 400000 in
theorem shift_any (c : Nat) (w : World) (hc : c < 4294967296) :
    Calls Tryd.prog 17 #[.int .u32 (c : Int)] w fun e w' => e = .returned (.int .u32 ((stp c : Nat) : Int)) ∧ w' = w := by
  have ha := and_one c hc
  have HC : Hid (c < 4294967296) := hc
  clear hc
  by_cases hodd : c % 2 = 1
  · have hb : bits .and .u32 (c : Int) 1 = 1 := by rw [ha, hodd]; rfl
    have HO : Hid (c % 2 = 1) := hodd
    clear ha hodd
    go_enter Tryd.func17, Tryd.ntmps17
    go_wp2
    go_ret
    exact ⟨ret_u32 (by rw [stp_odd HO.out]; exact xor_poly c HC.out), rfl⟩
  · have hev : c % 2 = 0 := by omega
    have hb : bits .and .u32 (c : Int) 1 = 0 := by rw [ha, hev]; rfl
    have HO : Hid (c % 2 = 0) := hev
    clear ha hodd hev
    go_enter Tryd.func17, Tryd.ntmps17
    go_wp2
    go_ret
    exact ⟨ret_u32 (by rw [stp_even HO.out]; omega), rfl⟩

/-- The library's table lies where its variable lies. -/
def TabAt (w : World) : Prop := ∀ j, j < 32 → w.cell? ⟨0, j, none⟩ = some (.int .u8 (Lib.deBruijn32tab.getD j 0))
theorem TabAt.size {w : World} (h : TabAt w) : 0 < w.heap.size := World.block_lt_of_cell? w _ (h 0 (by decide))
theorem TabAt.below {w w' : World} (h : TabAt w) (hb : Below w.heap.size w w') : TabAt w' := fun j hj => (hb.cell (p := ⟨0, j, none⟩) h.size).trans (h j hj)

set_option maxHeartbeats 1000000 in
theorem tz_core (x k idx : Nat) (w : World) (hx0 : ((x : Int) == 0) = false)
    (key : bits BinOp.and IntKind.u32 (x : Int) (-(x : Int) % 4294967296) * 125613361 % 4294967296 / 134217728 = (idx : Int))
    (hi : idx < 32) (hk : k < 32) (hcell : w.cell? ⟨0, idx, none⟩ = some (.int .u8 k)) :
    Calls Tryd.prog 20 #[.int .u32 x] w fun e w' => e = .returned (.int .i64 k) ∧ w' = w := by
  go_enter Tryd.func20, Tryd.ntmps20
  go_wp2_with (simp only [key])
  go_ret
  exact ⟨rfl, rfl⟩

theorem tz_any (x : Nat) (hx : x < 4294967296) (hx0 : x ≠ 0) (w : World) (hT : TabAt w) :
    Calls Tryd.prog 20 #[.int .u32 x] w fun e w' => e = .returned (.int .i64 (Lib.ctz 32 x)) ∧ w' = w := by
  obtain ⟨hlow, hk⟩ := Lib.lowest_bit 32 x hx0 hx
  obtain ⟨hi, htab⟩ := Lib.deBruijn32_at _ hk
  have hcell := hT _ hi
  rw [htab] at hcell
  exact tz_core x _ _ w (by simp; omega) (tz32_key x _ hx hx0 hlow) hi hk hcell

/-- The lowest bit of a number that is not 0: where it is, and what is left without it. -/
theorem lowest (x : Nat) (hx : x < 4294967296) (hx0 : x ≠ 0) : Lib.ctz 32 x < 32 ∧ x = (x &&& (x - 1)) ^^^ 2 ^ Lib.ctz 32 x ∧ x &&& (x - 1) < x := by
  obtain ⟨m, hm, hk⟩ := Lib.ctzFrom_spec 32 x (by omega) hx
  have e : Lib.ctz 32 x = Lib.ctzFrom 32 x := by unfold Lib.ctz; rw [if_neg hx0]
  rw [e]
  generalize Lib.ctzFrom 32 x = k at *
  have h1 := low_bit k m
  have h2 := low_split k m
  rw [← hm] at h1 h2
  refine ⟨hk, by rw [h1]; exact h2, ?_⟩
  rw [h1]
  have hp : 0 < 2 ^ k := Nat.two_pow_pos k
  have : x = 2 ^ (k + 1) * m + 2 ^ k := by rw [h2]; exact (add_xor k m).symm
  omega
end Go.Proofs.YtppebhnfiddbmaaDoor
