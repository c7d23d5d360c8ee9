/- What the smallest function of package sum does. -/
import Derived.Test.YtiebhdgpnloieaaDoorFrmRef
import Derived.Deep.WholeRow
namespace Go.Proofs.YtiebhdgpnloieaaDoor.Frm
open Go Go.RowKit

theorem u32_and (a b : Nat) (ha : a < 4294967296) (hb : b < 4294967296) : bits .and .u32 (a : Int) (b : Int) = ((a &&& b : Nat) : Int) := u32_and_nat a b ha hb
theorem u32_xor (a b : Nat) (ha : a < 4294967296) (hb : b < 4294967296) : bits .xor .u32 (a : Int) (b : Int) = ((a ^^^ b : Nat) : Int) := u32_xor_nat a b ha hb

set_option maxHeartbeats 400000 in
theorem shift_any (c : Nat) (w : World) (hc : c < 4294967296) :
    Calls Tryd.prog 88 #[.int .u32 (c : Int)] w fun e w' => e = .returned (.int .u32 ((stp c : Nat) : Int)) ∧ w' = w := by
  have ha := and_one c hc
  have HC : Hid (c < 4294967296) := hc
  clear hc
  by_cases hodd : c % 2 = 1
  · have hb : bits .and .u32 (c : Int) 1 = 1 := by rw [ha, hodd]; rfl
    have HO : Hid (c % 2 = 1) := hodd
    clear ha hodd
    go_enter Tryd.func88, Tryd.ntmps88
    go_wp2
    go_ret
    exact ⟨ret_u32 (by rw [stp_odd HO.out]; exact xor_poly c HC.out), rfl⟩
  · have hev : c % 2 = 0 := by omega
    have hb : bits .and .u32 (c : Int) 1 = 0 := by rw [ha, hev]; rfl
    have HO : Hid (c % 2 = 0) := hev
    clear ha hodd hev
    go_enter Tryd.func88, Tryd.ntmps88
    go_wp2
    go_ret
    exact ⟨ret_u32 (by rw [stp_even HO.out]; omega), rfl⟩

end Go.Proofs.YtiebhdgpnloieaaDoor.Frm