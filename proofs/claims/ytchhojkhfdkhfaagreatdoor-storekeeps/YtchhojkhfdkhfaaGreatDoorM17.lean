/- What the document's own sum does: More, Of. -/
import Derived.Test.YtchhojkhfdkhfaaGreatDoorProg
import Derived.Test.YtchhojkhfdkhfaaGreatDoorM00
import Derived.WalkKit
import Derived.WalkSpells
import Derived.Laws.BitsAllLaws
namespace Go.Proofs.YtchhojkhfdkhfaaGreatDoor.Frm
open Go Go.RowKit

theorem val_u32 {a : Int} {b : Nat} (h : a = (b : Int)) : Value.int .u32 a = .int .u32 (b : Int) := by rw [h]
theorem ret_u32 {a : Int} {b : Nat} (h : a = (b : Int)) : Ending.returned (.int .u32 a) = .returned (.int .u32 (b : Int)) := by rw [h]
theorem and_one (c : Nat) (hc : c < 4294967296) : bits .and .u32 (c : Int) 1 = ((c % 2 : Nat) : Int) := by
  have h := u32_and_nat c 1 hc (by decide)
  rw [Nat.and_one_is_mod] at h
  exact h
theorem xor_poly (c : Nat) (hc : c < 4294967296) : bits .xor .u32 ((c : Int) / 2) 2197175160 = ((c / 2 ^^^ 2197175160 : Nat) : Int) := by
  have h := u32_xor_nat (c / 2) 2197175160 (by omega) (by decide)
  rw [show ((c / 2 : Nat) : Int) = (c : Int) / 2 from by omega] at h
  exact h
theorem stp_odd {c : Nat} (h : c % 2 = 1) : stp c = c / 2 ^^^ 2197175160 := by unfold stp; rw [if_pos h]
theorem stp_even {c : Nat} (h : c % 2 = 0) : stp c = c / 2 := by unfold stp; rw [if_neg (by omega)]

end Go.Proofs.YtchhojkhfdkhfaaGreatDoor.Frm
