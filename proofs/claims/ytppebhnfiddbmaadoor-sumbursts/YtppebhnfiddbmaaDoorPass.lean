/- What the closure of passZeros does: what a run of zeros makes of a number, bit by bit. -/
import Derived.Test.YtppebhnfiddbmaaDoorRow
namespace Go.Proofs.YtppebhnfiddbmaaDoor
open Go Go.RowKit

theorem u32_less (x : Nat) (hx : x < 4294967296) (hx0 : x ≠ 0) : bits .and .u32 (x : Int) (((x : Int) - 1) % 4294967296) = ((x &&& (x - 1) : Nat) : Int) := by
  rw [show ((x : Int) - 1) % 4294967296 = ((x - 1 : Nat) : Int) from by omega]
  exact u32_and x (x - 1) hx (by omega)

set_option maxHeartbeats 1000000 in
theorem pass_any (x m b : Nat) (w : World) (hx : x < 4294967296) (hT : TabAt w) (hR : RowAt w b 32 38 fun i => stps m (2 ^ i)) :
    Calls Tryd.prog 19 #[.int .u32 (x : Int), .pointer (some ⟨b, 0, none⟩)] w fun e w' => e = .returned (.int .u32 ((stps m x : Nat) : Int)) ∧ w' = w := by
  have HT : Hid (TabAt w) := hT
  have HR : Hid (RowAt w b 32 38 fun i => stps m (2 ^ i)) := hR
  have HX : Hid (x < 4294967296) := hx
  clear hT hR hx
  go_enter Tryd.func19, Tryd.ntmps19
  go_wp2_with fail
  go_loop [0, 4] (fun t d => ∃ y z : Nat, y < 4294967296 ∧ z < 4294967296 ∧ z ^^^ stps m y = stps m x ∧ t = .int .u32 (y : Int) ∧ d = .int .u32 (z : Int)) (fun t _ => (intOf t).toNat)
  case atStart => exact ⟨x, 0, HX.out, by decide, Nat.zero_xor _, rfl, rfl⟩
  case round =>
    obtain ⟨y, z, hy, hz, hrel, rfl, rfl⟩ := hrel
    have HE : Hid (z ^^^ stps m y = stps m x) := hrel
    have HY : Hid (y < 4294967296) := hy
    have HZ : Hid (z < 4294967296) := hz
    clear hrel hy hz
    by_cases h0 : y = 0
    · subst h0
      go_wp2_with fail
      go_ret
      have e := HE.out
      rw [stps_zero, Nat.xor_zero] at e
      exact ⟨ret_u32 (by rw [e]), rfl⟩
    · have hne : ¬ ((y : Int) = 0) := by omega
      obtain ⟨hk, hsp, hlt⟩ := lowest y HY.out h0
      have hc := HR.out.cell hk
      have hlow := u32_less y HY.out h0
      have HN : Hid (stps m y = stps m (y &&& (y - 1)) ^^^ stps m (2 ^ Lib.ctz 32 y)) := by
        unfold Hid
        rw [← stps_xor, ← hsp]
      have HL : Hid (y &&& (y - 1) < y) := hlt
      have HK : Hid (2 ^ Lib.ctz 32 y < 4294967296) := Nat.pow_lt_pow_right (a := 2) (by decide) hk
      have hkz : ((Lib.ctz 32 y : Nat) : Int) < 32 := by omega
      have HTZ : Hid (∀ u, u = w → Calls Tryd.prog 20 #[.int .u32 (y : Int)] u fun e w' => e = .returned (.int .i64 (Lib.ctz 32 y)) ∧ w' = u) := fun u hu => by
        subst hu; exact tz_any y HY.out h0 u HT.out
      clear hsp hlt
      generalize hq : Lib.ctz 32 y = q at *
      have HQ : Hid (Lib.ctz 32 y = q) := hq
      clear hq
      have hxor := u32_xor z (stps m (2 ^ q)) HZ.out (stps_lt m HK.out)
      go_wp2_with fail
      refine (HTZ.out _ rfl).mono ?_
      rintro e w1 ⟨rfl, rfl⟩
      go_wp2
      go_round
      case rel => exact ⟨y &&& (y - 1), z ^^^ stps m (2 ^ q), Nat.lt_trans HL.out HY.out, Nat.xor_lt_two_pow (n := 32) HZ.out (stps_lt m HK.out), by rw [← HE.out, HN.out, Nat.xor_comm (stps m (y &&& (y - 1))), ← Nat.xor_assoc], val_u32 (by first | rfl | assumption), val_u32 (by first | rfl | assumption)⟩
      case measure => simp [intOf]; exact HL.out
end Go.Proofs.YtppebhnfiddbmaaDoor
