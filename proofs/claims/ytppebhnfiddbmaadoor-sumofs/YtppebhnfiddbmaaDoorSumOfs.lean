/- The law SumOfs, walked. -/
import Derived.Test.YtppebhnfiddbmaaDoorAlive
namespace Go.Proofs.YtppebhnfiddbmaaDoor
open Go Go.RowKit
set_option maxRecDepth 10000 in
set_option maxHeartbeats 1000000 in
theorem SumOfs_any (s : ByteArray) (c : Nat) (w : World) (hs : s.size ≤ maxLen) (hc : c < 4294967296) (hT : TabAt w) :
    Calls Tryd.prog 3 #[.string s, .int .u32 (c : Int)] w fun e w' => e = .returned (.bool true) ∧ Below w.heap.size w w' := by
  have HT := hide hT
  have K1 : Hid (∀ u, Calls Tryd.prog 8 #[.string s] u fun e w' => e = .returned (.int .u32 ((more 0 (bytesOf s) : Nat) : Int)) ∧ Below u.heap.size u w') := fun u => of_any s u hs
  have K2 : Hid (∀ u, Calls Tryd.prog 9 #[.string s] u fun e w' => e = .returned (.int .u32 ((more 0 (bytesOf s) : Nat) : Int)) ∧ w' = u) := fun u => refOf_any s u hs
  have K3 : Hid (∀ u, Calls Tryd.prog 10 #[.int .u32 (c : Int), .string s] u fun e w' => e = .returned (.int .u32 ((more c (bytesOf s) : Nat) : Int)) ∧ Below u.heap.size u w') := fun u => more_any c s u hc hs
  have K4 : Hid (∀ u, Calls Tryd.prog 11 #[.int .u32 (c : Int), .string s] u fun e w' => e = .returned (.int .u32 ((more c (bytesOf s) : Nat) : Int)) ∧ w' = u) := fun u => refMore_any c s u hc hs
  generalize more 0 (bytesOf s) = v0 at *
  generalize more c (bytesOf s) = vc at *
  unfold maxLen at hs
  clear hT hc
  by_cases hl : s.size > 8192
  · have hz : (8192 : Int) < (s.size : Int) := by omega
    go_enter Tryd.func3, Tryd.ntmps3
    go_wp2_with fail
    refine (alive_any _ HT.out).mono ?_
    rintro e w1 ⟨rfl, hb⟩
    have HB := hide hb
    clear hb
    go_wp2
    go_ret
    exact ⟨rfl, HB.out⟩
  · have hz : ¬ ((8192 : Int) < (s.size : Int)) := by omega
    go_enter Tryd.func3, Tryd.ntmps3
    go_wp2_with fail
    refine (K1.out _).mono ?_
    rintro e w1 ⟨rfl, hb⟩
    have HB1 := hide hb
    clear hb
    go_wp2_with fail
    refine (K2.out _).mono ?_
    rintro e w2 ⟨rfl, rfl⟩
    go_wp2_with fail
    refine (K3.out _).mono ?_
    rintro e w3 ⟨rfl, hb⟩
    have HB3 := hide (bnext HB1.out hb)
    clear hb HB1
    go_wp2_with fail
    refine (K4.out _).mono ?_
    rintro e w4 ⟨rfl, rfl⟩
    go_wp2_with fail
    refine (alive_any _ (HT.out.below HB3.out)).mono ?_
    rintro e w5 ⟨rfl, hb⟩
    have HB5 := hide (bnext HB3.out hb)
    clear hb HB3
    go_wp2
    go_ret
    exact ⟨rfl, HB5.out⟩
end Go.Proofs.YtppebhnfiddbmaaDoor
