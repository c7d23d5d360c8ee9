/- The law SumJoins, walked. -/
import Derived.Test.YtppebhnfiddbmaaDoorAlive
namespace Go.Proofs.YtppebhnfiddbmaaDoor
open Go Go.RowKit
set_option maxRecDepth 10000 in
set_option maxHeartbeats 1000000 in
theorem SumJoins_core (a b v : Nat) (n : Int) (w : World) (hT : TabAt w) (hn : n ≤ 8192)
    (K1 : Hid (∀ u, TabAt u → Calls Tryd.prog 12 #[.int .u32 (a : Int), .int .u32 (b : Int), .int .i64 n] u fun e w' => e = .returned (.int .u32 (v : Int)) ∧ Below u.heap.size u w'))
    (K2 : Hid (∀ u, Calls Tryd.prog 13 #[.int .u32 (a : Int), .int .u32 (b : Int), .int .i64 n] u fun e w' => e = .returned (.int .u32 (v : Int)) ∧ w' = u)) :
    Calls Tryd.prog 4 #[.int .u32 (a : Int), .int .u32 (b : Int), .int .i64 n] w fun e w' => e = .returned (.bool true) ∧ Below w.heap.size w w' := by
  have HT := hide hT
  clear hT
  have hz : ¬ ((8192 : Int) < n) := by omega
  go_enter Tryd.func4, Tryd.ntmps4
  go_wp2_with fail
  refine (K1.out _ HT.out).mono ?_
  rintro e w1 ⟨rfl, hb⟩
  have HB1 := hide hb
  clear hb
  go_wp2_with fail
  refine (K2.out _).mono ?_
  rintro e w2 ⟨rfl, rfl⟩
  go_wp2_with fail
  refine (alive_any _ (HT.out.below HB1.out)).mono ?_
  rintro e w5 ⟨rfl, hb⟩
  have HB5 := hide (bnext HB1.out hb)
  clear hb HB1
  go_wp2
  go_ret
  exact ⟨rfl, HB5.out⟩
set_option maxRecDepth 10000 in
set_option maxHeartbeats 1000000 in
theorem SumJoins_any (a b : Nat) (n : Int) (w : World) (ha : a < 4294967296) (hb : b < 4294967296) (hT : TabAt w) :
    Calls Tryd.prog 4 #[.int .u32 (a : Int), .int .u32 (b : Int), .int .i64 n] w fun e w' => e = .returned (.bool true) ∧ Below w.heap.size w w' := by
  by_cases hl : 8192 < n
  · have HT := hide hT
    clear hT ha hb
    go_enter Tryd.func4, Tryd.ntmps4
    go_wp2_with fail
    refine (alive_any _ HT.out).mono ?_
    rintro e w1 ⟨rfl, hb⟩
    have HB := hide hb
    clear hb
    go_wp2
    go_ret
    exact ⟨rfl, HB.out⟩
  · by_cases h0 : n < 0
    · exact SumJoins_core a b 0 n w hT (by omega) (fun u _ => join_neg _ _ n u h0) (fun u => refJoin_neg _ _ n u h0)
    · obtain ⟨m, rfl⟩ : ∃ m : Nat, n = (m : Int) := ⟨n.toNat, by omega⟩
      exact SumJoins_core a b (join a b m) m w hT (by omega) (fun u hu => join_any a b m u ha hb (by omega) hu) (fun u => refJoin_any a b m u ha hb (by omega))
end Go.Proofs.YtppebhnfiddbmaaDoor
