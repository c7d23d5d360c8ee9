/- The law SumParts, walked. -/
import Derived.Test.YtppebhnfiddbmaaDoorAlive
namespace Go.Proofs.YtppebhnfiddbmaaDoor
open Go Go.RowKit
theorem bytesOf_append (s t : ByteArray) : bytesOf (s ++ t) = bytesOf s ++ bytesOf t := by
  unfold bytesOf; simp
set_option maxRecDepth 10000 in
set_option maxHeartbeats 1000000 in
theorem SumParts_any (s t : ByteArray) (w : World) (hs : s.size ≤ 140737488351232) (ht : t.size ≤ 140737488351232) (hT : TabAt w) :
    Calls Tryd.prog 5 #[.string s, .string t] w fun e w' => e = .returned (.bool true) ∧ Below w.heap.size w w' := by
  have HT := hide hT
  clear hT
  by_cases hl : s.size + t.size > 8192
  · have hz : (8192 : Int) < (s.size : Int) + (t.size : Int) := by omega
    go_enter Tryd.func5, Tryd.ntmps5
    go_wp2_with fail
    refine (alive_any _ HT.out).mono ?_
    rintro e w1 ⟨rfl, hb⟩
    have HB := hide hb
    clear hb
    go_wp2
    go_ret
    exact ⟨rfl, HB.out⟩
  · have hz : ¬ ((8192 : Int) < (s.size : Int) + (t.size : Int)) := by omega
    have ms : s.size ≤ maxLen := by unfold maxLen; omega
    have mt : t.size ≤ maxLen := by unfold maxLen; omega
    have mst : (s ++ t).size ≤ maxLen := by rw [ByteArray.size_append]; unfold maxLen; omega
    have K1 : Hid (∀ u, Calls Tryd.prog 8 #[.string s] u fun e w' => e = .returned (.int .u32 ((more 0 (bytesOf s) : Nat) : Int)) ∧ Below u.heap.size u w') := fun u => of_any s u ms
    have K2 : Hid (∀ u, Calls Tryd.prog 8 #[.string t] u fun e w' => e = .returned (.int .u32 ((more 0 (bytesOf t) : Nat) : Int)) ∧ Below u.heap.size u w') := fun u => of_any t u mt
    have K3 : Hid (∀ u, Calls Tryd.prog 8 #[.string (s ++ t)] u fun e w' => e = .returned (.int .u32 ((more 0 (bytesOf s ++ bytesOf t) : Nat) : Int)) ∧ Below u.heap.size u w') := fun u => by
      rw [← bytesOf_append]; exact of_any (s ++ t) u mst
    have K4 : Hid (∀ u, Calls Tryd.prog 10 #[.int .u32 ((more 0 (bytesOf s) : Nat) : Int), .string t] u fun e w' => e = .returned (.int .u32 ((more 0 (bytesOf s ++ bytesOf t) : Nat) : Int)) ∧ Below u.heap.size u w') := fun u => by
      rw [← more_append]; exact more_any _ t u (more_lt (by decide) s) mt
    have K5 : Hid (∀ u, TabAt u → Calls Tryd.prog 12 #[.int .u32 ((more 0 (bytesOf s) : Nat) : Int), .int .u32 ((more 0 (bytesOf t) : Nat) : Int), .int .i64 (t.size : Int)] u fun e w' => e = .returned (.int .u32 ((more 0 (bytesOf s ++ bytesOf t) : Nat) : Int)) ∧ Below u.heap.size u w') := fun u hu =>
      (join_any (more 0 (bytesOf s)) (more 0 (bytesOf t)) t.size u (more_lt (by decide) s) (more_lt (by decide) t) (by omega) hu).mono fun _ _ h => ⟨h.1.trans (ret_same (by have h := join_more (more 0 (bytesOf s)) (bytesOf t); rw [bytesOf_length, more_append] at h; exact h)), h.2⟩
    have K6 : Hid (∀ u, Calls Tryd.prog 10 #[.int .u32 ((more 0 (bytesOf s) : Nat) : Int), .string { data := #[] }] u fun e w' => e = .returned (.int .u32 ((more 0 (bytesOf s) : Nat) : Int)) ∧ Below u.heap.size u w') := fun u =>
      (more_any _ { data := #[] } u (more_lt (by decide) s) (by decide)).mono fun _ _ h => ⟨h.1.trans (ret_same (more_nil _)), h.2⟩
    generalize more 0 (bytesOf s ++ bytesOf t) = vst at *
    generalize more 0 (bytesOf s) = vs at *
    generalize more 0 (bytesOf t) = vt at *
    clear ms mt mst
    go_enter Tryd.func5, Tryd.ntmps5
    go_wp2_with fail
    refine (K3.out _).mono ?_
    rintro e w1 ⟨rfl, hb⟩
    have HB1 := hide hb
    clear hb
    go_wp2_with fail
    refine (K1.out _).mono ?_
    rintro e w2 ⟨rfl, hb⟩
    have HB2 := hide (bnext HB1.out hb)
    clear hb HB1
    go_wp2_with fail
    refine (K4.out _).mono ?_
    rintro e w3 ⟨rfl, hb⟩
    have HB3 := hide (bnext HB2.out hb)
    clear hb HB2
    go_wp2_with fail
    refine (K1.out _).mono ?_
    rintro e w4 ⟨rfl, hb⟩
    have HB4 := hide (bnext HB3.out hb)
    clear hb HB3
    go_wp2_with fail
    refine (K2.out _).mono ?_
    rintro e w5 ⟨rfl, hb⟩
    have HB5 := hide (bnext HB4.out hb)
    clear hb HB4
    go_wp2_with fail
    refine (K5.out _ (HT.out.below HB5.out)).mono ?_
    rintro e w6 ⟨rfl, hb⟩
    have HB6 := hide (bnext HB5.out hb)
    clear hb HB5
    go_wp2_with fail
    refine (K1.out _).mono ?_
    rintro e w7 ⟨rfl, hb⟩
    have HB7 := hide (bnext HB6.out hb)
    clear hb HB6
    go_wp2_with fail
    refine (K6.out _).mono ?_
    rintro e w8 ⟨rfl, hb⟩
    have HB8 := hide (bnext HB7.out hb)
    clear hb HB7
    go_wp2_with fail
    refine (K1.out _).mono ?_
    rintro e w9 ⟨rfl, hb⟩
    have HB9 := hide (bnext HB8.out hb)
    clear hb HB8
    go_wp2_with fail
    refine (alive_any _ (HT.out.below HB9.out)).mono ?_
    rintro e w10 ⟨rfl, hb⟩
    have HB10 := hide (bnext HB9.out hb)
    clear hb HB9
    go_wp2
    go_ret
    exact ⟨rfl, HB10.out⟩
end Go.Proofs.YtppebhnfiddbmaaDoor
