/- That the known answers are answered. -/
import Derived.Test.YtppebhnfiddbmaaDoorJoin
namespace Go.Proofs.YtppebhnfiddbmaaDoor
open Go Go.RowKit

theorem ret_same {a b : Nat} (h : a = b) : Ending.returned (.int .u32 (a : Int)) = .returned (.int .u32 (b : Int)) := by rw [h]
/-- 123456789, and its parts. -/
theorem known : more 0 [49, 50, 51, 52, 53, 54, 55, 56, 57] = 3808858755 := by decide +kernel
theorem known0 (w : World) : Calls Tryd.prog 8 #[.string { data := #[] }] w fun e w' => e = .returned (.int .u32 0) ∧ Below w.heap.size w w' :=
  (of_any _ w (by decide)).mono fun _ _ h => ⟨h.1.trans (ret_same (show more 0 [] = 0 from rfl)), h.2⟩
theorem known9 (w : World) : Calls Tryd.prog 8 #[.string { data := #[49, 50, 51, 52, 53, 54, 55, 56, 57] }] w fun e w' => e = .returned (.int .u32 3808858755) ∧ Below w.heap.size w w' :=
  (of_any _ w (by decide)).mono fun _ _ h => ⟨h.1.trans (ret_same known), h.2⟩
theorem known5 (w : World) : Calls Tryd.prog 8 #[.string { data := #[49, 50, 51, 52, 53] }] w fun e w' => e = .returned (.int .u32 ((more 0 [49, 50, 51, 52, 53] : Nat) : Int)) ∧ Below w.heap.size w w' := of_any _ w (by decide)
theorem known54 (w : World) : Calls Tryd.prog 10 #[.int .u32 ((more 0 [49, 50, 51, 52, 53] : Nat) : Int), .string { data := #[54, 55, 56, 57] }] w fun e w' => e = .returned (.int .u32 3808858755) ∧ Below w.heap.size w w' :=
  (more_any _ _ w (by decide +kernel) (by decide)).mono fun _ _ h => ⟨h.1.trans (ret_same (by rw [show bytesOf { data := #[54, 55, 56, 57] } = [54, 55, 56, 57] from rfl, more_append]; exact known)), h.2⟩
theorem known4 (w : World) : Calls Tryd.prog 8 #[.string { data := #[49, 50, 51, 52] }] w fun e w' => e = .returned (.int .u32 ((more 0 [49, 50, 51, 52] : Nat) : Int)) ∧ Below w.heap.size w w' := of_any _ w (by decide)
theorem known45 (w : World) : Calls Tryd.prog 8 #[.string { data := #[53, 54, 55, 56, 57] }] w fun e w' => e = .returned (.int .u32 ((more 0 [53, 54, 55, 56, 57] : Nat) : Int)) ∧ Below w.heap.size w w' := of_any _ w (by decide)
theorem knownJ (w : World) (hT : TabAt w) : Calls Tryd.prog 12 #[.int .u32 ((more 0 [49, 50, 51, 52] : Nat) : Int), .int .u32 ((more 0 [53, 54, 55, 56, 57] : Nat) : Int), .int .i64 5] w fun e w' => e = .returned (.int .u32 3808858755) ∧ Below w.heap.size w w' :=
  (join_any _ _ 5 w (by decide +kernel) (by decide +kernel) (by decide) hT).mono fun _ _ h => ⟨h.1.trans (ret_same (by rw [show (5 : Nat) = [53, 54, 55, 56, 57].length from rfl, join_more, more_append]; exact known)), h.2⟩
theorem bnext {w w1 w2 : World} (h : Below w.heap.size w w1) (k : Below w1.heap.size w1 w2) : Below w.heap.size w w2 := h.trans (k.mono h.size)

set_option maxRecDepth 10000 in
set_option maxHeartbeats 1000000 in
theorem alive_any (w : World) (hT : TabAt w) : Calls Tryd.prog 7 #[] w fun e w' => e = .returned (.bool true) ∧ Below w.heap.size w w' := by
  have HT := hide hT
  clear hT
  have K5 := fun u => hide (known5 u)
  have K54 := fun u => hide (known54 u)
  have K4 := fun u => hide (known4 u)
  have K45 := fun u => hide (known45 u)
  have KJ := fun u hu => hide (knownJ u hu)
  generalize more 0 [49, 50, 51, 52, 53] = v5 at *
  generalize more 0 [49, 50, 51, 52] = v4 at *
  generalize more 0 [53, 54, 55, 56, 57] = v45 at *
  have HK := hide (And.intro K5 (And.intro K54 (And.intro K4 (And.intro K45 KJ))))
  clear K5 K54 K4 K45 KJ
  go_enter Tryd.func7, Tryd.ntmps7
  go_wp2_with fail
  refine (known0 _).mono ?_
  rintro e w1 ⟨rfl, hb⟩
  have HB1 := hide hb
  clear hb
  go_wp2_with fail
  refine (known9 _).mono ?_
  rintro e w2 ⟨rfl, hb⟩
  have HB2 := hide (bnext HB1.out hb)
  clear hb HB1
  go_wp2_with fail
  refine ((HK.out.1 _).out).mono ?_
  rintro e w3 ⟨rfl, hb⟩
  have HB3 := hide (bnext HB2.out hb)
  clear hb HB2
  go_wp2_with fail
  refine ((HK.out.2.1 _).out).mono ?_
  rintro e w4 ⟨rfl, hb⟩
  have HB4 := hide (bnext HB3.out hb)
  clear hb HB3
  go_wp2_with fail
  refine ((HK.out.2.2.1 _).out).mono ?_
  rintro e w5 ⟨rfl, hb⟩
  have HB5 := hide (bnext HB4.out hb)
  clear hb HB4
  go_wp2_with fail
  refine ((HK.out.2.2.2.1 _).out).mono ?_
  rintro e w6 ⟨rfl, hb⟩
  have HB6 := hide (bnext HB5.out hb)
  clear hb HB5
  go_wp2_with fail
  refine ((HK.out.2.2.2.2 _ (HT.out.below HB6.out)).out).mono ?_
  rintro e w7 ⟨rfl, hb⟩
  have HB7 := hide (bnext HB6.out hb)
  clear hb HB6
  go_wp2
  go_ret
  exact ⟨rfl, HB7.out⟩
end Go.Proofs.YtppebhnfiddbmaaDoor
