/- That the known clocks answer as they should, over the contracts; the law of no clocks. -/
import Derived.Test.YtkphngljgfoniaaRef
namespace Go.Proofs.Ytkphngljgfoniaa
open Go Go.RowKit

theorem al1_is : (Ck.new 2 3).tick 0 3 = (0, ⟨[3, 0], 3, 3⟩) := by rfl
theorem al2_is : Ck.tick ⟨[3, 0], 3, 3⟩ 0 1 = (0, ⟨[4, 0], 3, 4⟩) := by rfl
theorem al3_is : Ck.tick ⟨[4, 0], 3, 4⟩ 1 9 = (0, ⟨[4, 9], 3, 5⟩) := by rfl
theorem i64_0 : I64 0 := ⟨by decide, by decide⟩
theorem i64_1 : I64 1 := ⟨by decide, by decide⟩
theorem i64_3 : I64 3 := ⟨by decide, by decide⟩
theorem i64_9 : I64 9 := ⟨by decide, by decide⟩
set_option maxRecDepth 10000 in
set_option maxHeartbeats 2000000 in
theorem alive_any {TAt : World → Nat → Ck → (Nat → Prop) → Prop} (C : Con TAt) (w : World) : Calls Try.prog 7 #[] w fun e w' => e = .returned (.bool true) ∧ Below w.heap.size w w' := by
  have HC := hide C
  have KN := hide (C.new 2 3 w (by decide) (by decide) (by decide) (by decide))
  have HO0 := hide (Ck.Ok.new (n := 2) (b := 3) (by decide) (by decide) ⟨by decide, by decide⟩)
  have HO1 := hide (HO0.out.tick 0 3)
  rw [al1_is] at HO1
  have HO2 := hide (HO1.out.tick 0 1)
  rw [show (0, (⟨[3, 0], 3, 3⟩ : Ck)).2 = ⟨[3, 0], 3, 3⟩ from rfl, al2_is] at HO2
  have HO3 := hide (HO2.out.tick 1 9)
  rw [show (0, (⟨[4, 0], 3, 4⟩ : Ck)).2 = ⟨[4, 0], 3, 4⟩ from rfl, al3_is] at HO3
  clear C
  go_enter Try.func7, Try.ntmps7
  go_wp2_with fail
  refine KN.out.mono ?_
  rintro e w1 ⟨p, F, rfl, h1, hF, hb⟩
  have H1 := hide (Has.mk (W := w) (B := w.heap.size) h1 HO0.out hF hb)
  have HZ := hide (Nat.le_refl w.heap.size)
  clear h1 hF hb KN
  have KT := hide (HC.out.tick p _ F 0 3 w1 H1.out.at_ HO0.out i64_0 i64_3)
  rw [al1_is] at KT
  go_wp2_with fail
  refine KT.out.mono ?_
  rintro e w2 ⟨rfl, F2, h2, l2⟩
  have H2 := hide (H1.out.new h2 HO1.out l2 H1.out.below.size)
  clear h2 l2 KT H1 HO0
  have KW := hide (HC.out.within p _ F2 w2 H2.out.at_ H2.out.ok)
  rw [show decide ((0, (⟨[3, 0], 3, 3⟩ : Ck)).2.m ≤ (0, (⟨[3, 0], 3, 3⟩ : Ck)).2.b) = true from rfl] at KW
  go_wp2_with fail
  refine KW.out.mono ?_
  rintro e w3 ⟨rfl, hb⟩
  have H3 := hide (H2.out.old HC.out hb H2.out.below.size)
  clear hb KW H2
  have KT := hide (HC.out.tick p _ F2 0 1 w3 H3.out.at_ HO1.out i64_0 i64_1)
  rw [al2_is] at KT
  go_wp2_with fail
  refine KT.out.mono ?_
  rintro e w4 ⟨rfl, F4, h4, l4⟩
  have H4 := hide (H3.out.new h4 HO2.out l4 H3.out.below.size)
  clear h4 l4 KT H3 HO1
  have KT := hide (HC.out.tick p _ F4 1 9 w4 H4.out.at_ HO2.out i64_1 i64_9)
  rw [al3_is] at KT
  go_wp2_with fail
  refine KT.out.mono ?_
  rintro e w5 ⟨rfl, F5, h5, l5⟩
  have H5 : Hid (Has TAt w.heap.size w w5 p ⟨[4, 9], 3, 5⟩ F5) := hide (H4.out.new h5 HO3.out l5 H4.out.below.size)
  clear h5 l5 KT H4 HO2 HO3
  have KA : Hid (Calls Try.prog 16 #[.pointer (some ⟨p, 0, none⟩), .int .i64 1] w5 fun e v => e = .returned (.tuple #[.int .i64 9, .int .i64 0]) ∧ Below w5.heap.size w5 v) := hide (HC.out.at_ p _ F5 1 w5 H5.out.at_ H5.out.ok (by decide))
  go_wp2_with fail
  refine KA.out.mono ?_
  rintro e w6 ⟨rfl, hb⟩
  have H6 := hide (H5.out.old HC.out hb H5.out.below.size)
  clear hb KA H5
  have KW : Hid (Calls Try.prog 15 #[.pointer (some ⟨p, 0, none⟩)] w6 fun e v => e = .returned (.bool false) ∧ Below w6.heap.size w6 v) := hide (HC.out.within p _ F5 w6 H6.out.at_ H6.out.ok)
  go_wp2_with fail
  refine KW.out.mono ?_
  rintro e w7 ⟨rfl, hb⟩
  have H7 := hide (H6.out.old HC.out hb H6.out.below.size)
  clear hb KW H6
  have KD : Hid (Calls Try.prog 13 #[.pointer (some ⟨p, 0, none⟩)] w7 fun e v => e = .returned (.int .i64 5) ∧ Below w7.heap.size w7 v) := hide (HC.out.apart p _ F5 w7 H7.out.at_ H7.out.ok)
  go_wp2_with fail
  refine KD.out.mono ?_
  rintro e w8 ⟨rfl, hb⟩
  have H8 := hide (H7.out.old HC.out hb H7.out.below.size)
  clear hb KD H7
  have KL : Hid (Calls Try.prog 10 #[.pointer (some ⟨p, 0, none⟩)] w8 fun e v => e = .returned (.int .i64 2) ∧ Below w8.heap.size w8 v) := hide (HC.out.len p _ F5 w8 H8.out.at_ H8.out.ok)
  go_wp2_with fail
  refine KL.out.mono ?_
  rintro e w9 ⟨rfl, hb⟩
  have H9 := hide (H8.out.old HC.out hb H8.out.below.size)
  clear hb KL H8
  go_wp2
  go_ret
  exact ⟨rfl, H9.out.below⟩
set_option maxRecDepth 10000 in
set_option maxHeartbeats 2000000 in
theorem TicksNone_any {TAt : World → Nat → Ck → (Nat → Prop) → Prop} (C : Con TAt) (k y : Int) (w : World) :
    Calls Try.prog 5 #[.int .i64 k, .int .i64 y] w fun e w' => e = .returned (.bool true) ∧ Below w.heap.size w w' := by
  have HC := hide C
  clear C
  go_enter Try.func5, Try.ntmps5
  go_wp2_with fail
  refine (HC.out.nat k _).mono ?_
  rintro e w1 ⟨rfl, hb⟩
  have HB1 := hide hb
  clear hb
  go_wp2_with fail
  refine (HC.out.ntick k y _).mono ?_
  rintro e w2 ⟨rfl, hb⟩
  have HB2 := hide (bnext HB1.out hb)
  clear hb HB1
  go_wp2_with fail
  refine (HC.out.napart _).mono ?_
  rintro e w3 ⟨rfl, hb⟩
  have HB3 := hide (bnext HB2.out hb)
  clear hb HB2
  go_wp2_with fail
  refine (HC.out.nwithin _).mono ?_
  rintro e w4 ⟨rfl, hb⟩
  have HB4 := hide (bnext HB3.out hb)
  clear hb HB3
  go_wp2_with fail
  refine (HC.out.nlen _).mono ?_
  rintro e w5 ⟨rfl, hb⟩
  have HB5 := hide (bnext HB4.out hb)
  clear hb HB4
  go_wp2_with fail
  refine (alive_any HC.out _).mono ?_
  rintro e w6 ⟨rfl, hb⟩
  have HB6 := hide (bnext HB5.out hb)
  clear hb HB5
  go_wp2
  go_ret
  exact ⟨rfl, HB6.out⟩
end Go.Proofs.Ytkphngljgfoniaa
