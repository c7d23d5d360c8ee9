/- That the known net answers as it should, over the contracts; the law of no net. -/
import Derived.Test.YtdfioggeiagihaaSteps
import Derived.Test.YtdfioggeiagihaaBox
namespace Go.Proofs.Ytdfioggeiagihaa
open Go Go.RowKit

def la (i : Nat) : Lt := ⟨i, 0, 1, ⟨#[97]⟩, 0⟩
def lb (i : Nat) : Lt := ⟨i, 0, 1, ⟨#[98]⟩, 0⟩
def noP : Int → Int → Bool := fun _ _ => false
def p01 : Int → Int → Bool := fun x y => noP x y || pair 0 1 x y
def n1 : Nt := ⟨[la 1], 1, noP⟩
def n2 : Nt := ⟨[la 1, la 2], 2, noP⟩
def n3 : Nt := ⟨[la 2], 2, noP⟩
def n4 : Nt := ⟨[], 2, noP⟩
def n5 : Nt := ⟨[], 2, p01⟩
def n6 : Nt := ⟨[lb 3], 3, p01⟩
theorem al1_is : Nt.new.send 0 1 ⟨#[97]⟩ = (1, 0, n1) := by rfl
theorem al2_is : n1.double 1 = (2, 0, n2) := by rfl
theorem al3_is : n2.drop 1 = (0, n3) := by rfl
theorem al4_is : n3.take 2 = (la 2, 0, n4) := by rfl
theorem al5_is : n4.part 0 1 = (0, n5) := by rfl
theorem al6_is : n5.send 0 1 ⟨#[98]⟩ = (3, 0, n6) := by rfl
theorem al7_is : n6.take 3 = (noLt, 100, n6) := by rfl
theorem i64_0 : I64 0 := ⟨by decide, by decide⟩
theorem i64_1 : I64 1 := ⟨by decide, by decide⟩
theorem fine9 : Fine 9 := by unfold Fine; decide
theorem ok_new : Nt.new.Ok 9 := Nt.Ok.new.more (by decide)
theorem ok_1 : n1.Ok 9 := by have := Nt.Ok.new.send 0 1 ⟨#[97]⟩; rw [al1_is] at this; exact this.more (by decide)
theorem ok_2' : n2.Ok 2 := by
  have h := Nt.Ok.new.send 0 1 ⟨#[97]⟩
  rw [al1_is] at h
  have := Nt.Ok.double h 1
  rw [show ((1, 0, n1) : Nat × Nat × Nt).2.2 = n1 from rfl, al2_is] at this
  exact this
theorem ok_2 : n2.Ok 9 := ok_2'.more (by decide)
theorem ok_3 : n3.Ok 9 := by have := ok_2.dropped 1; rw [al3_is] at this; exact this
theorem ok_4 : n4.Ok 2 := by
  have h := ok_2'.dropped 1
  rw [al3_is] at h
  have := h.take 2
  rw [show ((0, n3) : Nat × Nt).2 = n3 from rfl, al4_is] at this
  exact this
theorem ok_5 : n5.Ok 2 := by have := ok_4.parted 0 1; rw [al5_is] at this; exact this
theorem ok_6 : n6.Ok 9 := by have := ok_5.send 0 1 ⟨#[98]⟩; rw [al6_is] at this; exact this.more (by decide)
theorem la2_is : (la 2).val = .agg #[.int .u64 2, .int .i64 0, .int .i64 1, .string ⟨#[97]⟩, .int .i64 0] := rfl
theorem noLt_is : noLt.val = .agg #[.int .u64 0, .int .i64 0, .int .i64 0, .string ⟨#[]⟩, .int .i64 0] := rfl
set_option maxRecDepth 10000 in
set_option maxHeartbeats 4000000 in
theorem alive_any {NAt : World → Nat → Nt → (Nat → Prop) → Prop} (C : Con NAt) (w : World) : Calls Try.prog 9 #[] w fun e w' => e = .returned (.bool true) ∧ Below w.heap.size w w' := by
  have HC := hide C
  clear C
  go_enter Try.func9, Try.ntmps9
  go_wp2_with fail
  refine (HC.out.new w).mono ?_
  rintro e w1 ⟨p, F, rfl, h1, hF, hb⟩
  have H1 := hide (Has.mk (W := w) (B := w.heap.size) h1 ok_new hF hb)
  clear h1 hF hb
  have KT := hide (HC.out.send p _ F 9 0 1 ⟨#[97]⟩ w1 H1.out.at_ ok_new fine9 i64_0 i64_1 (by decide))
  rw [al1_is] at KT
  go_wp2_with fail
  refine KT.out.mono ?_
  rintro e w2 ⟨rfl, F2, h2, l2⟩
  have H2 := hide (H1.out.new h2 ok_1 l2 H1.out.below.size)
  clear h2 l2 KT H1
  have KT := hide (HC.out.double p _ F2 9 1 w2 H2.out.at_ ok_1 fine9 (by decide))
  rw [al2_is] at KT
  go_wp2_with fail
  refine KT.out.mono ?_
  rintro e w3 ⟨rfl, F3, h3, l3⟩
  have H3 := hide (H2.out.new h3 ok_2 l3 H2.out.below.size)
  clear h3 l3 KT H2
  have KT := hide (HC.out.drop p _ F3 9 1 w3 H3.out.at_ ok_2 fine9 (by decide))
  rw [al3_is] at KT
  go_wp2_with fail
  refine KT.out.mono ?_
  rintro e w4 ⟨rfl, F4, h4, l4⟩
  have H4 := hide (H3.out.new h4 ok_3 l4 H3.out.below.size)
  clear h4 l4 KT H3
  have KT := hide (HC.out.take p _ F4 9 2 w4 H4.out.at_ ok_3 fine9 (by decide))
  rw [al4_is, la2_is] at KT
  go_wp2_with fail
  refine KT.out.mono ?_
  rintro e w5 ⟨rfl, F5, h5, l5⟩
  have H5 := hide (H4.out.new h5 (ok_4.more (show 2 ≤ 9 by decide)) l5 H4.out.below.size)
  clear h5 l5 KT H4
  go_wp2_with fail
  have hb5 := hide (one_below w5 (.cells #[.int .u64 2, .int .i64 0, .int .i64 1, .string ⟨#[97]⟩, .int .i64 0] 41))
  have hx5 := hide (Box.new w5 #[.int .u64 2, .int .i64 0, .int .i64 1, .string ⟨#[97]⟩, .int .i64 0] 41)
  have H6 := hide (H5.out.old HC.out hb5.out H5.out.below.size)
  have HX : Hid (¬ F5 w5.heap.size ∧ w.heap.size ≤ w5.heap.size) := ⟨fun hf => by have := HC.out.lt H5.out.at_ _ hf; omega, H5.out.below.size⟩
  clear H5 hb5
  generalize w5.alloc (.cells #[.int .u64 2, .int .i64 0, .int .i64 1, .string ⟨#[97]⟩, .int .i64 0] 41) = w6 at *
  generalize w5.heap.size = X at *
  have KT := hide (HC.out.part p _ F5 9 0 1 w6 H6.out.at_ (ok_4.more (show 2 ≤ 9 by decide)) fine9 i64_0 i64_1)
  rw [al5_is] at KT
  refine KT.out.mono ?_
  rintro e w7 ⟨rfl, F7, h7, l7⟩
  have B7 := hide (hx5.out.loc l7 HX.out.1)
  have N7 : Hid (¬ F7 X) := fun hf => by
    rcases l7.own X hf with h | h
    · exact HX.out.1 h
    · have := hx5.out.lt; omega
  have H7 := hide (H6.out.new h7 (ok_5.more (show 2 ≤ 9 by decide)) l7 H6.out.below.size)
  clear h7 l7 KT H6 hx5
  have KT := hide (HC.out.send p _ F7 9 0 1 ⟨#[98]⟩ w7 H7.out.at_ (ok_5.more (show 2 ≤ 9 by decide)) fine9 i64_0 i64_1 (by decide))
  rw [al6_is] at KT
  go_wp2_with fail
  refine KT.out.mono ?_
  rintro e w8 ⟨rfl, F8, h8, l8⟩
  have B8 := hide (B7.out.loc l8 N7.out)
  have N8 : Hid (¬ F8 X) := fun hf => by
    rcases l8.own X hf with h | h
    · exact N7.out h
    · have := B7.out.lt; omega
  have H8 := hide (H7.out.new h8 ok_6 l8 H7.out.below.size)
  clear h8 l8 KT H7 B7 N7
  have KT := hide (HC.out.take p _ F8 9 3 w8 H8.out.at_ ok_6 fine9 (by decide))
  rw [al7_is, noLt_is] at KT
  go_wp2_with fail
  refine KT.out.mono ?_
  rintro e w9 ⟨rfl, F9, h9, l9⟩
  have B9 := hide (B8.out.loc l9 N8.out)
  have H9 := hide (H8.out.new h9 ok_6 l9 H8.out.below.size)
  clear h9 l9 KT H8 B8 N8 HX
  obtain ⟨c0, c1, c2, c3, c4⟩ := (B9.out.below (one_below w9 (.cells #[.int .u64 0, .int .i64 0, .int .i64 0, .string ⟨#[]⟩, .int .i64 0] 41))).five
  have H10 := hide (H9.out.old HC.out (one_below w9 (.cells #[.int .u64 0, .int .i64 0, .int .i64 0, .string ⟨#[]⟩, .int .i64 0] 41)) H9.out.below.size)
  have KP := hide (HC.out.parted p _ F9 9 1 0 _ H10.out.at_ ok_6 fine9 i64_1 i64_0)
  rw [show n6.p 1 0 = true from rfl] at KP
  clear H9 B9
  go_wp2_with fail
  generalize w9.alloc (.cells #[.int .u64 0, .int .i64 0, .int .i64 0, .string ⟨#[]⟩, .int .i64 0] 41) = w10 at *
  clear c0 c1 c2 c3 c4
  refine KP.out.mono ?_
  rintro e w11 ⟨rfl, hb⟩
  have H11 := hide (H10.out.old HC.out hb H10.out.below.size)
  clear hb KP H10
  have KL := hide (HC.out.len p _ F9 9 w11 H11.out.at_ ok_6 fine9)
  rw [show ((n6.l.length : Nat) : Int) = 1 from rfl] at KL
  go_wp2_with fail
  refine KL.out.mono ?_
  rintro e w12 ⟨rfl, hb⟩
  have HB := hide (H11.out.below.trans (hb.mono H11.out.below.size))
  clear hb KL H11
  go_wp2
  go_ret
  exact ⟨rfl, HB.out⟩
end Go.Proofs.Ytdfioggeiagihaa
