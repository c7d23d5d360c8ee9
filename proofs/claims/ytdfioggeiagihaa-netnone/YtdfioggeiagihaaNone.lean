/- The law NetNone, over the contracts. -/
import Derived.Test.YtdfioggeiagihaaAlive
namespace Go.Proofs.Ytdfioggeiagihaa
open Go Go.RowKit

set_option maxRecDepth 10000 in
set_option maxHeartbeats 4000000 in
theorem NetNone_any {NAt : World → Nat → Nt → (Nat → Prop) → Prop} (C : Con NAt) (a b : Int) (id : Nat) (w : World) (ha : I64 a) (hb : I64 b) (hid : id < 18446744073709551616) : Calls Try.prog 6 #[.int .i64 a, .int .i64 b, .int .u64 (id : Int)] w fun e w' => e = .returned (.bool true) ∧ Below w.heap.size w w' := by
  have HC := hide C
  have K1 := fun u => hide (C.nsend a b u ha hb)
  have K2 := fun u => hide (C.ntake id u hid)
  rw [noLt_is] at K2
  have K3 := fun u => hide (C.ndouble id u hid)
  have K4 := fun u => hide (C.ndrop id u hid)
  have K5 := fun u => hide (C.npart a b u ha hb)
  have K6 := fun u => hide (C.njoin a b u ha hb)
  have K7 := fun u => hide (C.nparted a b u ha hb)
  clear C ha hb hid
  go_enter Try.func6, Try.ntmps6
  go_wp2_with fail
  refine (K1 _).out.mono ?_
  rintro e w1 ⟨rfl, hb1⟩
  have HB1 := hide hb1
  clear hb1
  go_wp2_with fail
  refine (K2 _).out.mono ?_
  rintro e w2 ⟨rfl, hb2⟩
  have HB2 := hide (bnext HB1.out hb2)
  clear hb2 HB1
  go_wp2_with fail
  have HX := hide (Box.new w2 #[.int .u64 0, .int .i64 0, .int .i64 0, .string ⟨#[]⟩, .int .i64 0] 41)
  have HB3 := hide (bnext HB2.out (one_below w2 (.cells #[.int .u64 0, .int .i64 0, .int .i64 0, .string ⟨#[]⟩, .int .i64 0] 41)))
  generalize w2.alloc (.cells #[.int .u64 0, .int .i64 0, .int .i64 0, .string ⟨#[]⟩, .int .i64 0] 41) = w3 at *
  generalize w2.heap.size = X at *
  refine (K3 _).out.mono ?_
  rintro e w4 ⟨rfl, hb4⟩
  have HB4 := hide (bnext HB3.out hb4)
  have HX4 := hide (HX.out.below hb4)
  clear hb4 HB3 HX HB2
  go_wp2_with fail
  refine (HC.out.nage w4).mono ?_
  rintro e w5 ⟨rfl, hb5⟩
  have HB5 := hide (bnext HB4.out hb5)
  have HX5 := hide (HX4.out.below hb5)
  clear hb5 HB4 HX4
  obtain ⟨c0, c1, c2, c3, c4⟩ := HX5.out.five
  go_wp2_with fail
  clear c0 c1 c2 c3 c4 HX5
  refine (K4 _).out.mono ?_
  rintro e w6 ⟨rfl, hb⟩
  have HB6 := hide (bnext HB5.out hb)
  clear hb HB5
  go_wp2_with fail
  refine (K5 _).out.mono ?_
  rintro e w7 ⟨rfl, hb⟩
  have HB7 := hide (bnext HB6.out hb)
  clear hb HB6
  go_wp2_with fail
  refine (K6 _).out.mono ?_
  rintro e w8 ⟨rfl, hb⟩
  have HB8 := hide (bnext HB7.out hb)
  clear hb HB7
  go_wp2_with fail
  refine (K7 _).out.mono ?_
  rintro e w9 ⟨rfl, hb⟩
  have HB9 := hide (bnext HB8.out hb)
  clear hb HB8
  go_wp2_with fail
  refine (HC.out.nlist w9).mono ?_
  rintro e w10 ⟨xa, xc, rfl, hb⟩
  have HB10 := hide (bnext HB9.out hb)
  clear hb HB9
  go_wp2_with fail
  refine (HC.out.nready w10).mono ?_
  rintro e w11 ⟨ya, yc, rfl, hb⟩
  have HB11 := hide (bnext HB10.out hb)
  clear hb HB10
  go_wp2_with fail
  refine (HC.out.nlen w11).mono ?_
  rintro e w12 ⟨rfl, hb⟩
  have HB12 := hide (bnext HB11.out hb)
  clear hb HB11
  go_wp2_with fail
  refine (alive_any HC.out w12).mono ?_
  rintro e w13 ⟨rfl, hb⟩
  have HB13 := hide (bnext HB12.out hb)
  clear hb HB12
  go_wp2
  go_ret
  exact ⟨rfl, HB13.out⟩
end Go.Proofs.Ytdfioggeiagihaa
