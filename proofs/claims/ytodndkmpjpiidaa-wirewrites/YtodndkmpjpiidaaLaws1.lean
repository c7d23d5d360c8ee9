/- WireNil and WireWrites over the contracts. -/
import Derived.Test.YtodndkmpjpiidaaAlive
namespace Go.Proofs.Ytodndkmpjpiidaa
open Go Go.RowKit

set_option maxRecDepth 10000 in
set_option maxHeartbeats 2000000 in
theorem WireNil_any {WAt : World → Nat → St → Prop} (C : Con WAt) (most : Nat) (w : World) (hm : most < 18446744073709551616) :
    Calls Try.prog 6 #[.int .u64 (most : Int)] w fun e w' => e = .returned (.bool true) ∧ Below w.heap.size w w' := by
  have HM := hide hm
  clear hm
  go_enter Try.func6, Try.ntmps6
  go_wp2_with fail
  refine (C.nuint most _ HM.out).mono ?_
  rintro e w1 ⟨rfl, hb⟩
  have HB1 := hide hb
  clear hb
  go_wp2_with fail
  refine (C.nint _).mono ?_
  rintro e w2 ⟨rfl, hb⟩
  have HB2 := hide (bnext HB1.out hb)
  clear hb HB1
  go_wp2_with fail
  refine (C.ntext _).mono ?_
  rintro e w3 ⟨rfl, hb⟩
  have HB3 := hide (bnext HB2.out hb)
  clear hb HB2
  go_wp2_with fail
  refine (C.ncount _).mono ?_
  rintro e w4 ⟨rfl, hb⟩
  have HB4 := hide (bnext HB3.out hb)
  clear hb HB3
  go_wp2_with fail
  refine (C.nbool _).mono ?_
  rintro e w5 ⟨rfl, hb⟩
  have HB5 := hide (bnext HB4.out hb)
  clear hb HB4
  go_wp2_with fail
  refine (C.nleft _).mono ?_
  rintro e w6 ⟨rfl, hb⟩
  have HB6 := hide (bnext HB5.out hb)
  clear hb HB5
  go_wp2_with fail
  refine (C.nerr _).mono ?_
  rintro e w7 ⟨rfl, hb⟩
  have HB7 := hide (bnext HB6.out hb)
  clear hb HB6
  go_wp2_with fail
  refine (C.nend _).mono ?_
  rintro e w8 ⟨rfl, hb⟩
  have HB8 := hide (bnext HB7.out hb)
  clear hb HB7
  go_wp2_with fail
  refine (alive_any C _).mono ?_
  rintro e w9 ⟨rfl, hb⟩
  have HB9 := hide (bnext HB8.out hb)
  clear hb HB8
  go_wp2
  go_ret
  exact ⟨rfl, HB9.out⟩

set_option maxRecDepth 10000 in
set_option maxHeartbeats 2000000 in
theorem WireWrites_any {WAt : World → Nat → St → Prop} (C : Con WAt) (x : Nat) (y : Int) (s : ByteArray) (b : Bool) (w : World) (hx : x < 18446744073709551616) (hy : -9223372036854775808 ≤ y ∧ y ≤ 9223372036854775807) (hs : s.size ≤ 140737488351232) :
    Calls Try.prog 3 #[.int .u64 (x : Int), .int .i64 y, .string s, .bool b] w fun e w' => e = .returned (.bool true) ∧ Below w.heap.size w w' := by
  by_cases hl : s.size > 4096
  · have hz : (4096 : Int) < (s.size : Int) := by omega
    clear hx hy
    go_enter Try.func3, Try.ntmps3
    go_wp2_with fail
    refine (alive_any C _).mono ?_
    rintro e w1 ⟨rfl, hb⟩
    have HB := hide hb
    clear hb
    go_wp2
    go_ret
    exact ⟨rfl, HB.out⟩
  · have hz : ¬ ((4096 : Int) < (s.size : Int)) := by omega
    have K1 := hide (fun u => C.wuint x u hx)
    have K2 := hide (fun u => refUint_any x u hx)
    have K3 := hide (fun u => C.wint y u hy)
    have K4 := hide (fun u => refInt_any y u hy)
    have K5 := hide (fun u => C.wtext s u hs)
    have K6 := hide (fun u => refText_any s u hs)
    have K7 := hide (fun u => C.wbool b u)
    have K8 := hide (fun u => refBool_any b u)
    generalize textOf (enc x) = t1 at *
    generalize textOf (enc (zig y)) = t2 at *
    generalize textOf (enc s.size ++ bytesOf s) = t3 at *
    generalize textOf [if b then 1 else 0] = t4 at *
    clear hx hy
    go_enter Try.func3, Try.ntmps3
    go_wp2_with fail
    refine (K1.out _).mono ?_
    rintro e w1 ⟨rfl, hb⟩
    have HB1 := hide hb
    clear hb
    go_wp2_with fail
    refine (K2.out _).mono ?_
    rintro e w2 ⟨rfl, hb⟩
    have HB2 := hide (bnext HB1.out hb)
    clear hb HB1
    go_wp2_with fail
    refine (K3.out _).mono ?_
    rintro e w3 ⟨rfl, hb⟩
    have HB3 := hide (bnext HB2.out hb)
    clear hb HB2
    go_wp2_with fail
    refine (K4.out _).mono ?_
    rintro e w4 ⟨rfl, hb⟩
    have HB4 := hide (bnext HB3.out hb)
    clear hb HB3
    go_wp2_with fail
    refine (K5.out _).mono ?_
    rintro e w5 ⟨rfl, hb⟩
    have HB5 := hide (bnext HB4.out hb)
    clear hb HB4
    go_wp2_with fail
    refine (K6.out _).mono ?_
    rintro e w6 ⟨rfl, hb⟩
    have HB6 := hide (bnext HB5.out hb)
    clear hb HB5
    go_wp2_with fail
    refine (K7.out _).mono ?_
    rintro e w7 ⟨rfl, hb⟩
    have HB7 := hide (bnext HB6.out hb)
    clear hb HB6
    go_wp2_with fail
    refine (K8.out _).mono ?_
    rintro e w8 ⟨rfl, hb⟩
    have HB8 := hide (bnext HB7.out hb)
    clear hb HB7
    go_wp2_with fail
    refine (alive_any C _).mono ?_
    rintro e w9 ⟨rfl, hb⟩
    have HB9 := hide (bnext HB8.out hb)
    clear hb HB8
    go_wp2
    go_ret
    exact ⟨rfl, HB9.out⟩
end Go.Proofs.Ytodndkmpjpiidaa
