/- The known run. -/
import Derived.Test.YtodndkmpjpiidaaAsked
namespace Go.Proofs.Ytodndkmpjpiidaa
open Go Go.RowKit
theorem bnext {w w1 w2 : World} (h : Below w.heap.size w w1) (k : Below w1.heap.size w1 w2) : Below w.heap.size w w2 := h.trans (k.mono h.size)
theorem bbut {p : Nat} {w w1 w2 : World} (h : Below w.heap.size w w1) (k : But p w1 w2) (hp : w.heap.size ≤ p) : Below w.heap.size w w2 := h.trans (k.below hp h.size)

theorem asked_any {WAt : World → Nat → St → Prop} (C : Con WAt) (p q d most : Nat) (least : Int) (st : St) (w : World) (hw : WAt w p st) (hr : RefAt w q st) (hpq : p ≠ q) (hs : st.s.size ≤ 140737488351232) (hm : most < 18446744073709551616) (hl : -9223372036854775808 ≤ least ∧ least ≤ 9223372036854775807) (hd2 : d < 256) :
    Calls Try.prog 17 #[.pointer (some ⟨p, 0, none⟩), .pointer (some ⟨q, 0, none⟩), .agg #[.int .u8 (d : Int), .int .i64 least, .int .u64 (most : Int)]] w fun r w' => r = .returned (.bool true) ∧ ∃ st', WAt w' p st' ∧ RefAt w' q st' ∧ st'.s.size ≤ 140737488351232 ∧ But2 p q w w' := by
  have hc : d % 6 = 0 ∨ d % 6 = 1 ∨ d % 6 = 2 ∨ d % 6 = 3 ∨ d % 6 = 4 ∨ d % 6 = 5 := by omega
  rcases hc with h | h | h | h | h | h
  · exact asked0 C p q d most least st w hw hr hpq hs hm hl h hd2
  · exact asked1 C p q d most least st w hw hr hpq hs hm hl h hd2
  · exact asked2 C p q d most least st w hw hr hpq hs hm hl h hd2
  · exact asked3 C p q d most least st w hw hr hpq hs hm hl h hd2
  · exact asked4 C p q d most least st w hw hr hpq hs hm hl h hd2
  · exact asked5 C p q d most least st w hw hr hpq hs hm hl h hd2

/-- The known reader's states, one behind the other. -/
def a0 : St := ⟨{ data := #[128, 1, 2, 97, 98, 1, 1] }, 0⟩
def a1 : St := (a0.uint 200).2
def a2 : St := (a1.text 2).2
def a3 : St := (a2.int (-5) 5).2
def a4 : St := a3.bool.2
def z0 : St := ⟨{ data := #[128, 0] }, 0⟩
def z1 : St := (z0.uint 9).2
theorem a0v : (a0.uint 200).1 = 128 := by decide +kernel
theorem a1v : (a1.text 2).1 = { data := #[97, 98] } := by decide +kernel
theorem a2v : (a2.int (-5) 5).1 = -1 := by decide +kernel
theorem a3v : a3.bool.1 = true := by decide +kernel
theorem a4v : a4.end_.1 = 0 := by decide +kernel
theorem z0v : (z0.uint 9).1 = 0 := by decide +kernel
theorem z1v : z1.e = 8 := by decide +kernel
theorem a1s : a1.s.size ≤ 140737488351232 := by decide +kernel
theorem a2s : a2.s.size ≤ 140737488351232 := by decide +kernel
theorem a3s : a3.s.size ≤ 140737488351232 := by decide +kernel
theorem a4s : a4.s.size ≤ 140737488351232 := by decide +kernel
theorem e128 : textOf (enc 128) = { data := #[128, 1] } := by decide +kernel
theorem em1 : textOf (enc (zig (-1))) = { data := #[1] } := by decide +kernel
theorem eab : textOf (enc (ByteArray.mk #[97, 98]).size ++ bytesOf { data := #[97, 98] }) = { data := #[2, 97, 98] } := by decide +kernel
theorem etr : textOf [if true then 1 else 0] = { data := #[1] } := by decide +kernel

set_option maxRecDepth 10000 in
set_option maxHeartbeats 2000000 in
theorem alive_any {WAt : World → Nat → St → Prop} (C : Con WAt) (w : World) : Calls Try.prog 7 #[] w fun e w' => e = .returned (.bool true) ∧ Below w.heap.size w w' := by
  have K0 := hide (fun u => C.new a0.s u (by decide +kernel))
  have K1 := hide (fun p u (h : WAt u p a0) => (C.uint p 200 a0 u h (by decide +kernel) (by decide)))
  have K2 := hide (fun p u (h : WAt u p a1) => (C.text p 2 a1 u h a1s (by decide)))
  have K3 := hide (fun p u (h : WAt u p a2) => (C.int p (-5) 5 a2 u h a2s (by decide) (by decide)))
  have K4 := hide (fun p u (h : WAt u p a3) => (C.bool p a3 u h a3s))
  have K5 := hide (fun p u (h : WAt u p a4) => (C.end_ p a4 u h a4s))
  have L0 := hide (fun u => C.new z0.s u (by decide +kernel))
  have L1 := hide (fun p u (h : WAt u p z0) => (C.uint p 9 z0 u h (by decide +kernel) (by decide)))
  have L2 := hide (fun p u (h : WAt u p z1) => (C.err p z1 u h))
  have M1 := hide (fun u => C.wuint 128 u (by decide))
  have M2 := hide (fun u => C.wint (-1) u (by decide))
  have M3 := hide (fun u => C.wtext { data := #[97, 98] } u (by decide))
  have M4 := hide (fun u => C.wbool true u)
  unfold Hid at *
  rw [a0v] at K1
  rw [a1v] at K2
  rw [a2v] at K3
  rw [a3v] at K4
  rw [a4v] at K5
  rw [z0v] at L1
  rw [z1v] at L2
  rw [e128] at M1
  rw [em1] at M2
  rw [eab] at M3
  rw [etr] at M4
  have HK0 := hide K0; have HK1 := hide K1; have HK2 := hide K2; have HK3 := hide K3; have HK4 := hide K4; have HK5 := hide K5
  have HL0 := hide L0; have HL1 := hide L1; have HL2 := hide L2
  have HM1 := hide M1; have HM2 := hide M2; have HM3 := hide M3; have HM4 := hide M4
  clear K0 K1 K2 K3 K4 K5 L0 L1 L2 M1 M2 M3 M4
  go_enter Try.func7, Try.ntmps7
  go_wp2_with fail
  refine (HK0.out _).mono ?_
  rintro e w1 ⟨p, rfl, hp, hw1, hb1⟩
  have HP := hide hp; have HW1 := hide hw1; have HB1 := hide hb1
  clear hp hw1 hb1
  go_wp2_with fail
  refine (HK1.out p _ HW1.out).mono ?_
  rintro e w2 ⟨rfl, hw2, hb2⟩
  have HW2 := hide hw2; have HB2 := hide (bbut HB1.out hb2 HP.out)
  clear hw2 hb2 HW1 HB1
  go_wp2_with fail
  refine (HK2.out p _ HW2.out).mono ?_
  rintro e w3 ⟨rfl, hw3, hb3⟩
  have HW3 := hide hw3; have HB3 := hide (bbut HB2.out hb3 HP.out)
  clear hw3 hb3 HW2 HB2
  go_wp2_with fail
  refine (HK3.out p _ HW3.out).mono ?_
  rintro e w4 ⟨rfl, hw4, hb4⟩
  have HW4 := hide hw4; have HB4 := hide (bbut HB3.out hb4 HP.out)
  clear hw4 hb4 HW3 HB3
  go_wp2_with fail
  refine (HK4.out p _ HW4.out).mono ?_
  rintro e w5 ⟨rfl, hw5, hb5⟩
  have HW5 := hide hw5; have HB5 := hide (bbut HB4.out hb5 HP.out)
  clear hw5 hb5 HW4 HB4
  go_wp2_with fail
  refine (HK5.out p _ HW5.out).mono ?_
  rintro e w6 ⟨rfl, hw6, hb6⟩
  have HB6 := hide (bbut HB5.out hb6 HP.out)
  clear hw6 hb6 HW5 HB5
  go_wp2_with fail
  refine (HL0.out _).mono ?_
  rintro e w7 ⟨q, rfl, hq, hw7, hb7⟩
  have HQ := hide (Nat.le_trans HB6.out.size hq); have HW7 := hide hw7; have HB7 := hide (bnext HB6.out hb7)
  clear hq hw7 hb7 HB6
  go_wp2_with fail
  refine (HL1.out q _ HW7.out).mono ?_
  rintro e w8 ⟨rfl, hw8, hb8⟩
  have HW8 := hide hw8; have HB8 := hide (bbut HB7.out hb8 HQ.out)
  clear hw8 hb8 HW7 HB7
  go_wp2_with fail
  refine (HL2.out q _ HW8.out).mono ?_
  rintro e w9 ⟨rfl, hb9⟩
  have HB9 := hide (bnext HB8.out hb9)
  clear hb9 HB8
  go_wp2_with fail
  refine (HM1.out _).mono ?_
  rintro e w10 ⟨rfl, hb10⟩
  have HB10 := hide (bnext HB9.out hb10)
  clear hb10 HB9
  go_wp2_with fail
  refine (HM2.out _).mono ?_
  rintro e w11 ⟨rfl, hb11⟩
  have HB11 := hide (bnext HB10.out hb11)
  clear hb11 HB10
  go_wp2_with fail
  refine (HM3.out _).mono ?_
  rintro e w12 ⟨rfl, hb12⟩
  have HB12 := hide (bnext HB11.out hb12)
  clear hb12 HB11
  go_wp2_with fail
  refine (HM4.out _).mono ?_
  rintro e w13 ⟨rfl, hb13⟩
  have HB13 := hide (bnext HB12.out hb13)
  clear hb13 HB12
  go_wp2
  go_ret
  exact ⟨rfl, HB13.out⟩
end Go.Proofs.Ytodndkmpjpiidaa
