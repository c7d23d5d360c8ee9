/- The program's own writers: Uint, Int, Text, Bool. -/
import Derived.Test.YtodndkmpjpiidaaRefWrite
namespace Go.Proofs.Ytodndkmpjpiidaa
open Go Go.RowKit

set_option maxRecDepth 10000 in
set_option maxHeartbeats 2000000 in
theorem wUint_any (x : Nat) (w : World) (hx : x < 18446744073709551616) :
    Calls Try.prog 8 #[.int .u64 (x : Int)] w fun e w' => e = .returned (.string (textOf (enc x))) ∧ Below w.heap.size w w' := by
  obtain ⟨i0, hi, hz0, hz1, hz2⟩ := info_parts (P := Try.prog) (e := 5) (z := .int .u8 0) (size := 1) (bytes := 1) (by kernel_rfl)
  have HI := hide (And.intro hi (And.intro hz0 (And.intro hz1 hz2)))
  have HX := hide hx
  clear hi hz0 hz1 hz2 hx
  go_enter Try.func8, Try.ntmps8
  go_wp2_with fail
  go_loopw [0, 3] (fun t lv wr => ∃ (y : Nat) (pre : List Nat), t = .int .u64 (y : Int) ∧ pre ++ encF (10 - pre.length) y = enc x ∧ pre.length ≤ 9 ∧ y < 128 ^ (10 - pre.length) ∧ y < 18446744073709551616 ∧ wr.ownsRow w.heap.size 5 1 lv pre.length (cellsOf pre) ∧ Below w.heap.size w wr) (fun t _ _ => (intOf t).toNat)
  case atStart => exact ⟨x, [], rfl, rfl, by simp, by have := HX.out; simp; omega, HX.out, by exact World.ownsRow_nil _ _ _ _, Below.refl _ _⟩
  case round =>
    obtain ⟨y, pre, rfl, hcat, hlen, hy, hy64, hown, hbl⟩ := hrel
    have HC := hide hcat
    have HY := hide hy
    have HO := hide hown
    have HB := hide hbl
    have hsz := hbl.size
    clear hcat hy hown hbl
    by_cases hlt : 127 < y
    · have hz : (128 : Int) ≤ (y : Int) := by omega
      have ho := or128 y
      obtain ⟨g1, g2, g3⟩ := enc_more HC.out hlen HY.out hlt
      generalize y % 128 + 128 = c at *
      have HG := hide (And.intro g1 (And.intro g2 g3))
      clear g1 g2 g3
      go_wp2_with (at_builtin; refine wpList_append_own _ rfl _ _ 53 rfl w.heap.size 5 i0 (.int .u8 0) 1 1 Try.underlying53 HI.out.1 HI.out.2.1 HI.out.2.2.1 HI.out.2.2.2 rfl (by decide) _ _ _ rfl (HO.out.alloc _) ⟨wr.heap.size, 0, none⟩ 1 1 [.int .u8 (c : Int)] rfl rfl ?c1 ?c2 ?c3 ?c4 ?c5 ?_)
      case c1 =>
        intro j u hj
        match j, hj with
        | 0, hj => simp at hj; subst hj; simp [Addr.add, go_sem]
      case c2 => first | rfl | (intro u hu; simp at hu; subst hu; rfl)
      case c3 => unfold maxLen; omega
      case c4 => omega
      case c5 => first | omega | (simp; omega)
      · intro lv' w1 hown1 hgrow1 _
        rw [cellsOf_snoc] at hown1
        have HO1 := hide hown1
        have HB1 := hide ((HB.out.alloc hsz (.cells #[.int .u8 (c : Int)] 5)).grown hgrow1 (by simp; omega) (own_base HO.out))
        clear hown1 hgrow1
        go_wp2
        go_roundw
        case rel => exact ⟨y / 128, pre ++ [c], by go_num, HG.out.1, HG.out.2.1, HG.out.2.2, by omega, by rw [List.length_append]; exact HO1.out, HB1.out⟩
        case measure => simp [intOf]; omega
    · have hz : ¬ ((128 : Int) ≤ (y : Int)) := by omega
      have hm : (y : Int) % 256 = (y : Int) := by omega
      have HE := hide (enc_last HC.out hlen hlt)
      go_wp2_with (at_builtin; refine wpList_append_own _ rfl _ _ 53 rfl w.heap.size 5 i0 (.int .u8 0) 1 1 Try.underlying53 HI.out.1 HI.out.2.1 HI.out.2.2.1 HI.out.2.2.2 rfl (by decide) _ _ _ rfl (HO.out.alloc _) ⟨wr.heap.size, 0, none⟩ 1 1 [.int .u8 (y : Int)] rfl rfl ?c1 ?c2 ?c3 ?c4 ?c5 ?_)
      case c2 => first | rfl | (intro u hu; simp at hu; subst hu; rfl)
      case c3 => unfold maxLen; omega
      case c4 => omega
      case c5 => first | omega | (simp; omega)
      · intro lv' w1 hown1 hgrow1 _
        rw [cellsOf_snoc, HE.out] at hown1
        have hbytes := enc_byte x HX.out
        have hcv := own_text hown1 (fun e => by have := encF_pos 10 x; unfold enc at e; rw [e] at this; simp at this) hbytes 53 9 Try.underlying53 Try.underlying9
        have HB1 := hide ((HB.out.alloc hsz (.cells #[.int .u8 (y : Int)] 5)).grown hgrow1 (by simp; omega) (own_base HO.out))
        clear hown1 hgrow1
        generalize htx : textOf (enc x) = tx at *
        have HTx := hide htx
        clear htx
        go_wp2
        go_ret
        exact ⟨by rw [HTx.out]; rfl, HB1.out⟩

theorem xor_ones (y : Nat) (hy : y < 18446744073709551616) : 18446744073709551615 ^^^ y = 18446744073709551615 - y := by
  apply Nat.eq_of_testBit_eq
  intro i
  have e1 : (18446744073709551615 : Nat) = 2 ^ 64 - (0 + 1) := by decide
  have e2 : 18446744073709551615 - y = 2 ^ 64 - (y + 1) := by omega
  rw [e2, Nat.testBit_xor, e1, Nat.testBit_two_pow_sub_succ (by decide), Nat.testBit_two_pow_sub_succ (by omega)]
  by_cases hi : i < 64
  · simp [hi]
  · simp [hi]
    exact Nat.testBit_lt_two_pow (Nat.lt_of_lt_of_le hy (Nat.pow_le_pow_right (n := 2) (i := 64) (by decide) (by omega)))
theorem turned_u64 (y : Nat) (hy : y < 18446744073709551616) : bits .xor .u64 IntKind.u64.max (y : Int) = ((18446744073709551615 - y : Nat) : Int) := by
  have e : IntKind.u64.max = ((18446744073709551615 : Nat) : Int) := by decide
  rw [e, u64_xor_nat _ _ (by decide) hy, xor_ones y hy]
theorem turned_i64 (h : Nat) (hh : h < 9223372036854775808) : bits .xor .i64 (-1) (h : Int) = -(h : Int) - 1 := by
  show IntKind.i64.wrap ((BitVec.ofInt 64 (-1) ^^^ BitVec.ofInt 64 (h : Int)).toNat : Int) = _
  have e1 : (BitVec.ofInt 64 (-1)).toNat = 18446744073709551615 := by decide
  have e2 : (BitVec.ofInt 64 (h : Int)).toNat = h := by
    rw [BitVec.ofInt_natCast, BitVec.toNat_ofNat]; exact Nat.mod_eq_of_lt (by omega)
  rw [BitVec.toNat_xor, e1, e2, xor_ones h (by omega), IntKind.wrap_i64]
  omega
theorem zig_turned (x : Int) (h : -9223372036854775808 ≤ x) (h0 : x < 0) : bits .xor .u64 IntKind.u64.max (IntKind.u64.wrap (IntKind.u64.wrap x * 2)) = ((zig x : Nat) : Int) := by
  obtain ⟨m, hm⟩ : ∃ m : Nat, IntKind.u64.wrap (IntKind.u64.wrap x * 2) = (m : Int) := ⟨(IntKind.u64.wrap (IntKind.u64.wrap x * 2)).toNat, by rw [u64w, u64w]; omega⟩
  rw [hm]
  have e2 : zig x = 18446744073709551615 - m := by
    rw [u64w, u64w] at hm
    unfold zig
    rw [if_pos h0]
    omega
  rw [e2]
  refine turned_u64 m ?_
  rw [u64w] at hm
  omega
set_option maxHeartbeats 1000000 in
theorem wInt_any (x : Int) (w : World) (hx : -9223372036854775808 ≤ x ∧ x ≤ 9223372036854775807) :
    Calls Try.prog 10 #[.int .i64 x] w fun e w' => e = .returned (.string (textOf (enc (zig x)))) ∧ Below w.heap.size w w' := by
  have HU : Hid (∀ u, Calls Try.prog 8 #[.int .u64 ((zig x : Nat) : Int)] u fun e w' => e = .returned (.string (textOf (enc (zig x)))) ∧ Below u.heap.size u w') := fun u => wUint_any (zig x) u (zig_lt x hx)
  generalize htx : textOf (enc (zig x)) = tx at *
  have HTx := hide htx
  clear htx
  by_cases h0 : x < 0
  · have HN := hide (zig_turned x hx.1 h0)
    go_enter Try.func10, Try.ntmps10
    go_wp2_with fail
    rw [HN.out]
    refine (HU.out _).mono ?_
    rintro e w1 ⟨rfl, hb⟩
    have HB := hide hb
    clear hb
    go_wp2
    go_ret
    exact ⟨rfl, HB.out⟩
  · have hn := zig_pos x h0
    have HN := hide hn
    clear hn
    go_enter Try.func10, Try.ntmps10
    go_wp2_with fail
    rw [HN.out]
    refine (HU.out _).mono ?_
    rintro e w1 ⟨rfl, hb⟩
    have HB := hide hb
    clear hb
    go_wp2
    go_ret
    exact ⟨rfl, HB.out⟩
set_option maxHeartbeats 1000000 in
theorem wText_any (s : ByteArray) (w : World) (hs : s.size ≤ 140737488351232) :
    Calls Try.prog 12 #[.string s] w fun e w' => e = .returned (.string (textOf (enc s.size ++ bytesOf s))) ∧ Below w.heap.size w w' := by
  have HU : Hid (∀ u, Calls Try.prog 8 #[.int .u64 ((s.size : Nat) : Int)] u fun e w' => e = .returned (.string (textOf (enc s.size))) ∧ Below u.heap.size u w') := fun u => wUint_any s.size u (by omega)
  have he : textOf (enc s.size) ++ s = textOf (enc s.size ++ bytesOf s) := by
    rw [← textOf_append, textOf_bytesOf]
  have hl : (textOf (enc s.size)).size ≤ 11 := by rw [textOf_size]; exact encF_length 10 _
  generalize textOf (enc s.size) = tx at *
  generalize textOf (enc s.size ++ bytesOf s) = ty at *
  have HE := hide he
  clear he
  go_enter Try.func12, Try.ntmps12
  go_wp2_with fail
  refine (HU.out _).mono ?_
  rintro e w1 ⟨rfl, hb⟩
  have HB := hide hb
  clear hb
  go_wp2
  go_ret
  exact ⟨by rw [← HE.out]; rfl, HB.out⟩
set_option maxHeartbeats 1000000 in
theorem wBool_any (b : Bool) (w : World) :
    Calls Try.prog 14 #[.bool b] w fun e w' => e = .returned (.string (textOf [if b then 1 else 0])) ∧ Below w.heap.size w w' := by
  cases b
  · go_enter Try.func14, Try.ntmps14
    go_wp2
    go_ret
    exact ⟨rfl, Below.refl _ _⟩
  · go_enter Try.func14, Try.ntmps14
    go_wp2
    go_ret
    exact ⟨rfl, Below.refl _ _⟩
end Go.Proofs.Ytodndkmpjpiidaa
