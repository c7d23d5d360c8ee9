/- The document's own number, Uint, Int, Text, Bool. -/
import Derived.Test.YtodndkmpjpiidaaProg
import Derived.Test.YtodndkmpjpiidaaMath
import Derived.WalkKit
import Derived.WalkSpells
import Derived.Laws.BitsAllLaws
namespace Go.Proofs.Ytodndkmpjpiidaa
open Go Go.RowKit

theorem hide {p : Prop} (h : p) : Hid p := h
/-- The bytes of a text as numbers. -/
def bytesOf (s : ByteArray) : List Nat := s.data.toList.map UInt8.toNat
theorem bytesOf_lt (s : ByteArray) : ∀ b ∈ bytesOf s, b < 256 := by
  intro b hb
  obtain ⟨x, _, rfl⟩ := List.mem_map.1 hb
  exact x.toNat_lt
theorem bytesOf_length (s : ByteArray) : (bytesOf s).length = s.size := by unfold bytesOf; simp
theorem bytesOf_drop (s : ByteArray) (k : Nat) (h : k < s.size) : (bytesOf s).drop k = s[k].toNat :: (bytesOf s).drop (k + 1) := by
  have hk : k < (s.data.toList.map UInt8.toNat).length := by simpa using h
  unfold bytesOf
  rw [List.drop_eq_getElem_cons hk]
  congr 1
  simp
  rfl
theorem u64w (n : Int) : IntKind.u64.wrap n = n % 18446744073709551616 := by simp [IntKind.wrap, IntKind.bits, IntKind.signed]
/-- One group more. -/
theorem or_group (acc c i : Nat) (ha : acc < 128 ^ i) (hi : i < 9 ∨ (i = 9 ∧ c ≤ 1)) (hc : c < 256) :
    bits .or .u64 (acc : Int) (IntKind.u64.wrap (IntKind.u64.wrap (bits .and .u8 (c : Int) 127) * 2 ^ (7 * i))) = ((acc + c % 128 * 128 ^ i : Nat) : Int) ∧ acc + c % 128 * 128 ^ i < 128 ^ (i + 1) ∧ acc + c % 128 * 128 ^ i < 18446744073709551616 := by
  have e1 : bits .and .u8 (c : Int) 127 = ((c % 128 : Nat) : Int) := by
    have h := u8_and_nat c 127 hc (by decide)
    rw [show (127 : Nat) = 2 ^ 7 - 1 from rfl, Nat.and_two_pow_sub_one_eq_mod] at h
    exact h
  have e2 : (2 : Nat) ^ (7 * i) = 128 ^ i := by rw [Nat.pow_mul]
  have e3 : ((2 : Int) ^ (7 * i)) = ((128 ^ i : Nat) : Int) := by rw [← e2]; exact (Int.natCast_pow 2 (7 * i)).symm
  have hm : c % 128 < 128 := Nat.mod_lt _ (by decide)
  have hlt : c % 128 * 128 ^ i + 128 ^ i ≤ 128 ^ (i + 1) := by
    rw [pow128, ← Nat.succ_mul]; exact Nat.mul_le_mul_right _ (by omega)
  have hb : c % 128 * 128 ^ i + 128 ^ i ≤ 18446744073709551616 := by
    rcases hi with hi | ⟨rfl, h1⟩
    · have : 128 ^ (i + 1) ≤ 128 ^ 9 := Nat.pow_le_pow_right (by decide) (by omega)
      rw [pow9] at this; omega
    · rw [pow9]; omega
  have e4 : bits .or .u64 (acc : Int) ((c % 128 * 128 ^ i : Nat) : Int) = ((acc + c % 128 * 128 ^ i : Nat) : Int) := by
    have h := u64_or_nat acc (c % 128 * 128 ^ i) (by omega) (by omega)
    have h2 := Nat.two_pow_add_eq_or_of_lt (i := 7 * i) (b := acc) (by rw [e2]; exact ha) (c % 128)
    rw [e2, Nat.mul_comm (128 ^ i)] at h2
    rw [h, Nat.or_comm, ← h2, Nat.add_comm]
  refine ⟨?_, by omega, by omega⟩
  rw [u64w, u64w, e1, e3, show (((c % 128 : Nat) : Int)) % 18446744073709551616 = ((c % 128 : Nat) : Int) from by omega, ← Int.natCast_mul, show (((c % 128 * 128 ^ i : Nat) : Int)) % 18446744073709551616 = ((c % 128 * 128 ^ i : Nat) : Int) from by omega]
  exact e4
theorem rdF_len (acc : Nat) (i : Nat) : rdF [] i acc = (0, 0) := rfl
theorem rdF_ten (l : List Nat) (i acc : Nat) (h : 10 ≤ i) : rdF l i acc = (0, 0) := by
  cases l with
  | nil => rfl
  | cons c r => unfold rdF; rw [if_pos h]
theorem ret_two {a b : Int} {c d : Int} (h : a = c) (k : b = d) : Ending.returned (.tuple #[.int .u64 a, .int .i64 b]) = .returned (.tuple #[.int .u64 c, .int .i64 d]) := by rw [h, k]

set_option maxRecDepth 10000 in
set_option maxHeartbeats 1000000 in
theorem refNumber_any (s : ByteArray) (w : World) (hs : s.size ≤ maxLen) :
    Calls Try.prog 45 #[.string s] w fun e w' => e = .returned (.tuple #[.int .u64 (((rd (bytesOf s)).1 : Nat) : Int), .int .i64 (((rd (bytesOf s)).2 : Nat) : Int)]) ∧ w' = w := by
  unfold maxLen at hs
  generalize hR : rd (bytesOf s) = R
  have HR := hide hR
  clear hR
  go_enter Try.func45, Try.ntmps45
  go_wp2_with fail
  go_loop [4, 5, 6] (fun x i _ => ∃ k acc : Nat, k ≤ 10 ∧ k ≤ s.size ∧ i = .int .i64 (k : Int) ∧ x = .int .u64 (acc : Int) ∧ acc < 128 ^ k ∧ rdF ((bytesOf s).drop k) k acc = R) (fun _ i _ => 10 - (intOf i).toNat)
  case atStart => exact ⟨0, 0, by omega, by omega, rfl, rfl, by decide, HR.out⟩
  case round =>
    obtain ⟨k, acc, hk, hks, rfl, rfl, hacc, hrd⟩ := hrel
    by_cases hlt : k < s.size
    · by_cases h10 : k < 10
      · rw [bytesOf_drop s k hlt] at hrd
        have hc := s[k].toNat_lt
        unfold rdF at hrd
        rw [if_neg (by omega)] at hrd
        by_cases h9 : k = 9 ∧ 1 < s[k].toNat
        · rw [if_pos h9] at hrd
          obtain ⟨rfl, h1⟩ := h9
          have hz : (1 : Int) < ((s[9].toNat : Nat) : Int) := by omega
          have HRd := hide hrd
          clear hrd hacc
          go_wp2
          go_ret2
          exact ⟨by rw [← HRd.out]; rfl, rfl⟩
        · rw [if_neg h9] at hrd
          have hi9 : k < 9 ∨ (k = 9 ∧ s[k].toNat ≤ 1) := by omega
          obtain ⟨hor, hac1, hac2⟩ := or_group acc s[k].toNat k hacc hi9 hc
          have hno : ¬ ((k : Int) = 9 ∧ (1 : Int) < ((s[k].toNat : Nat) : Int)) := by omega
          generalize acc + s[k].toNat % 128 * 128 ^ k = acc2 at *
          have HOr := hide hor
          clear hor
          by_cases hs : s[k].toNat < 128
          · rw [if_pos hs] at hrd
            have hs' : (((s[k].toNat : Nat) : Int) < 128) := by omega
            by_cases h0 : s[k].toNat = 0 ∧ 0 < k
            · rw [if_pos h0] at hrd
              have HRd := hide hrd
              have h01 : ((s[k].toNat : Nat) : Int) = 0 := by omega
              have h02 : (0 : Int) < (k : Int) := by omega
              clear hrd hac1 hac2 hacc h0 hs hi9 h9
              go_wp2
              all_goals
                go_ret2
                exact ⟨by rw [← HRd.out]; rfl, rfl⟩
            · rw [if_neg h0] at hrd
              have HRd := hide hrd
              have h01 : ¬ (((s[k].toNat : Nat) : Int) = 0 ∧ (0 : Int) < (k : Int)) := by omega
              clear hrd hac1 hac2 hacc h0 hs hi9 h9
              go_wp2
              all_goals
                go_ret2
                have h := HOr.out
                first
                  | exact ⟨by rw [← HRd.out]; exact ret_two h (by first | rfl | omega), rfl⟩
                  | (have e0 : s[k].toNat = 0 := by omega
                     rw [e0] at h
                     exact ⟨by rw [← HRd.out]; exact ret_two h (by first | rfl | omega), rfl⟩)
                  | (have e9 : k = 9 := by omega
                     subst e9
                     exact ⟨by rw [← HRd.out]; exact ret_two h (by first | rfl | omega), rfl⟩)
          · rw [if_neg hs] at hrd
            have HRd := hide (And.intro hrd hac1)
            clear hrd hac1 hac2 hacc
            by_cases hk9 : k = 9
            · omega
            · have hk9' : ¬ ((k : Int) = 9) := by omega
              have hs' : ¬ (((s[k].toNat : Nat) : Int) < 128) := by omega
              go_wp2
              go_round
              case rel => exact ⟨k + 1, acc2, by omega, by omega, by go_num, congrArg _ HOr.out, HRd.out.2, HRd.out.1⟩
              case measure => simp [intOf]; omega
      · have HRd := hide (hrd.symm.trans (rdF_ten _ k acc (by omega)))
        have hk10 : k = 10 := by omega
        subst hk10
        clear hrd hacc
        go_wp2
        go_ret2
        exact ⟨by rw [HRd.out]; rfl, rfl⟩
    · have HRd := hide (hrd.symm.trans (by rw [List.drop_eq_nil_of_le (by rw [bytesOf_length]; omega)]))
      have hke : k = s.size := by omega
      clear hrd hacc
      subst hke
      go_wp2
      go_ret2
      exact ⟨by rw [HRd.out]; rfl, rfl⟩
end Go.Proofs.Ytodndkmpjpiidaa
namespace Go.Proofs.Ytodndkmpjpiidaa
open Go Go.RowKit

/-- The bytes of a number as a text. -/
def textOf (l : List Nat) : ByteArray := ⟨(l.map UInt8.ofNat).toArray⟩
theorem bytesOf_textOf (l : List Nat) (h : ∀ c ∈ l, c < 256) : bytesOf (textOf l) = l := by
  unfold bytesOf textOf
  simp only [List.map_map]
  have e : ∀ c ∈ l, (UInt8.toNat ∘ UInt8.ofNat) c = c := fun c hc => by
    show (UInt8.ofNat c).toNat = c
    rw [UInt8.toNat_ofNat', Nat.mod_eq_of_lt (h c hc)]
  rw [List.map_congr_left e, List.map_id']
theorem textOf_bytesOf (s : ByteArray) : textOf (bytesOf s) = s := by
  unfold bytesOf textOf
  rw [List.map_map]
  have e : ∀ c ∈ s.data.toList, (UInt8.ofNat ∘ UInt8.toNat) c = c := fun c _ => by
    show UInt8.ofNat c.toNat = c
    simp
  rw [List.map_congr_left e, List.map_id']
theorem enc_byte (x : Nat) (hx : x < 18446744073709551616) : ∀ c ∈ enc x, c < 256 := encF_lt 10 x (by omega)
def cellsOf (l : List Nat) : List Value := l.map fun c : Nat => .int .u8 (c : Int)
theorem or128 (y : Nat) : bits .or .u8 ((y : Int) % 256) 128 = ((y % 128 + 128 : Nat) : Int) := by
  have h := u8_or_nat (y % 256) 128 (Nat.mod_lt _ (by decide)) (by decide)
  rw [show ((y % 256 : Nat) : Int) = (y : Int) % 256 from by omega] at h
  have k : ∀ z, z < 256 → z ||| 128 = z % 128 + 128 := by decide +kernel
  rw [k _ (Nat.mod_lt _ (by decide))] at h
  rw [show y % 256 % 128 = y % 128 from by omega] at h
  exact h
theorem own_base {base n : Nat} {e : TypeId} {lv : Value} {wr : World} {l : List Value} {size : Nat} (h : wr.ownsRow base e size lv n l) : ∀ j, lv.ownBlock = some j → base ≤ j := by
  rcases h.2 with ⟨rfl, rfl⟩ | ⟨g, cap, cur, rfl, hg, _⟩
  · intro j hj; cases hj
  · intro j hj
    simp [Value.ownBlock] at hj
    omega
theorem cellsOf_snoc (l : List Nat) (c : Nat) : cellsOf l ++ [.int .u8 (c : Int)] = cellsOf (l ++ [c]) := by unfold cellsOf; simp
/-- One group more is written; the last one is written. -/
theorem enc_more {pre : List Nat} {y x : Nat} (hcat : pre ++ encF (10 - pre.length) y = enc x) (hlen : pre.length ≤ 9) (hy : y < 128 ^ (10 - pre.length)) (h : 127 < y) :
    (pre ++ [y % 128 + 128]) ++ encF (10 - (pre ++ [y % 128 + 128]).length) (y / 128) = enc x ∧ (pre ++ [y % 128 + 128]).length ≤ 9 ∧ y / 128 < 128 ^ (10 - (pre ++ [y % 128 + 128]).length) := by
  have h9 : pre.length ≠ 9 := fun e => by rw [e] at hy; simp at hy; exact absurd hy (by omega)
  have e1 : 10 - pre.length = (9 - pre.length) + 1 := by omega
  have e2 : 10 - (pre ++ [y % 128 + 128]).length = 9 - pre.length := by simp
  rw [e2]
  rw [e1] at hcat hy
  refine ⟨?_, by simp; omega, by rw [pow128] at hy; omega⟩
  rw [← hcat, List.append_assoc]
  congr 1
  conv => rhs; unfold encF
  rw [if_neg (by omega)]
  rfl
theorem enc_last {pre : List Nat} {y x : Nat} (hcat : pre ++ encF (10 - pre.length) y = enc x) (hlen : pre.length ≤ 9) (h : ¬ 127 < y) : pre ++ [y] = enc x := by
  rw [← hcat, show 10 - pre.length = (9 - pre.length) + 1 from by omega]
  congr 1
  unfold encF
  rw [if_pos (by omega)]
/-- A row of bytes, made into a text. -/
theorem own_text {base n : Nat} {lv : Value} {u : World} {l : List Nat} (h : u.ownsRow base 5 1 lv n (cellsOf l)) (hl : l ≠ []) (hb : ∀ c ∈ l, c < 256) (src dst : TypeId) (hs : Try.prog.underlying src = some (.slice 5)) (hd : Try.prog.underlying dst = some .string) :
    (convert src dst lv).run Try.prog u = .ok (.string (textOf l)) u := by
  have hlen : l.length = n := by have := h.1; simp [cellsOf] at this; exact this
  rcases h.2 with ⟨_, h0⟩ | ⟨g, cap, cur, rfl, _, hg, hn, _, _, ht⟩
  · exact absurd (List.length_eq_zero_iff.1 (hlen.trans h0)) hl
  · have e : n = (l.map UInt8.ofNat).length := by simp [hlen]
    rw [e]
    refine run_convert_bytes_back u src dst 5 ⟨g, 0, none⟩ cap (l.map UInt8.ofNat) hs Try.underlying5 hd (fun j hj => ?_)
    have hj' : j < l.length := by simpa using hj
    have hadd : (⟨g, 0, none⟩ : Addr).add j = ⟨g, j, none⟩ := by unfold Addr.add; split <;> simp_all
    rw [hadd, cell_of_row u g j cur 5 (0, 0) hg]
    have hq : (cellsOf l)[j]? = some (.int .u8 (l[j] : Int)) := by unfold cellsOf; simp [hj']
    rw [← ht, Nat.mul_one, List.getElem?_take, if_pos (by omega), Array.getElem?_toList] at hq
    rw [hq]
    simp only [List.getElem_map]
    rw [UInt8.toNat_ofNat', Nat.mod_eq_of_lt (hb _ (List.getElem_mem hj'))]

set_option maxRecDepth 10000 in
set_option maxHeartbeats 2000000 in
theorem refUint_any (x : Nat) (w : World) (hx : x < 18446744073709551616) :
    Calls Try.prog 9 #[.int .u64 (x : Int)] w fun e w' => e = .returned (.string (textOf (enc x))) ∧ Below w.heap.size w w' := by
  obtain ⟨i0, hi, hz0, hz1, hz2⟩ := info_parts (P := Try.prog) (e := 5) (z := .int .u8 0) (size := 1) (bytes := 1) (by kernel_rfl)
  have HI := hide (And.intro hi (And.intro hz0 (And.intro hz1 hz2)))
  have HX := hide hx
  clear hi hz0 hz1 hz2 hx
  go_enter Try.func9, Try.ntmps9
  go_wp2_with fail
  go_loopw [0, 3] (fun t lv wr => ∃ (y : Nat) (pre : List Nat), t = .int .u64 (y : Int) ∧ pre ++ encF (10 - pre.length) y = enc x ∧ pre.length ≤ 9 ∧ y < 128 ^ (10 - pre.length) ∧ y < 18446744073709551616 ∧ wr.ownsRow w.heap.size 5 1 lv pre.length (cellsOf pre) ∧ Below w.heap.size w wr) (fun t _ _ => (intOf t).toNat)
  case atStart => exact ⟨x, [], rfl, rfl, by simp, by have := HX.out; simp; omega, HX.out, by exact World.ownsRow_nil _ _ _ _, Below.refl _ _⟩
  case round =>
    obtain ⟨y, pre, rfl, hcat, hlen, hy, hy64, hown, hbl⟩ := hrel
    have HC := hide hcat
    have HY := hide hy
    have HO := hide hown
    have HB := hide hbl
    have hsz := hbl.size
    clear hcat hy hown hbl
    by_cases hlt : 127 < y
    · have hz : (127 : Int) < (y : Int) := by omega
      have ho := or128 y
      obtain ⟨g1, g2, g3⟩ := enc_more HC.out hlen HY.out hlt
      generalize y % 128 + 128 = c at *
      have HG := hide (And.intro g1 (And.intro g2 g3))
      clear g1 g2 g3
      go_wp2_with (at_builtin; refine wpList_append_own _ rfl _ _ 53 rfl w.heap.size 5 i0 (.int .u8 0) 1 1 Try.underlying53 HI.out.1 HI.out.2.1 HI.out.2.2.1 HI.out.2.2.2 rfl (by decide) _ _ _ rfl (HO.out.alloc _) ⟨wr.heap.size, 0, none⟩ 1 1 [.int .u8 (c : Int)] rfl rfl ?c1 ?c2 ?c3 ?c4 ?c5 ?_)
      case c1 =>
        intro j u hj
        match j, hj with
        | 0, hj => simp at hj; subst hj; simp [Addr.add, go_sem]
      case c2 => first | rfl | (intro u hu; simp at hu; subst hu; rfl)
      case c3 => unfold maxLen; omega
      case c4 => omega
      case c5 => first | omega | (simp; omega)
      · intro lv' w1 hown1 hgrow1 _
        rw [cellsOf_snoc] at hown1
        have HO1 := hide hown1
        have HB1 := hide ((HB.out.alloc hsz (.cells #[.int .u8 (c : Int)] 5)).grown hgrow1 (by simp; omega) (own_base HO.out))
        clear hown1 hgrow1
        go_wp2
        go_roundw
        case rel => exact ⟨y / 128, pre ++ [c], by go_num, HG.out.1, HG.out.2.1, HG.out.2.2, by omega, by rw [List.length_append]; exact HO1.out, HB1.out⟩
        case measure => simp [intOf]; omega
    · have hz : ¬ ((127 : Int) < (y : Int)) := by omega
      have hm : (y : Int) % 256 = (y : Int) := by omega
      have HE := hide (enc_last HC.out hlen hlt)
      go_wp2_with (at_builtin; refine wpList_append_own _ rfl _ _ 53 rfl w.heap.size 5 i0 (.int .u8 0) 1 1 Try.underlying53 HI.out.1 HI.out.2.1 HI.out.2.2.1 HI.out.2.2.2 rfl (by decide) _ _ _ rfl (HO.out.alloc _) ⟨wr.heap.size, 0, none⟩ 1 1 [.int .u8 (y : Int)] rfl rfl ?c1 ?c2 ?c3 ?c4 ?c5 ?_)
      case c2 => first | rfl | (intro u hu; simp at hu; subst hu; rfl)
      case c3 => unfold maxLen; omega
      case c4 => omega
      case c5 => first | omega | (simp; omega)
      · intro lv' w1 hown1 hgrow1 _
        rw [cellsOf_snoc, HE.out] at hown1
        have hbytes := enc_byte x HX.out
        have hcv := own_text hown1 (fun e => by have := encF_pos 10 x; unfold enc at e; rw [e] at this; simp at this) hbytes 53 9 Try.underlying53 Try.underlying9
        have HB1 := hide ((HB.out.alloc hsz (.cells #[.int .u8 (y : Int)] 5)).grown hgrow1 (by simp; omega) (own_base HO.out))
        clear hown1 hgrow1
        generalize htx : textOf (enc x) = tx at *
        have HTx := hide htx
        clear htx
        go_wp2
        go_ret
        exact ⟨by rw [HTx.out]; rfl, HB1.out⟩
end Go.Proofs.Ytodndkmpjpiidaa
namespace Go.Proofs.Ytodndkmpjpiidaa
open Go Go.RowKit

/-- A whole number as a number that is not below 0. -/
def zig (x : Int) : Nat := if x < 0 then (-2 * x - 1).toNat else (2 * x).toNat
theorem zig_neg (x : Int) (h : -9223372036854775808 ≤ x) (h0 : x < 0) : bits .or .u64 (-(x + 1) * 2) 1 = ((zig x : Nat) : Int) := by
  obtain ⟨m, hm⟩ : ∃ m : Nat, -(x + 1) = (m : Int) := ⟨(-(x + 1)).toNat, by omega⟩
  have e3 : (m : Int) * 2 = ((2 * m : Nat) : Int) := by omega
  rw [hm, e3]
  have h := u64_or_nat (2 * m) 1 (by omega) (by decide)
  have h2 := Nat.two_pow_add_eq_or_of_lt (i := 1) (b := 1) (by decide) m
  rw [show (2 : Nat) ^ 1 = 2 from rfl] at h2
  rw [← h2] at h
  have e4 : zig x = 2 * m + 1 := by unfold zig; rw [if_pos h0]; omega
  rw [e4]
  exact h
theorem zig_pos (x : Int) (h0 : ¬ x < 0) : x * 2 = ((zig x : Nat) : Int) := by
  unfold zig; rw [if_neg h0]; omega
theorem zig_lt (x : Int) (h : -9223372036854775808 ≤ x ∧ x ≤ 9223372036854775807) : zig x < 18446744073709551616 := by unfold zig; split <;> omega
/-- Back. -/
def zag (u : Nat) : Int := if u % 2 = 1 then -((u / 2 : Nat) : Int) - 1 else ((u / 2 : Nat) : Int)
theorem zag_zig (x : Int) : zag (zig x) = x := by
  unfold zag zig
  by_cases h : x < 0
  · rw [if_pos h, if_pos (by omega)]; omega
  · rw [if_neg h, if_neg (by omega)]; omega
theorem zig_zag (u : Nat) : zig (zag u) = u := by
  unfold zag zig
  by_cases h : u % 2 = 1
  · rw [if_pos h, if_pos (by omega)]; omega
  · rw [if_neg h, if_neg (by omega)]; omega

set_option maxHeartbeats 1000000 in
theorem refInt_any (x : Int) (w : World) (hx : -9223372036854775808 ≤ x ∧ x ≤ 9223372036854775807) :
    Calls Try.prog 11 #[.int .i64 x] w fun e w' => e = .returned (.string (textOf (enc (zig x)))) ∧ Below w.heap.size w w' := by
  have HU : Hid (∀ u, Calls Try.prog 9 #[.int .u64 ((zig x : Nat) : Int)] u fun e w' => e = .returned (.string (textOf (enc (zig x)))) ∧ Below u.heap.size u w') := fun u => refUint_any (zig x) u (zig_lt x hx)
  generalize htx : textOf (enc (zig x)) = tx at *
  have HTx := hide htx
  clear htx
  by_cases h0 : x < 0
  · have hn := zig_neg x hx.1 h0
    go_enter Try.func11, Try.ntmps11
    go_wp2_with fail
    refine (HU.out _).mono ?_
    rintro e w1 ⟨rfl, hb⟩
    have HB := hide hb
    clear hb
    go_wp2
    go_ret
    exact ⟨rfl, HB.out⟩
  · have hn := zig_pos x h0
    have HN := hide hn
    clear hn
    go_enter Try.func11, Try.ntmps11
    go_wp2_with fail
    rw [HN.out]
    refine (HU.out _).mono ?_
    rintro e w1 ⟨rfl, hb⟩
    have HB := hide hb
    clear hb
    go_wp2
    go_ret
    exact ⟨rfl, HB.out⟩
theorem textOf_append (l m : List Nat) : textOf l ++ textOf m = textOf (l ++ m) := by
  unfold textOf
  apply ByteArray.ext
  simp [ByteArray.data_append]
theorem textOf_size (l : List Nat) : (textOf l).size = l.length := by
  show (l.map UInt8.ofNat).toArray.size = l.length
  simp
set_option maxHeartbeats 1000000 in
theorem refText_any (s : ByteArray) (w : World) (hs : s.size ≤ 140737488351232) :
    Calls Try.prog 13 #[.string s] w fun e w' => e = .returned (.string (textOf (enc s.size ++ bytesOf s))) ∧ Below w.heap.size w w' := by
  have HU : Hid (∀ u, Calls Try.prog 9 #[.int .u64 ((s.size : Nat) : Int)] u fun e w' => e = .returned (.string (textOf (enc s.size))) ∧ Below u.heap.size u w') := fun u => refUint_any s.size u (by omega)
  have he : textOf (enc s.size) ++ s = textOf (enc s.size ++ bytesOf s) := by
    rw [← textOf_append, textOf_bytesOf]
  have hl : (textOf (enc s.size)).size ≤ 11 := by rw [textOf_size]; exact encF_length 10 _
  generalize textOf (enc s.size) = tx at *
  generalize textOf (enc s.size ++ bytesOf s) = ty at *
  have HE := hide he
  clear he
  go_enter Try.func13, Try.ntmps13
  go_wp2_with fail
  refine (HU.out _).mono ?_
  rintro e w1 ⟨rfl, hb⟩
  have HB := hide hb
  clear hb
  go_wp2
  go_ret
  exact ⟨by rw [← HE.out]; rfl, HB.out⟩
set_option maxHeartbeats 1000000 in
theorem refBool_any (b : Bool) (w : World) :
    Calls Try.prog 15 #[.bool b] w fun e w' => e = .returned (.string (textOf [if b then 1 else 0])) ∧ Below w.heap.size w w' := by
  cases b
  · go_enter Try.func15, Try.ntmps15
    go_wp2
    go_ret
    exact ⟨rfl, Below.refl _ _⟩
  · go_enter Try.func15, Try.ntmps15
    go_wp2
    go_ret
    exact ⟨rfl, Below.refl _ _⟩
end Go.Proofs.Ytodndkmpjpiidaa
