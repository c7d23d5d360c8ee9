/- Items, written and read back. -/
import Derived.Test.YtodndkmpjpiidaaAlive
namespace Go.Proofs.Ytodndkmpjpiidaa
open Go Go.RowKit

theorem But.drew {p : Nat} {a b : World} (h : But p a b) : But p a b.drew := ⟨h.os, h.tape, h.output, h.size, h.block⟩
theorem wrap_is (n : Int) : IntKind.i64.wrap n = wrap64 n := by unfold wrap64; exact IntKind.wrap_i64 n
theorem w64_range (n : Int) : -9223372036854775808 ≤ wrap64 n ∧ wrap64 n ≤ 9223372036854775807 := by unfold wrap64; omega
/-- The bytes of an item. -/
def ib (k x : Nat) (s : ByteArray) : List Nat :=
  if k % 4 = 0 then enc x else if k % 4 = 1 then enc (zig (wrap64 (x : Int))) else if k % 4 = 2 then enc s.size ++ bytesOf s else [if decide (x % 2 = 1) then 1 else 0]
theorem ib0 {k x : Nat} {s : ByteArray} (h : k % 4 = 0) : ib k x s = enc x := by unfold ib; rw [if_pos h]
theorem ib1 {k x : Nat} {s : ByteArray} (h : k % 4 = 1) : ib k x s = enc (zig (wrap64 (x : Int))) := by unfold ib; rw [if_neg (by omega), if_pos h]
theorem ib2 {k x : Nat} {s : ByteArray} (h : k % 4 = 2) : ib k x s = enc s.size ++ bytesOf s := by unfold ib; rw [if_neg (by omega), if_neg (by omega), if_pos h]
theorem ib3 {k x : Nat} {s : ByteArray} (h : k % 4 = 3) : ib k x s = [if decide (x % 2 = 1) then 1 else 0] := by unfold ib; rw [if_neg (by omega), if_neg (by omega), if_neg (by omega)]
theorem odd_is (x : Nat) (hx : x < 18446744073709551616) : (bits .and .u64 (x : Int) 1 == 1) = decide (x % 2 = 1) := by
  rw [and1 x hx, Bool.eq_iff_iff]
  simp
  omega
/-- The cells of an item. -/
def Item3 (n : Nat) (k x : Int) (s : ByteArray) (u : World) : Prop :=
  u.cell? ⟨n, 0, none⟩ = some (.int .u8 k) ∧ u.cell? ⟨n, 1, none⟩ = some (.int .u64 x) ∧ u.cell? ⟨n, 2, none⟩ = some (.string s) ∧ n < u.heap.size
theorem Item3.but {n p : Nat} {k x : Int} {s : ByteArray} {u u' : World} (h : Item3 n k x s u) (hb : But p u u') (hpn : p ≠ n) : Item3 n k x s u' :=
  ⟨cell_frame h.1 (hb.block n h.2.2.2 (fun e => hpn e.symm)), cell_frame h.2.1 (hb.block n h.2.2.2 (fun e => hpn e.symm)), cell_frame h.2.2.1 (hb.block n h.2.2.2 (fun e => hpn e.symm)), Nat.lt_of_lt_of_le h.2.2.2 hb.size⟩
theorem Item3.drew {n : Nat} {k x : Int} {s : ByteArray} {u : World} (h : Item3 n k x s u) : Item3 n k x s u.drew := h
theorem itemS {n : Nat} {k x : Int} {s : ByteArray} {u : World} (h : Item3 n k x s u) : u.cell? ⟨n, 0, none⟩ = some (.int .u8 k) ∧ u.cell? ⟨n, 1, none⟩ = some (.int .u64 x) ∧ u.cell? ⟨n, 2, none⟩ = some (.string s) ∧ Item3 n k x s u := ⟨h.1, h.2.1, h.2.2.1, h⟩
theorem Item3.new (w : World) (k x : Int) (s : ByteArray) : Item3 w.heap.size k x s (w.alloc (.cells #[.int .u8 k, .int .u64 x, .string s] 44)) := ⟨by simp [go_sem], by simp [go_sem], by simp [go_sem], by simp⟩

set_option maxRecDepth 10000 in
set_option maxHeartbeats 2000000 in
theorem bytes0 {WAt : World → Nat → St → Prop} (C : Con WAt) (k x : Nat) (s : ByteArray) (w : World) (hx : x < 18446744073709551616) (hs : s.size ≤ 140737488351232) (hk2 : k < 256) (hk : k % 4 = 0) :
    Calls Try.prog 20 #[.agg #[.int .u8 (k : Int), .int .u64 (x : Int), .string s]] w fun r w' => r = .returned (.string (textOf (ib k x s))) ∧ Below w.heap.size w w' := by
  rw [ib0 hk]
  have HU := hide (And.intro hx hs)
  clear HU
  have HC := hide (fun u => C.wuint x u hx)
  have hz : (k : Int) % 4 = 0 := by omega

  have HB := hide ((Below.refl w.heap.size w).alloc (Nat.le_refl _) (.cells #[.int .u8 (k : Int), .int .u64 (x : Int), .string s] 44))
  generalize htx : textOf (enc x) = tx at *
  clear htx hx hs
  go_enter Try.func20, Try.ntmps20
  go_wp2_with fail
  refine (HC.out _).mono ?_
  rintro e w1 ⟨rfl, hb⟩
  have HB1 := hide (HB.out.trans (hb.mono HB.out.size))
  clear hb
  go_wp2
  go_ret
  exact ⟨rfl, HB1.out⟩

set_option maxRecDepth 10000 in
set_option maxHeartbeats 2000000 in
theorem bytes1 {WAt : World → Nat → St → Prop} (C : Con WAt) (k x : Nat) (s : ByteArray) (w : World) (hx : x < 18446744073709551616) (hs : s.size ≤ 140737488351232) (hk2 : k < 256) (hk : k % 4 = 1) :
    Calls Try.prog 20 #[.agg #[.int .u8 (k : Int), .int .u64 (x : Int), .string s]] w fun r w' => r = .returned (.string (textOf (ib k x s))) ∧ Below w.heap.size w w' := by
  rw [ib1 hk]
  have HU := hide (And.intro hx hs)
  clear HU
  have HC := hide (fun u => C.wint (wrap64 (x : Int)) u (w64_range _))
  have hz : (k : Int) % 4 = 1 := by omega
  have ho := wrap_is (x : Int)
  have HB := hide ((Below.refl w.heap.size w).alloc (Nat.le_refl _) (.cells #[.int .u8 (k : Int), .int .u64 (x : Int), .string s] 44))
  generalize htx : textOf (enc (zig (wrap64 (x : Int)))) = tx at *
  clear htx hx hs
  go_enter Try.func20, Try.ntmps20
  go_wp2_with fail
  refine (HC.out _).mono ?_
  rintro e w1 ⟨rfl, hb⟩
  have HB1 := hide (HB.out.trans (hb.mono HB.out.size))
  clear hb
  go_wp2
  go_ret
  exact ⟨rfl, HB1.out⟩

set_option maxRecDepth 10000 in
set_option maxHeartbeats 2000000 in
theorem bytes2 {WAt : World → Nat → St → Prop} (C : Con WAt) (k x : Nat) (s : ByteArray) (w : World) (hx : x < 18446744073709551616) (hs : s.size ≤ 140737488351232) (hk2 : k < 256) (hk : k % 4 = 2) :
    Calls Try.prog 20 #[.agg #[.int .u8 (k : Int), .int .u64 (x : Int), .string s]] w fun r w' => r = .returned (.string (textOf (ib k x s))) ∧ Below w.heap.size w w' := by
  rw [ib2 hk]
  have HU := hide (And.intro hx hs)
  clear HU
  have HC := hide (fun u => C.wtext s u hs)
  have hz : (k : Int) % 4 = 2 := by omega

  have HB := hide ((Below.refl w.heap.size w).alloc (Nat.le_refl _) (.cells #[.int .u8 (k : Int), .int .u64 (x : Int), .string s] 44))
  generalize htx : textOf (enc s.size ++ bytesOf s) = tx at *
  clear htx hx hs
  go_enter Try.func20, Try.ntmps20
  go_wp2_with fail
  refine (HC.out _).mono ?_
  rintro e w1 ⟨rfl, hb⟩
  have HB1 := hide (HB.out.trans (hb.mono HB.out.size))
  clear hb
  go_wp2
  go_ret
  exact ⟨rfl, HB1.out⟩

set_option maxRecDepth 10000 in
set_option maxHeartbeats 2000000 in
theorem bytes3 {WAt : World → Nat → St → Prop} (C : Con WAt) (k x : Nat) (s : ByteArray) (w : World) (hx : x < 18446744073709551616) (hs : s.size ≤ 140737488351232) (hk2 : k < 256) (hk : k % 4 = 3) :
    Calls Try.prog 20 #[.agg #[.int .u8 (k : Int), .int .u64 (x : Int), .string s]] w fun r w' => r = .returned (.string (textOf (ib k x s))) ∧ Below w.heap.size w w' := by
  rw [ib3 hk]
  have HU := hide (And.intro hx hs)
  clear HU
  have HC := hide (fun u => C.wbool (decide (x % 2 = 1)) u)
  have hz : (k : Int) % 4 = 3 := by omega
  have ho := odd_is x hx
  have HB := hide ((Below.refl w.heap.size w).alloc (Nat.le_refl _) (.cells #[.int .u8 (k : Int), .int .u64 (x : Int), .string s] 44))
  generalize htx : textOf [if decide (x % 2 = 1) then 1 else 0] = tx at *
  clear htx hx hs
  go_enter Try.func20, Try.ntmps20
  go_wp2_with fail
  refine (HC.out _).mono ?_
  rintro e w1 ⟨rfl, hb⟩
  have HB1 := hide (HB.out.trans (hb.mono HB.out.size))
  clear hb
  go_wp2
  go_ret
  exact ⟨rfl, HB1.out⟩

theorem bytes_any {WAt : World → Nat → St → Prop} (C : Con WAt) (k x : Nat) (s : ByteArray) (w : World) (hx : x < 18446744073709551616) (hs : s.size ≤ 140737488351232) (hk2 : k < 256) :
    Calls Try.prog 20 #[.agg #[.int .u8 (k : Int), .int .u64 (x : Int), .string s]] w fun r w' => r = .returned (.string (textOf (ib k x s))) ∧ Below w.heap.size w w' := by
  have hc : k % 4 = 0 ∨ k % 4 = 1 ∨ k % 4 = 2 ∨ k % 4 = 3 := by omega
  rcases hc with h | h | h | h
  · exact bytes0 C k x s w hx hs hk2 h
  · exact bytes1 C k x s w hx hs hk2 h
  · exact bytes2 C k x s w hx hs hk2 h
  · exact bytes3 C k x s w hx hs hk2 h

set_option maxRecDepth 10000 in
set_option maxHeartbeats 4000000 in
theorem back0 {WAt : World → Nat → St → Prop} (C : Con WAt) (p k x : Nat) (s : ByteArray) (t : List Nat) (st : St) (w : World) (hw : WAt w p st) (he : st.e = 0) (hst : st.s.size ≤ 140737488351232) (hx : x < 18446744073709551616) (hs : s.size ≤ 1024) (hk2 : k < 256) (hk : k % 4 = 0) (hb : bytesOf st.s = ib k x s ++ t) :
    Calls Try.prog 21 #[.pointer (some ⟨p, 0, none⟩), .agg #[.int .u8 (k : Int), .int .u64 (x : Int), .string s]] w fun r w' => r = .returned (.bool true) ∧ ∃ st', WAt w' p st' ∧ st'.e = 0 ∧ bytesOf st'.s = t ∧ st'.s.size ≤ 140737488351232 ∧ But p w w' := by
  rw [ib0 hk] at hb
  have HU := hide (And.intro hx hs)
  clear HU
  have hpn : p ≠ w.heap.size := Nat.ne_of_lt (C.lt hw)
  obtain ⟨hv, h2, h3⟩ := uint_back (most := 18446744073709551615) he hb hx (by omega)
  have HC := fun u (h : WAt u p st) => C.uint p 18446744073709551615 st u h hst (by decide)
  rw [hv] at HC
  have HC := hide HC
  have hz : (k : Int) % 4 = 0 := by omega

  have HI := hide (Item3.new w (k : Int) (x : Int) s)
  have HW := hide (C.frame hw (Below.heap_alloc w (.cells #[.int .u8 (k : Int), .int .u64 (x : Int), .string s] 44) p (C.lt hw)))
  have HA : Hid (But p w (w.alloc (.cells #[.int .u8 (k : Int), .int .u64 (x : Int), .string s] 44))) := hide ⟨rfl, rfl, rfl, by simp, fun i hi _ => Below.heap_alloc w _ i hi⟩
  have HF := hide (And.intro h2 (And.intro h3 (And.intro hpn hst)))
  clear hw hpn hv h2 h3 hb hst hx
  go_enter Try.func21, Try.ntmps21
  go_wp2_with fail
  generalize w.alloc (.cells #[.int .u8 (k : Int), .int .u64 (x : Int), .string s] 44) = W at *
  generalize w.heap.size = n at *
  have HWd := hide (C.frame (u' := W.drew) HW.out rfl)
  go_region_held3 (fun u => u.cell? ⟨n, 0, none⟩ = some (.int .u8 (k : Int)) ∧ u.cell? ⟨n, 1, none⟩ = some (.int .u64 (x : Int)) ∧ u.cell? ⟨n, 2, none⟩ = some (.string s) ∧ Item3 n (k : Int) (x : Int) s u)
    (((with_reducible refine itemS ?_); first | ((with_reducible refine Item3.but ?_ hb1 HF.out.2.2.1); go_split_ands; with_reducible assumption) | (with_reducible exact Item3.drew HI.out)))
    (first | (go_at_call 23; refine (HC.out _ HWd.out).mono ?_; rintro e w1 ⟨rfl, hw1, hb1⟩))
  all_goals
    have HR := hide (And.intro hw1 (HA.out.drew.trans hb1))
    clear hw1 hb1
    go_split_ands
    go_wp2
    go_ret
    exact ⟨congrArg (fun x => Ending.returned (.bool x)) (by simp), _, HR.out.1, HF.out.1, HF.out.2.1, Nat.le_trans (uint_size _ _) HF.out.2.2.2, HR.out.2⟩

set_option maxRecDepth 10000 in
set_option maxHeartbeats 4000000 in
theorem back1 {WAt : World → Nat → St → Prop} (C : Con WAt) (p k x : Nat) (s : ByteArray) (t : List Nat) (st : St) (w : World) (hw : WAt w p st) (he : st.e = 0) (hst : st.s.size ≤ 140737488351232) (hx : x < 18446744073709551616) (hs : s.size ≤ 1024) (hk2 : k < 256) (hk : k % 4 = 1) (hb : bytesOf st.s = ib k x s ++ t) :
    Calls Try.prog 21 #[.pointer (some ⟨p, 0, none⟩), .agg #[.int .u8 (k : Int), .int .u64 (x : Int), .string s]] w fun r w' => r = .returned (.bool true) ∧ ∃ st', WAt w' p st' ∧ st'.e = 0 ∧ bytesOf st'.s = t ∧ st'.s.size ≤ 140737488351232 ∧ But p w w' := by
  rw [ib1 hk] at hb
  have HU := hide (And.intro hx hs)
  clear HU
  have hpn : p ≠ w.heap.size := Nat.ne_of_lt (C.lt hw)
  obtain ⟨hv, h2, h3⟩ := int_back he (w64_range _) hb
  have HC := fun u (h : WAt u p st) => C.int p (-9223372036854775808) 9223372036854775807 st u h hst (by decide) (by decide)
  rw [hv] at HC
  have HC := hide HC
  have hz : (k : Int) % 4 = 1 := by omega
  have ho := wrap_is (x : Int)
  have HI := hide (Item3.new w (k : Int) (x : Int) s)
  have HW := hide (C.frame hw (Below.heap_alloc w (.cells #[.int .u8 (k : Int), .int .u64 (x : Int), .string s] 44) p (C.lt hw)))
  have HA : Hid (But p w (w.alloc (.cells #[.int .u8 (k : Int), .int .u64 (x : Int), .string s] 44))) := hide ⟨rfl, rfl, rfl, by simp, fun i hi _ => Below.heap_alloc w _ i hi⟩
  have HF := hide (And.intro h2 (And.intro h3 (And.intro hpn hst)))
  clear hw hpn hv h2 h3 hb hst hx
  go_enter Try.func21, Try.ntmps21
  go_wp2_with fail
  generalize w.alloc (.cells #[.int .u8 (k : Int), .int .u64 (x : Int), .string s] 44) = W at *
  generalize w.heap.size = n at *
  have HWd := hide (C.frame (u' := W.drew) HW.out rfl)
  go_region_held3 (fun u => u.cell? ⟨n, 0, none⟩ = some (.int .u8 (k : Int)) ∧ u.cell? ⟨n, 1, none⟩ = some (.int .u64 (x : Int)) ∧ u.cell? ⟨n, 2, none⟩ = some (.string s) ∧ Item3 n (k : Int) (x : Int) s u)
    (((with_reducible refine itemS ?_); first | ((with_reducible refine Item3.but ?_ hb1 HF.out.2.2.1); go_split_ands; with_reducible assumption) | (with_reducible exact Item3.drew HI.out)))
    (first | (go_at_call 24; refine (HC.out _ HWd.out).mono ?_; rintro e w1 ⟨rfl, hw1, hb1⟩))
  all_goals
    have HR := hide (And.intro hw1 (HA.out.drew.trans hb1))
    clear hw1 hb1
    go_split_ands
    go_wp2
    go_ret
    exact ⟨congrArg (fun x => Ending.returned (.bool x)) (by simp), _, HR.out.1, HF.out.1, HF.out.2.1, Nat.le_trans (int_size _ _ _) HF.out.2.2.2, HR.out.2⟩

set_option maxRecDepth 10000 in
set_option maxHeartbeats 4000000 in
theorem back2 {WAt : World → Nat → St → Prop} (C : Con WAt) (p k x : Nat) (s : ByteArray) (t : List Nat) (st : St) (w : World) (hw : WAt w p st) (he : st.e = 0) (hst : st.s.size ≤ 140737488351232) (hx : x < 18446744073709551616) (hs : s.size ≤ 1024) (hk2 : k < 256) (hk : k % 4 = 2) (hb : bytesOf st.s = ib k x s ++ t) :
    Calls Try.prog 21 #[.pointer (some ⟨p, 0, none⟩), .agg #[.int .u8 (k : Int), .int .u64 (x : Int), .string s]] w fun r w' => r = .returned (.bool true) ∧ ∃ st', WAt w' p st' ∧ st'.e = 0 ∧ bytesOf st'.s = t ∧ st'.s.size ≤ 140737488351232 ∧ But p w w' := by
  rw [ib2 hk] at hb
  have HU := hide (And.intro hx hs)
  clear HU
  have hpn : p ≠ w.heap.size := Nat.ne_of_lt (C.lt hw)
  obtain ⟨hv, h2, h3⟩ := text_back (most := 4096) he hb (by omega) (by omega)
  have HC := fun u (h : WAt u p st) => C.text p 4096 st u h hst (by decide)
  rw [hv] at HC
  have HC := hide HC
  have hz : (k : Int) % 4 = 2 := by omega

  have HI := hide (Item3.new w (k : Int) (x : Int) s)
  have HW := hide (C.frame hw (Below.heap_alloc w (.cells #[.int .u8 (k : Int), .int .u64 (x : Int), .string s] 44) p (C.lt hw)))
  have HA : Hid (But p w (w.alloc (.cells #[.int .u8 (k : Int), .int .u64 (x : Int), .string s] 44))) := hide ⟨rfl, rfl, rfl, by simp, fun i hi _ => Below.heap_alloc w _ i hi⟩
  have HF := hide (And.intro h2 (And.intro h3 (And.intro hpn hst)))
  clear hw hpn hv h2 h3 hb hst hx
  go_enter Try.func21, Try.ntmps21
  go_wp2_with fail
  generalize w.alloc (.cells #[.int .u8 (k : Int), .int .u64 (x : Int), .string s] 44) = W at *
  generalize w.heap.size = n at *
  have HWd := hide (C.frame (u' := W.drew) HW.out rfl)
  go_region_held3 (fun u => u.cell? ⟨n, 0, none⟩ = some (.int .u8 (k : Int)) ∧ u.cell? ⟨n, 1, none⟩ = some (.int .u64 (x : Int)) ∧ u.cell? ⟨n, 2, none⟩ = some (.string s) ∧ Item3 n (k : Int) (x : Int) s u)
    (((with_reducible refine itemS ?_); first | ((with_reducible refine Item3.but ?_ hb1 HF.out.2.2.1); go_split_ands; with_reducible assumption) | (with_reducible exact Item3.drew HI.out)))
    (first | (go_at_call 25; refine (HC.out _ HWd.out).mono ?_; rintro e w1 ⟨rfl, hw1, hb1⟩))
  all_goals
    have HR := hide (And.intro hw1 (HA.out.drew.trans hb1))
    clear hw1 hb1
    go_split_ands
    go_wp2
    go_ret
    exact ⟨congrArg (fun x => Ending.returned (.bool x)) (by simp), _, HR.out.1, HF.out.1, HF.out.2.1, Nat.le_trans (text_size _ _) HF.out.2.2.2, HR.out.2⟩

set_option maxRecDepth 10000 in
set_option maxHeartbeats 4000000 in
theorem back3 {WAt : World → Nat → St → Prop} (C : Con WAt) (p k x : Nat) (s : ByteArray) (t : List Nat) (st : St) (w : World) (hw : WAt w p st) (he : st.e = 0) (hst : st.s.size ≤ 140737488351232) (hx : x < 18446744073709551616) (hs : s.size ≤ 1024) (hk2 : k < 256) (hk : k % 4 = 3) (hb : bytesOf st.s = ib k x s ++ t) :
    Calls Try.prog 21 #[.pointer (some ⟨p, 0, none⟩), .agg #[.int .u8 (k : Int), .int .u64 (x : Int), .string s]] w fun r w' => r = .returned (.bool true) ∧ ∃ st', WAt w' p st' ∧ st'.e = 0 ∧ bytesOf st'.s = t ∧ st'.s.size ≤ 140737488351232 ∧ But p w w' := by
  rw [ib3 hk] at hb
  have HU := hide (And.intro hx hs)
  clear HU
  have hpn : p ≠ w.heap.size := Nat.ne_of_lt (C.lt hw)
  obtain ⟨hv, h2, h3⟩ := bool_back he hb
  have HC := fun u (h : WAt u p st) => C.bool p st u h hst
  rw [hv] at HC
  have HC := hide HC
  have hz : (k : Int) % 4 = 3 := by omega
  have ho := odd_is x hx
  have HI := hide (Item3.new w (k : Int) (x : Int) s)
  have HW := hide (C.frame hw (Below.heap_alloc w (.cells #[.int .u8 (k : Int), .int .u64 (x : Int), .string s] 44) p (C.lt hw)))
  have HA : Hid (But p w (w.alloc (.cells #[.int .u8 (k : Int), .int .u64 (x : Int), .string s] 44))) := hide ⟨rfl, rfl, rfl, by simp, fun i hi _ => Below.heap_alloc w _ i hi⟩
  have HF := hide (And.intro h2 (And.intro h3 (And.intro hpn hst)))
  clear hw hpn hv h2 h3 hb hst 
  go_enter Try.func21, Try.ntmps21
  go_wp2_with fail
  generalize w.alloc (.cells #[.int .u8 (k : Int), .int .u64 (x : Int), .string s] 44) = W at *
  generalize w.heap.size = n at *
  have HWd := hide (C.frame (u' := W.drew) HW.out rfl)
  go_region_held3 (fun u => u.cell? ⟨n, 0, none⟩ = some (.int .u8 (k : Int)) ∧ u.cell? ⟨n, 1, none⟩ = some (.int .u64 (x : Int)) ∧ u.cell? ⟨n, 2, none⟩ = some (.string s) ∧ Item3 n (k : Int) (x : Int) s u)
    (((with_reducible refine itemS ?_); first | ((with_reducible refine Item3.but ?_ hb1 HF.out.2.2.1); go_split_ands; with_reducible assumption) | (with_reducible exact Item3.drew HI.out)))
    (first | (go_at_call 27; refine (HC.out _ HWd.out).mono ?_; rintro e w1 ⟨rfl, hw1, hb1⟩))
  all_goals
    have HR := hide (And.intro hw1 (HA.out.drew.trans hb1))
    clear hw1 hb1
    go_split_ands
    go_wp2
    go_ret
    exact ⟨congrArg (fun x => Ending.returned (.bool x)) (by simp), _, HR.out.1, HF.out.1, HF.out.2.1, Nat.le_trans (bool_size _) HF.out.2.2.2, HR.out.2⟩

theorem back_any {WAt : World → Nat → St → Prop} (C : Con WAt) (p k x : Nat) (s : ByteArray) (t : List Nat) (st : St) (w : World) (hw : WAt w p st) (he : st.e = 0) (hst : st.s.size ≤ 140737488351232) (hx : x < 18446744073709551616) (hs : s.size ≤ 1024) (hk2 : k < 256) (hb : bytesOf st.s = ib k x s ++ t) :
    Calls Try.prog 21 #[.pointer (some ⟨p, 0, none⟩), .agg #[.int .u8 (k : Int), .int .u64 (x : Int), .string s]] w fun r w' => r = .returned (.bool true) ∧ ∃ st', WAt w' p st' ∧ st'.e = 0 ∧ bytesOf st'.s = t ∧ st'.s.size ≤ 140737488351232 ∧ But p w w' := by
  have hc : k % 4 = 0 ∨ k % 4 = 1 ∨ k % 4 = 2 ∨ k % 4 = 3 := by omega
  rcases hc with h | h | h | h
  · exact back0 C p k x s t st w hw he hst hx hs hk2 h hb
  · exact back1 C p k x s t st w hw he hst hx hs hk2 h hb
  · exact back2 C p k x s t st w hw he hst hx hs hk2 h hb
  · exact back3 C p k x s t st w hw he hst hx hs hk2 h hb
end Go.Proofs.Ytodndkmpjpiidaa
