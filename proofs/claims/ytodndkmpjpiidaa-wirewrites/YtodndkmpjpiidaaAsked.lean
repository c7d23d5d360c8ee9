/- One call of both readers. -/
import Derived.Test.YtodndkmpjpiidaaCon
import Derived.Deep.RegionHeld3
namespace Go.Proofs.Ytodndkmpjpiidaa
open Go Go.RowKit
theorem i64_range (n : Int) : -9223372036854775808 ≤ IntKind.i64.wrap n ∧ IntKind.i64.wrap n ≤ 9223372036854775807 := by
  simp [IntKind.wrap, IntKind.signed, IntKind.bits]
  omega
/-- The cells of what is asked. -/
def Ask3 (n : Nat) (d least most : Int) (u : World) : Prop :=
  u.cell? ⟨n, 0, none⟩ = some (.int .u8 d) ∧ u.cell? ⟨n, 1, none⟩ = some (.int .i64 least) ∧ u.cell? ⟨n, 2, none⟩ = some (.int .u64 most) ∧ n < u.heap.size
theorem Ask3.of {WAt : World → Nat → St → Prop} {p q n : Nat} {d least most : Int} {s1 s2 : St} {u : World} (h : Both WAt p q n d least most s1 s2 u) : Ask3 n d least most u.drew := ⟨h.2.2.1, h.2.2.2.1, h.2.2.2.2.1, h.2.2.2.2.2.1⟩
theorem Ask3.but {n p : Nat} {d least most : Int} {u u' : World} (h : Ask3 n d least most u) (hb : But p u u') (hpn : p ≠ n) : Ask3 n d least most u' :=
  ⟨cell_frame h.1 (hb.block n h.2.2.2 (fun e => hpn e.symm)), cell_frame h.2.1 (hb.block n h.2.2.2 (fun e => hpn e.symm)), cell_frame h.2.2.1 (hb.block n h.2.2.2 (fun e => hpn e.symm)), Nat.lt_of_lt_of_le h.2.2.2 hb.size⟩
theorem askS {n : Nat} {d least most : Int} {u : World} (h : Ask3 n d least most u) : u.cell? ⟨n, 0, none⟩ = some (.int .u8 d) ∧ u.cell? ⟨n, 1, none⟩ = some (.int .i64 least) ∧ u.cell? ⟨n, 2, none⟩ = some (.int .u64 most) ∧ Ask3 n d least most u := ⟨h.1, h.2.1, h.2.2.1, h⟩
theorem less_size (st : St) (n : Nat) : (st.less n).s.size ≤ st.s.size := by
  unfold St.less; simp only [ByteArray.size_extract]; omega
theorem uint_size (st : St) (most : Nat) : (st.uint most).2.s.size ≤ st.s.size := by
  unfold St.uint
  split
  · exact Nat.le_refl _
  · split
    · exact Nat.le_refl _
    · split
      · exact Nat.le_refl _
      · exact less_size _ _
theorem int_size (st : St) (least most : Int) : (st.int least most).2.s.size ≤ st.s.size := by
  unfold St.int
  split
  · exact Nat.le_refl _
  · split
    · exact Nat.le_refl _
    · split
      · exact Nat.le_refl _
      · exact less_size _ _
theorem count0_size (st : St) (most : Int) : (st.count0 most).2.s.size ≤ st.s.size := by
  unfold St.count0
  split
  · exact Nat.le_refl _
  · split
    · exact Nat.le_refl _
    · split
      · exact Nat.le_refl _
      · split <;> exact Nat.le_refl _
theorem text_size (st : St) (most : Int) : (st.text most).2.s.size ≤ st.s.size := by
  have h := count0_size st most
  unfold St.text
  split
  · rename_i e; rw [e] at h; exact h
  · rename_i e; rw [e] at h; exact Nat.le_trans (less_size _ _) h
theorem count_size (st : St) (most : Int) : (st.count most).2.s.size ≤ st.s.size := by
  have h := count0_size st most
  unfold St.count
  split
  · rename_i e; rw [e] at h; exact h
  · rename_i e; rw [e] at h; exact Nat.le_trans (less_size _ _) h
theorem bool_size (st : St) : st.bool.2.s.size ≤ st.s.size := by
  unfold St.bool
  split
  · exact Nat.le_refl _
  · split
    · exact Nat.le_refl _
    · split
      · exact Nat.le_refl _
      · exact less_size _ _
theorem end_size (st : St) : st.end_.2.s.size ≤ st.s.size := by
  unfold St.end_
  split <;> exact Nat.le_refl _

set_option maxRecDepth 10000 in
set_option maxHeartbeats 4000000 in
theorem asked0 {WAt : World → Nat → St → Prop} (C : Con WAt) (p q d most : Nat) (least : Int) (st : St) (w : World) (hw : WAt w p st) (hr : RefAt w q st) (hpq : p ≠ q) (hs : st.s.size ≤ 140737488351232) (hm : most < 18446744073709551616) (hl : -9223372036854775808 ≤ least ∧ least ≤ 9223372036854775807) (hd : d % 6 = 0) (hd2 : d < 256) :
    Calls Try.prog 17 #[.pointer (some ⟨p, 0, none⟩), .pointer (some ⟨q, 0, none⟩), .agg #[.int .u8 (d : Int), .int .i64 least, .int .u64 (most : Int)]] w fun r w' => r = .returned (.bool true) ∧ ∃ st', WAt w' p st' ∧ RefAt w' q st' ∧ st'.s.size ≤ 140737488351232 ∧ But2 p q w w' := by
  have hpn : p ≠ w.heap.size := Nat.ne_of_lt (C.lt hw)
  have hqn : q ≠ w.heap.size := Nat.ne_of_lt hr.lt
  have HK := hide (Both.start C (d := (d : Int)) (least := least) (most := (most : Int)) hw hr)
  have HB := hide (But2.alloc p q w (.cells #[.int .u8 (d : Int), .int .i64 least, .int .u64 (most : Int)] 37))
  have HS := hide hs
  have HM := hide hm
  have HL := hide hl
  have HSM : Hid (st.s.size ≤ maxLen) := by unfold Hid maxLen; omega
  have HPQ := hide (And.intro hpq (And.intro hpn hqn))
  have hz : (d : Int) % 6 = 0 := by omega
  clear hw hr hpq hs hm hpn hqn hl
  go_enter Try.func17, Try.ntmps17
  go_wp2_with fail
  generalize w.alloc (.cells #[.int .u8 (d : Int), .int .i64 least, .int .u64 (most : Int)] 37) = W at *
  generalize w.heap.size = n at *
  go_region_held3 (fun u => u.cell? ⟨n, 0, none⟩ = some (.int .u8 (d : Int)) ∧ u.cell? ⟨n, 1, none⟩ = some (.int .i64 least) ∧ u.cell? ⟨n, 2, none⟩ = some (.int .u64 (most : Int)) ∧ Ask3 n (d : Int) least (most : Int) u)
    (((with_reducible refine askS ?_); first | ((with_reducible refine Ask3.but ?_ hb1 HPQ.out.2.1); go_split_ands; with_reducible assumption) | ((with_reducible refine Ask3.but ?_ hb2 HPQ.out.2.2); go_split_ands; with_reducible assumption) | (with_reducible exact Ask3.of HK.out)))
    (first
    | (go_at_call 23; (first
        | (refine (C.uint p most st _ (Both.drew C HK.out).1 HS.out HM.out).mono ?_; rintro e w1 ⟨rfl, hw1, hb1⟩; have K1 := Both.callW (Both.drew C HK.out) HPQ.out.1 HPQ.out.2.1 hw1 hb1; have B1 := But2.trans HB.out.drew (But.left hb1))
        | (refine (C.uint p most st _ K2.1 HS.out HM.out).mono ?_; rintro e w1 ⟨rfl, hw1, hb1⟩; have K3 := Both.callW K2 HPQ.out.1 HPQ.out.2.1 hw1 hb1; have B3 := But2.trans B2 (But.left hb1))))
    | (go_at_call 28; (first
        | (refine (refRUint_any q most st _ (Both.drew C HK.out).2.1 HSM.out).mono ?_; rintro e w2 ⟨rfl, hr2, hb2⟩; have K2 := Both.callR C (Both.drew C HK.out) HPQ.out.1 HPQ.out.2.2 hr2 hb2; have B2 := But2.trans HB.out.drew (But.right hb2))
        | (refine (refRUint_any q most st _ K1.2.1 HSM.out).mono ?_; rintro e w2 ⟨rfl, hr2, hb2⟩; have K3 := Both.callR C K1 HPQ.out.1 HPQ.out.2.2 hr2 hb2; have B3 := But2.trans B1 (But.right hb2)))))
  all_goals
    go_wp2
    go_ret
    exact ⟨congrArg (fun x => Ending.returned (.bool x)) (by simp), _, K3.1, K3.2.1, Nat.le_trans (uint_size _ _) HS.out, B3⟩

set_option maxRecDepth 10000 in
set_option maxHeartbeats 4000000 in
theorem asked1 {WAt : World → Nat → St → Prop} (C : Con WAt) (p q d most : Nat) (least : Int) (st : St) (w : World) (hw : WAt w p st) (hr : RefAt w q st) (hpq : p ≠ q) (hs : st.s.size ≤ 140737488351232) (hm : most < 18446744073709551616) (hl : -9223372036854775808 ≤ least ∧ least ≤ 9223372036854775807) (hd : d % 6 = 1) (hd2 : d < 256) :
    Calls Try.prog 17 #[.pointer (some ⟨p, 0, none⟩), .pointer (some ⟨q, 0, none⟩), .agg #[.int .u8 (d : Int), .int .i64 least, .int .u64 (most : Int)]] w fun r w' => r = .returned (.bool true) ∧ ∃ st', WAt w' p st' ∧ RefAt w' q st' ∧ st'.s.size ≤ 140737488351232 ∧ But2 p q w w' := by
  have hpn : p ≠ w.heap.size := Nat.ne_of_lt (C.lt hw)
  have hqn : q ≠ w.heap.size := Nat.ne_of_lt hr.lt
  have HK := hide (Both.start C (d := (d : Int)) (least := least) (most := (most : Int)) hw hr)
  have HB := hide (But2.alloc p q w (.cells #[.int .u8 (d : Int), .int .i64 least, .int .u64 (most : Int)] 37))
  have HS := hide hs
  have HM := hide hm
  have HL := hide hl
  have HSM : Hid (st.s.size ≤ maxLen) := by unfold Hid maxLen; omega
  have HPQ := hide (And.intro hpq (And.intro hpn hqn))
  have hz : (d : Int) % 6 = 1 := by omega
  have HW := hide (i64_range (most : Int))
  clear hw hr hpq hs hm hpn hqn hl
  go_enter Try.func17, Try.ntmps17
  go_wp2_with fail
  generalize w.alloc (.cells #[.int .u8 (d : Int), .int .i64 least, .int .u64 (most : Int)] 37) = W at *
  generalize w.heap.size = n at *
  go_region_held3 (fun u => u.cell? ⟨n, 0, none⟩ = some (.int .u8 (d : Int)) ∧ u.cell? ⟨n, 1, none⟩ = some (.int .i64 least) ∧ u.cell? ⟨n, 2, none⟩ = some (.int .u64 (most : Int)) ∧ Ask3 n (d : Int) least (most : Int) u)
    (((with_reducible refine askS ?_); first | ((with_reducible refine Ask3.but ?_ hb1 HPQ.out.2.1); go_split_ands; with_reducible assumption) | ((with_reducible refine Ask3.but ?_ hb2 HPQ.out.2.2); go_split_ands; with_reducible assumption) | (with_reducible exact Ask3.of HK.out)))
    (first
    | (go_at_call 24; (first
        | (refine (C.int p least (IntKind.i64.wrap (most : Int)) st _ (Both.drew C HK.out).1 HS.out HL.out HW.out).mono ?_; rintro e w1 ⟨rfl, hw1, hb1⟩; have K1 := Both.callW (Both.drew C HK.out) HPQ.out.1 HPQ.out.2.1 hw1 hb1; have B1 := But2.trans HB.out.drew (But.left hb1))
        | (refine (C.int p least (IntKind.i64.wrap (most : Int)) st _ K2.1 HS.out HL.out HW.out).mono ?_; rintro e w1 ⟨rfl, hw1, hb1⟩; have K3 := Both.callW K2 HPQ.out.1 HPQ.out.2.1 hw1 hb1; have B3 := But2.trans B2 (But.left hb1))))
    | (go_at_call 29; (first
        | (refine (refRInt_any q least (IntKind.i64.wrap (most : Int)) st _ (Both.drew C HK.out).2.1 HSM.out).mono ?_; rintro e w2 ⟨rfl, hr2, hb2⟩; have K2 := Both.callR C (Both.drew C HK.out) HPQ.out.1 HPQ.out.2.2 hr2 hb2; have B2 := But2.trans HB.out.drew (But.right hb2))
        | (refine (refRInt_any q least (IntKind.i64.wrap (most : Int)) st _ K1.2.1 HSM.out).mono ?_; rintro e w2 ⟨rfl, hr2, hb2⟩; have K3 := Both.callR C K1 HPQ.out.1 HPQ.out.2.2 hr2 hb2; have B3 := But2.trans B1 (But.right hb2)))))
  all_goals
    go_wp2
    go_ret
    exact ⟨congrArg (fun x => Ending.returned (.bool x)) (by simp), _, K3.1, K3.2.1, Nat.le_trans (int_size _ _ _) HS.out, B3⟩

set_option maxRecDepth 10000 in
set_option maxHeartbeats 4000000 in
theorem asked2 {WAt : World → Nat → St → Prop} (C : Con WAt) (p q d most : Nat) (least : Int) (st : St) (w : World) (hw : WAt w p st) (hr : RefAt w q st) (hpq : p ≠ q) (hs : st.s.size ≤ 140737488351232) (hm : most < 18446744073709551616) (hl : -9223372036854775808 ≤ least ∧ least ≤ 9223372036854775807) (hd : d % 6 = 2) (hd2 : d < 256) :
    Calls Try.prog 17 #[.pointer (some ⟨p, 0, none⟩), .pointer (some ⟨q, 0, none⟩), .agg #[.int .u8 (d : Int), .int .i64 least, .int .u64 (most : Int)]] w fun r w' => r = .returned (.bool true) ∧ ∃ st', WAt w' p st' ∧ RefAt w' q st' ∧ st'.s.size ≤ 140737488351232 ∧ But2 p q w w' := by
  have hpn : p ≠ w.heap.size := Nat.ne_of_lt (C.lt hw)
  have hqn : q ≠ w.heap.size := Nat.ne_of_lt hr.lt
  have HK := hide (Both.start C (d := (d : Int)) (least := least) (most := (most : Int)) hw hr)
  have HB := hide (But2.alloc p q w (.cells #[.int .u8 (d : Int), .int .i64 least, .int .u64 (most : Int)] 37))
  have HS := hide hs
  have HM := hide hm
  have HL := hide hl
  have HSM : Hid (st.s.size ≤ maxLen) := by unfold Hid maxLen; omega
  have HPQ := hide (And.intro hpq (And.intro hpn hqn))
  have hz : (d : Int) % 6 = 2 := by omega
  clear hw hr hpq hs hm hpn hqn hl
  go_enter Try.func17, Try.ntmps17
  go_wp2_with fail
  generalize w.alloc (.cells #[.int .u8 (d : Int), .int .i64 least, .int .u64 (most : Int)] 37) = W at *
  generalize w.heap.size = n at *
  go_region_held3 (fun u => u.cell? ⟨n, 0, none⟩ = some (.int .u8 (d : Int)) ∧ u.cell? ⟨n, 1, none⟩ = some (.int .i64 least) ∧ u.cell? ⟨n, 2, none⟩ = some (.int .u64 (most : Int)) ∧ Ask3 n (d : Int) least (most : Int) u)
    (((with_reducible refine askS ?_); first | ((with_reducible refine Ask3.but ?_ hb1 HPQ.out.2.1); go_split_ands; with_reducible assumption) | ((with_reducible refine Ask3.but ?_ hb2 HPQ.out.2.2); go_split_ands; with_reducible assumption) | (with_reducible exact Ask3.of HK.out)))
    (first
    | (go_at_call 25; (first
        | (refine (C.text p least st _ (Both.drew C HK.out).1 HS.out HL.out).mono ?_; rintro e w1 ⟨rfl, hw1, hb1⟩; have K1 := Both.callW (Both.drew C HK.out) HPQ.out.1 HPQ.out.2.1 hw1 hb1; have B1 := But2.trans HB.out.drew (But.left hb1))
        | (refine (C.text p least st _ K2.1 HS.out HL.out).mono ?_; rintro e w1 ⟨rfl, hw1, hb1⟩; have K3 := Both.callW K2 HPQ.out.1 HPQ.out.2.1 hw1 hb1; have B3 := But2.trans B2 (But.left hb1))))
    | (go_at_call 30; (first
        | (refine (refRText_any q least st _ (Both.drew C HK.out).2.1 HSM.out HL.out.2).mono ?_; rintro e w2 ⟨rfl, hr2, hb2⟩; have K2 := Both.callR C (Both.drew C HK.out) HPQ.out.1 HPQ.out.2.2 hr2 hb2; have B2 := But2.trans HB.out.drew (But.right hb2))
        | (refine (refRText_any q least st _ K1.2.1 HSM.out HL.out.2).mono ?_; rintro e w2 ⟨rfl, hr2, hb2⟩; have K3 := Both.callR C K1 HPQ.out.1 HPQ.out.2.2 hr2 hb2; have B3 := But2.trans B1 (But.right hb2)))))
  all_goals
    go_wp2
    go_ret
    exact ⟨congrArg (fun x => Ending.returned (.bool x)) (by simp), _, K3.1, K3.2.1, Nat.le_trans (text_size _ _) HS.out, B3⟩

set_option maxRecDepth 10000 in
set_option maxHeartbeats 4000000 in
theorem asked3 {WAt : World → Nat → St → Prop} (C : Con WAt) (p q d most : Nat) (least : Int) (st : St) (w : World) (hw : WAt w p st) (hr : RefAt w q st) (hpq : p ≠ q) (hs : st.s.size ≤ 140737488351232) (hm : most < 18446744073709551616) (hl : -9223372036854775808 ≤ least ∧ least ≤ 9223372036854775807) (hd : d % 6 = 3) (hd2 : d < 256) :
    Calls Try.prog 17 #[.pointer (some ⟨p, 0, none⟩), .pointer (some ⟨q, 0, none⟩), .agg #[.int .u8 (d : Int), .int .i64 least, .int .u64 (most : Int)]] w fun r w' => r = .returned (.bool true) ∧ ∃ st', WAt w' p st' ∧ RefAt w' q st' ∧ st'.s.size ≤ 140737488351232 ∧ But2 p q w w' := by
  have hpn : p ≠ w.heap.size := Nat.ne_of_lt (C.lt hw)
  have hqn : q ≠ w.heap.size := Nat.ne_of_lt hr.lt
  have HK := hide (Both.start C (d := (d : Int)) (least := least) (most := (most : Int)) hw hr)
  have HB := hide (But2.alloc p q w (.cells #[.int .u8 (d : Int), .int .i64 least, .int .u64 (most : Int)] 37))
  have HS := hide hs
  have HM := hide hm
  have HL := hide hl
  have HSM : Hid (st.s.size ≤ maxLen) := by unfold Hid maxLen; omega
  have HPQ := hide (And.intro hpq (And.intro hpn hqn))
  have hz : (d : Int) % 6 = 3 := by omega
  clear hw hr hpq hs hm hpn hqn hl
  go_enter Try.func17, Try.ntmps17
  go_wp2_with fail
  generalize w.alloc (.cells #[.int .u8 (d : Int), .int .i64 least, .int .u64 (most : Int)] 37) = W at *
  generalize w.heap.size = n at *
  go_region_held3 (fun u => u.cell? ⟨n, 0, none⟩ = some (.int .u8 (d : Int)) ∧ u.cell? ⟨n, 1, none⟩ = some (.int .i64 least) ∧ u.cell? ⟨n, 2, none⟩ = some (.int .u64 (most : Int)) ∧ Ask3 n (d : Int) least (most : Int) u)
    (((with_reducible refine askS ?_); first | ((with_reducible refine Ask3.but ?_ hb1 HPQ.out.2.1); go_split_ands; with_reducible assumption) | ((with_reducible refine Ask3.but ?_ hb2 HPQ.out.2.2); go_split_ands; with_reducible assumption) | (with_reducible exact Ask3.of HK.out)))
    (first
    | (go_at_call 26; (first
        | (refine (C.count p least st _ (Both.drew C HK.out).1 HS.out HL.out).mono ?_; rintro e w1 ⟨rfl, hw1, hb1⟩; have K1 := Both.callW (Both.drew C HK.out) HPQ.out.1 HPQ.out.2.1 hw1 hb1; have B1 := But2.trans HB.out.drew (But.left hb1))
        | (refine (C.count p least st _ K2.1 HS.out HL.out).mono ?_; rintro e w1 ⟨rfl, hw1, hb1⟩; have K3 := Both.callW K2 HPQ.out.1 HPQ.out.2.1 hw1 hb1; have B3 := But2.trans B2 (But.left hb1))))
    | (go_at_call 31; (first
        | (refine (refRCount_any q least st _ (Both.drew C HK.out).2.1 HSM.out HL.out.2).mono ?_; rintro e w2 ⟨rfl, hr2, hb2⟩; have K2 := Both.callR C (Both.drew C HK.out) HPQ.out.1 HPQ.out.2.2 hr2 hb2; have B2 := But2.trans HB.out.drew (But.right hb2))
        | (refine (refRCount_any q least st _ K1.2.1 HSM.out HL.out.2).mono ?_; rintro e w2 ⟨rfl, hr2, hb2⟩; have K3 := Both.callR C K1 HPQ.out.1 HPQ.out.2.2 hr2 hb2; have B3 := But2.trans B1 (But.right hb2)))))
  all_goals
    go_wp2
    go_ret
    exact ⟨congrArg (fun x => Ending.returned (.bool x)) (by simp), _, K3.1, K3.2.1, Nat.le_trans (count_size _ _) HS.out, B3⟩

set_option maxRecDepth 10000 in
set_option maxHeartbeats 4000000 in
theorem asked4 {WAt : World → Nat → St → Prop} (C : Con WAt) (p q d most : Nat) (least : Int) (st : St) (w : World) (hw : WAt w p st) (hr : RefAt w q st) (hpq : p ≠ q) (hs : st.s.size ≤ 140737488351232) (hm : most < 18446744073709551616) (hl : -9223372036854775808 ≤ least ∧ least ≤ 9223372036854775807) (hd : d % 6 = 4) (hd2 : d < 256) :
    Calls Try.prog 17 #[.pointer (some ⟨p, 0, none⟩), .pointer (some ⟨q, 0, none⟩), .agg #[.int .u8 (d : Int), .int .i64 least, .int .u64 (most : Int)]] w fun r w' => r = .returned (.bool true) ∧ ∃ st', WAt w' p st' ∧ RefAt w' q st' ∧ st'.s.size ≤ 140737488351232 ∧ But2 p q w w' := by
  have hpn : p ≠ w.heap.size := Nat.ne_of_lt (C.lt hw)
  have hqn : q ≠ w.heap.size := Nat.ne_of_lt hr.lt
  have HK := hide (Both.start C (d := (d : Int)) (least := least) (most := (most : Int)) hw hr)
  have HB := hide (But2.alloc p q w (.cells #[.int .u8 (d : Int), .int .i64 least, .int .u64 (most : Int)] 37))
  have HS := hide hs
  have HM := hide hm
  have HL := hide hl
  have HSM : Hid (st.s.size ≤ maxLen) := by unfold Hid maxLen; omega
  have HPQ := hide (And.intro hpq (And.intro hpn hqn))
  have hz : (d : Int) % 6 = 4 := by omega
  clear hw hr hpq hs hm hpn hqn hl
  go_enter Try.func17, Try.ntmps17
  go_wp2_with fail
  generalize w.alloc (.cells #[.int .u8 (d : Int), .int .i64 least, .int .u64 (most : Int)] 37) = W at *
  generalize w.heap.size = n at *
  refine (C.bool p st _ HK.out.1 HS.out).mono ?_
  rintro e w1 ⟨rfl, hw1, hb1⟩
  have K1 := Both.callW HK.out HPQ.out.1 HPQ.out.2.1 hw1 hb1
  have B1 := But2.trans HB.out (But.left hb1)
  have HK1 := hide (And.intro K1 B1)
  clear hw1 hb1 K1 B1
  go_wp2_with fail
  refine (refRBool_any q st _ HK1.out.1.2.1 HSM.out).mono ?_
  rintro e w2 ⟨rfl, hr2, hb2⟩
  have K3 := Both.callR C HK1.out.1 HPQ.out.1 HPQ.out.2.2 hr2 hb2
  have B3 := But2.trans HK1.out.2 (But.right hb2)
  have HK3 := hide (And.intro K3 B3)
  clear hr2 hb2 K3 B3
  go_wp2
  go_ret
  exact ⟨congrArg (fun x => Ending.returned (.bool x)) (by simp), _, HK3.out.1.1, HK3.out.1.2.1, Nat.le_trans (bool_size _) HS.out, HK3.out.2⟩

set_option maxRecDepth 10000 in
set_option maxHeartbeats 4000000 in
theorem asked5 {WAt : World → Nat → St → Prop} (C : Con WAt) (p q d most : Nat) (least : Int) (st : St) (w : World) (hw : WAt w p st) (hr : RefAt w q st) (hpq : p ≠ q) (hs : st.s.size ≤ 140737488351232) (hm : most < 18446744073709551616) (hl : -9223372036854775808 ≤ least ∧ least ≤ 9223372036854775807) (hd : d % 6 = 5) (hd2 : d < 256) :
    Calls Try.prog 17 #[.pointer (some ⟨p, 0, none⟩), .pointer (some ⟨q, 0, none⟩), .agg #[.int .u8 (d : Int), .int .i64 least, .int .u64 (most : Int)]] w fun r w' => r = .returned (.bool true) ∧ ∃ st', WAt w' p st' ∧ RefAt w' q st' ∧ st'.s.size ≤ 140737488351232 ∧ But2 p q w w' := by
  have hpn : p ≠ w.heap.size := Nat.ne_of_lt (C.lt hw)
  have hqn : q ≠ w.heap.size := Nat.ne_of_lt hr.lt
  have HK := hide (Both.start C (d := (d : Int)) (least := least) (most := (most : Int)) hw hr)
  have HB := hide (But2.alloc p q w (.cells #[.int .u8 (d : Int), .int .i64 least, .int .u64 (most : Int)] 37))
  have HS := hide hs
  have HM := hide hm
  have HL := hide hl
  have HSM : Hid (st.s.size ≤ maxLen) := by unfold Hid maxLen; omega
  have HPQ := hide (And.intro hpq (And.intro hpn hqn))
  have hz : (d : Int) % 6 = 5 := by omega
  clear hw hr hpq hs hm hpn hqn hl
  go_enter Try.func17, Try.ntmps17
  go_wp2_with fail
  generalize w.alloc (.cells #[.int .u8 (d : Int), .int .i64 least, .int .u64 (most : Int)] 37) = W at *
  generalize w.heap.size = n at *
  refine (C.end_ p st _ HK.out.1 HS.out).mono ?_
  rintro e w1 ⟨rfl, hw1, hb1⟩
  have K1 := Both.callW HK.out HPQ.out.1 HPQ.out.2.1 hw1 hb1
  have B1 := But2.trans HB.out (But.left hb1)
  have HK1 := hide (And.intro K1 B1)
  clear hw1 hb1 K1 B1
  go_wp2_with fail
  refine (refREnd_any q st _ HK1.out.1.2.1).mono ?_
  rintro e w2 ⟨rfl, hr2, hb2⟩
  have K3 := Both.callR C HK1.out.1 HPQ.out.1 HPQ.out.2.2 hr2 hb2
  have B3 := But2.trans HK1.out.2 (But.right hb2)
  have HK3 := hide (And.intro K3 B3)
  clear hr2 hb2 K3 B3
  go_wp2
  go_ret
  exact ⟨congrArg (fun x => Ending.returned (.bool x)) (by simp), _, HK3.out.1.1, HK3.out.1.2.1, Nat.le_trans (end_size _) HS.out, HK3.out.2⟩
end Go.Proofs.Ytodndkmpjpiidaa
