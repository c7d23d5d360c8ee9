/- The program's checkpoints: Load. -/
import Derived.Test.YtiebhdgpnloieaaDoorCj
import Derived.Test.YtiebhdgpnloieaaDoorCl
namespace Go.Proofs.YtiebhdgpnloieaaDoor
open Go Go.RowKit Frm
theorem whole_odd (l : List ByteArray) (odd : Nat) : (wholeT l odd).1 = 0 ∧ (wholeT l odd).2 = noText ∨ (wholeT l odd).1 % 2 = odd ∧ (wholeT l odd).1 ≠ 0 := by
  rw [whole_eq l odd _ rfl]
  split
  · exact Or.inl ⟨rfl, rfl⟩
  · rename_i h1
    split
    · exact Or.inr ⟨by show numL _ % 2 = odd; omega, by show numL _ ≠ 0; omega⟩
    · exact Or.inl ⟨rfl, rfl⟩
/-- The greater of two. -/
def pick (x c : Nat × ByteArray) : Nat × ByteArray := if x.1 < c.1 then c else x
/-- The slots' checkpoints. -/
def slotW (st : St) (o n : Int) (k : Nat) : Nat × ByteArray := wholeT (blocksAt st (slotAt o n k) (n.toNat / 2)) k
/-- The last one behind k slots. -/
def lastW (st : St) (o n : Int) : Nat → Nat × ByteArray
  | 0 => (0, noText)
  | k + 1 => pick (lastW st o n k) (slotW st o n k)
theorem load_last (st : St) (o n : Int) (hm : st.mayC o n) (h0 : st.left ≠ 0) : st.load o n = if (lastW st o n 2).1 = 0 then ((0, noText), 5) else (lastW st o n 2, 0) := by
  have h1 := whole_odd (blocksAt st (slotAt o n 0) (n.toNat / 2)) 0
  have h2 := whole_odd (blocksAt st (slotAt o n 1) (n.toNat / 2)) 1
  unfold St.load
  rw [if_neg (fun h => h hm), if_neg h0]
  show (if _ then _ else _) = _
  unfold lastW lastW lastW slotW
  generalize wholeT (blocksAt st (slotAt o n 0) (n.toNat / 2)) 0 = a at *
  generalize wholeT (blocksAt st (slotAt o n 1) (n.toNat / 2)) 1 = b at *
  obtain ⟨a1, a2⟩ := a
  obtain ⟨b1, b2⟩ := b
  unfold pick
  simp only at *
  by_cases ha : 0 < a1
  · rw [if_pos ha]
    by_cases hb : a1 < b1
    · rw [if_pos hb, if_neg (by simp; omega), if_neg (by simp; omega), if_neg (by simp; omega)]
    · rw [if_neg hb, if_neg (by simp; omega), if_pos (show b1 < a1 by omega), if_neg (by simp; omega)]
  · have ha0 : a1 = 0 := by omega
    rw [if_neg ha]
    by_cases hb : 0 < b1
    · rw [if_pos hb, if_neg (by simp; omega), if_neg (by simp; omega), if_neg (by simp; omega)]
    · rw [if_neg hb, if_pos ⟨ha0, by omega⟩, if_pos rfl]
set_option maxRecDepth 20000 in
set_option maxHeartbeats 4000000 in
theorem load_in (q : Nat) (o n : Int) (st : St) (F : Nat → Prop) (w : World) (hD : DAt w q st F) (hok : st.Ok) (hl : st.loose.length ≤ 10000) (hm : st.mayC o n) (h0 : st.left ≠ 0) :
    Calls Tryd.prog 20 #[.pointer (some ⟨q, 0, none⟩), .int .i64 o, .int .i64 n] w fun e v => e = .returned (.tuple #[.int .u64 (((st.load o n).1.1 : Nat) : Int), .string (st.load o n).1.2, .int .i64 (((st.load o n).2 : Nat) : Int)]) ∧ Below w.heap.size w v := by
  have hfa := fun u hu => fault_any q o n st F w u hD hok (by
    have := room_pos hm.1
    omega) hu
  have hc : faultC st o n = 0 := by unfold faultC; rw [if_pos hm]
  rw [hc] at hfa
  have HFa := hide (hfa _ (one_below w (.cells #[.pointer (some ⟨q, 0, none⟩), .int .i64 o, .int .i64 n] 80)))
  obtain ⟨p1, p2, p3, p4⟩ := room_pos hm.1
  obtain ⟨m1, m2, m3⟩ := hm
  have hF := con.lt hD
  have hfew := hok.few
  have hsl : ∀ k : Nat, k < 2 → slotAt o n k + n.toNat / 2 ≤ st.sure.length := fun k hk => by
    unfold slotAt
    rcases (by omega : k = 0 ∨ k = 1) with rfl | rfl
    · simp; omega
    · simp; omega
  have HS : Hid (∀ (k : Nat) (u : World), k < 2 → Calls Tryd.prog 35 #[.agg #[.pointer (some ⟨q, 0, none⟩), .int .i64 o, .int .i64 n], .int .u64 (k : Int)] u fun e w' => e = .returned (.agg #[.pointer (some ⟨q, 0, none⟩), .int .i64 ((slotAt o n k : Nat) : Int), .int .i64 ((n.toNat / 2 : Nat) : Int), .int .u64 (k : Int)]) ∧ Below u.heap.size u w') := fun k u hk => by
    have := slotOf_any q o n k u ⟨m2, by omega⟩ ⟨by omega, p2⟩
    unfold slotV at this
    rw [Nat.mod_eq_of_lt hk] at this
    exact this
  have HR : Hid (∀ (k : Nat) (u : World), k < 2 → Below w.heap.size w u → Calls Tryd.prog 43 #[.agg #[.pointer (some ⟨q, 0, none⟩), .int .i64 ((slotAt o n k : Nat) : Int), .int .i64 ((n.toNat / 2 : Nat) : Int), .int .u64 (k : Int)]] u fun e w' => ∃ v, e = .returned (.tuple #[v, .int .i64 0]) ∧ OwnL w' u.heap.size v (blocksAt st (slotAt o n k) (n.toNat / 2)) ∧ Below u.heap.size u w') := fun k u hk hu =>
    slotRead_any q (slotAt o n k) (n.toNat / 2) (k : Int) st F u (con.same hD (fun j hj => hu.block j (hF j hj))) hok hl (hsl k hk) h0
  have HW : Hid (∀ (k : Nat) (u : World) (base : Nat) (v : Value), k < 2 → OwnL u base v (blocksAt st (slotAt o n k) (n.toNat / 2)) → Calls Tryd.prog 44 #[.agg #[.pointer (some ⟨q, 0, none⟩), .int .i64 ((slotAt o n k : Nat) : Int), .int .i64 ((n.toNat / 2 : Nat) : Int), .int .u64 (k : Int)], v] u fun e w' => e = .returned (.agg #[.int .u64 (((slotW st o n k).1 : Nat) : Int), .string (slotW st o n k).2]) ∧ Below u.heap.size u w') := fun k u base v hk hv => by
    have := whole_any (some ⟨q, 0, none⟩) ((slotAt o n k : Nat) : Int) base k v (blocksAt st (slotAt o n k) (n.toNat / 2)) u hv (by rw [blocksAt_length]; omega) (by rw [blocksAt_length]; omega) (blocksAt_full hok _ _ (hsl k hk))
    rw [blocksAt_length] at this
    exact this
  have HLast := hide (load_last st o n ⟨m1, m2, m3⟩ h0)
  have HC0 := hide (heap_alloc_last w (.cells #[.pointer (some ⟨q, 0, none⟩), .int .i64 o, .int .i64 n] 80))
  have HB0 := hide (one_below w (.cells #[.pointer (some ⟨q, 0, none⟩), .int .i64 o, .int .i64 n] 80))
  clear hfa hc hD hok hl h0 hF hfew hsl
  generalize n.toNat / 2 = N2 at *
  go_enter Tryd.func20, Tryd.ntmps20
  go_wp2_with fail
  generalize w.alloc (.cells #[.pointer (some ⟨q, 0, none⟩), .int .i64 o, .int .i64 n] 80) = W at *
  refine HFa.out.mono ?_
  rintro e w1 ⟨rfl, hb1⟩
  have hlt1 : w.heap.size < W.heap.size := (Array.getElem?_eq_some_iff.1 HC0.out).1
  have HC1 := hide ((hb1.block _ hlt1).trans HC0.out)
  have HB1 := hide (HB0.out.trans (hb1.mono HB0.out.size))
  clear HFa HC0 HB0 hb1 hlt1
  go_wp2_with fail
  have HL0 := hide (heap_alloc_last w1 (.cells #[.int .u64 0, .string ⟨#[]⟩] 95))
  have HA0 := hide ((Below.heap_alloc w1 (.cells #[.int .u64 0, .string ⟨#[]⟩] 95) w.heap.size (Array.getElem?_eq_some_iff.1 HC1.out).1).trans HC1.out)
  have HW0 := hide (HB1.out.alloc HB1.out.size (.cells #[.int .u64 0, .string ⟨#[]⟩] 95))
  have HLge : Hid (w.heap.size < w1.heap.size) := (Array.getElem?_eq_some_iff.1 HC1.out).1
  clear HC1 HB1
  generalize w1.alloc (.cells #[.int .u64 0, .string ⟨#[]⟩] 95) = V0 at *
  generalize w1.heap.size = L at *
  go_loopw [12, 13, 14, 15, 16, 26] (fun _ _ _ _ _ i wr => ∃ k : Nat, k ≤ 2 ∧ i = .int .u64 (k : Int) ∧ wr.heap[w.heap.size]? = some (.cells #[.pointer (some ⟨q, 0, none⟩), .int .i64 o, .int .i64 n] 80 (0, 0)) ∧ wr.heap[L]? = some (.cells #[.int .u64 (((lastW st o n k).1 : Nat) : Int), .string (lastW st o n k).2] 95 (0, 0)) ∧ Below w.heap.size w wr) (fun _ _ _ _ _ i _ => 2 - (intOf i).toNat)
  case atStart => exact ⟨0, by omega, rfl, HA0.out, HL0.out, HW0.out⟩
  case round =>
    obtain ⟨k, hk, rfl, hA, hL, hB⟩ := hrel
    have HA := hide hA
    have HL := hide hL
    have HB := hide hB
    by_cases hlt : k < 2
    · have hk2 : (k : Int) < 2 := by omega
      have c0 : wr.cell? ⟨w.heap.size, 0, none⟩ = some (.pointer (some ⟨q, 0, none⟩)) := (cell_of_row wr _ 0 _ _ _ hA).trans rfl
      have c1 : wr.cell? ⟨w.heap.size, 1, none⟩ = some (.int .i64 o) := (cell_of_row wr _ 1 _ _ _ hA).trans rfl
      have c2 : wr.cell? ⟨w.heap.size, 2, none⟩ = some (.int .i64 n) := (cell_of_row wr _ 2 _ _ _ hA).trans rfl
      have KS := hide (HS.out k wr hlt)
      clear hA hL hB
      go_wp2_with fail
      refine KS.out.mono ?_
      rintro e w2 ⟨rfl, hb2⟩
      clear c0 c1 c2 KS
      go_wp2_with fail
      have hb3 := bnext hb2 (one_below w2 (.cells #[.pointer (some ⟨q, 0, none⟩), .int .i64 ((slotAt o n k : Nat) : Int), .int .i64 (N2 : Int), .int .u64 (k : Int)] 84))
      have hS3 := heap_alloc_last w2 (.cells #[.pointer (some ⟨q, 0, none⟩), .int .i64 ((slotAt o n k : Nat) : Int), .int .i64 (N2 : Int), .int .u64 (k : Int)] 84)
      have KR := hide (HR.out k _ hlt (HB.out.trans (hb3.mono HB.out.size)))
      generalize w2.alloc (.cells #[.pointer (some ⟨q, 0, none⟩), .int .i64 ((slotAt o n k : Nat) : Int), .int .i64 (N2 : Int), .int .u64 (k : Int)] 84) = U3 at *
      generalize w2.heap.size = S at *
      refine KR.out.mono ?_
      rintro e w4 ⟨bv, rfl, hO4, hb4⟩
      have hS4 := (hb4.block _ (Array.getElem?_eq_some_iff.1 hS3).1).trans hS3
      have HW4 := hide (HW.out k w4 _ bv hlt hO4)
      have HB4 := hide (bnext hb3 hb4)
      have c0 : w4.cell? ⟨S, 0, none⟩ = some (.pointer (some ⟨q, 0, none⟩)) := (cell_of_row w4 _ 0 _ _ _ hS4).trans rfl
      have c1 : w4.cell? ⟨S, 1, none⟩ = some (.int .i64 ((slotAt o n k : Nat) : Int)) := (cell_of_row w4 _ 1 _ _ _ hS4).trans rfl
      have c2 : w4.cell? ⟨S, 2, none⟩ = some (.int .i64 (N2 : Int)) := (cell_of_row w4 _ 2 _ _ _ hS4).trans rfl
      have c3 : w4.cell? ⟨S, 3, none⟩ = some (.int .u64 (k : Int)) := (cell_of_row w4 _ 3 _ _ _ hS4).trans rfl
      clear hS3 hS4 hb2 hb3 hb4 hO4 KR
      go_wp2_with fail
      refine HW4.out.mono ?_
      rintro e w5 ⟨rfl, hb5⟩
      have hb6 := (bnext (bnext HB4.out hb5) (one_below w5 (.cells #[.int .u64 (((slotW st o n k).1 : Nat) : Int), .string (slotW st o n k).2] 95)))
      have hLt : L < wr.heap.size := (Array.getElem?_eq_some_iff.1 HL.out).1
      have HA6 := hide ((hb6.block _ (Array.getElem?_eq_some_iff.1 HA.out).1).trans HA.out)
      have hL6 := (hb6.block _ hLt).trans HL.out
      have hC6 := heap_alloc_last w5 (.cells #[.int .u64 (((slotW st o n k).1 : Nat) : Int), .string (slotW st o n k).2] 95)
      have hCL : w5.heap.size ≠ L := by have := (bnext HB4.out hb5).size; omega
      have HB6 := hide (HB.out.trans (hb6.mono HB.out.size))
      have HL6 := hide hL6
      have e0 : (w5.alloc (.cells #[.int .u64 (((slotW st o n k).1 : Nat) : Int), .string (slotW st o n k).2] 95)).cell? ⟨w5.heap.size, 0, none⟩ = some (.int .u64 (((slotW st o n k).1 : Nat) : Int)) := new_cell w5 _ 95 0 rfl
      have e1 : (w5.alloc (.cells #[.int .u64 (((slotW st o n k).1 : Nat) : Int), .string (slotW st o n k).2] 95)).cell? ⟨w5.heap.size, 1, none⟩ = some (.string (slotW st o n k).2) := new_cell w5 _ 95 1 rfl
      have g0 : (w5.alloc (.cells #[.int .u64 (((slotW st o n k).1 : Nat) : Int), .string (slotW st o n k).2] 95)).cell? ⟨L, 0, none⟩ = some (.int .u64 (((lastW st o n k).1 : Nat) : Int)) := (cell_of_row _ _ 0 _ _ _ hL6).trans rfl
      have g1 : (w5.alloc (.cells #[.int .u64 (((slotW st o n k).1 : Nat) : Int), .string (slotW st o n k).2] 95)).cell? ⟨L, 1, none⟩ = some (.string (lastW st o n k).2) := (cell_of_row _ _ 1 _ _ _ hL6).trans rfl
      have f0 := free_of hL6 0
      have f1 := free_of hL6 1
      have hLw : w.heap.size ≤ L := Nat.le_of_lt HLge.out
      have HB7 := hide ((HB6.out.setCell (p := ⟨L, 0, none⟩) hLw (.int .u64 (((slotW st o n k).1 : Nat) : Int))).setCell (p := ⟨L, 1, none⟩) hLw (.string (slotW st o n k).2))
      have HL7 := hide (two_set hL6 (.int .u64 (((slotW st o n k).1 : Nat) : Int)) (.string (slotW st o n k).2))
      have hwL : w.heap.size ≠ L := Nat.ne_of_lt HLge.out
      have HA7 : Hid ((((w5.alloc (.cells #[.int .u64 (((slotW st o n k).1 : Nat) : Int), .string (slotW st o n k).2] 95)).setCell ⟨L, 0, none⟩ (.int .u64 (((slotW st o n k).1 : Nat) : Int))).setCell ⟨L, 1, none⟩ (.string (slotW st o n k).2)).heap[w.heap.size]? = some (.cells #[.pointer (some ⟨q, 0, none⟩), .int .i64 o, .int .i64 n] 80 (0, 0))) :=
        (Below.heap_setCell _ ⟨L, 1, none⟩ _ _ hwL).trans ((Below.heap_setCell _ ⟨L, 0, none⟩ _ _ hwL).trans HA6.out)
      have HP : Hid (lastW st o n (k + 1) = pick (lastW st o n k) (slotW st o n k)) := rfl
      clear c0 c1 c2 c3 hb5 hb6 hL6 hC6 HW4 HB4 hLt
      generalize slotW st o n k = c at *
      generalize lastW st o n k = x at *
      by_cases hgt : x.1 < c.1
      · have hgt2 : (x.1 : Int) < (c.1 : Int) := by omega
        have HQ : Hid (lastW st o n (k + 1) = c) := by rw [Hid, HP.out]; unfold pick; rw [if_pos hgt]
        go_wp2
        go_roundw
        case rel => exact ⟨k + 1, hlt, by go_num, HA7.out, by rw [HQ.out]; exact HL7.out, HB7.out⟩
        case measure => simp [intOf]; omega
      · have hgt2 : ¬ (x.1 : Int) < (c.1 : Int) := by omega
        have HQ : Hid (lastW st o n (k + 1) = x) := by rw [Hid, HP.out]; unfold pick; rw [if_neg hgt]
        go_wp2
        go_roundw
        case rel => exact ⟨k + 1, hlt, by go_num, HA6.out, by rw [HQ.out]; exact HL6.out, HB6.out⟩
        case measure => simp [intOf]; omega
    · have hke : k = 2 := by omega
      subst hke
      have g0 : wr.cell? ⟨L, 0, none⟩ = some (.int .u64 (((lastW st o n 2).1 : Nat) : Int)) := (cell_of_row _ _ 0 _ _ _ hL).trans rfl
      have g1 : wr.cell? ⟨L, 1, none⟩ = some (.string (lastW st o n 2).2) := (cell_of_row _ _ 1 _ _ _ hL).trans rfl
      clear hA hL hB hlt hk
      generalize lastW st o n 2 = x at *
      by_cases hx : x.1 = 0
      · have hx2 : (x.1 : Int) = 0 := by omega
        have HQ : Hid (st.load o n = ((0, noText), 5)) := by rw [Hid, HLast.out, if_pos hx]
        clear hx HLast
        go_wp2
        go_ret3
        rw [HQ.out]
        exact ⟨rfl, HB.out⟩
      · have hx2 : ¬ ((x.1 : Int) = 0) := by omega
        have HQ : Hid (st.load o n = (x, 0)) := by rw [Hid, HLast.out, if_neg hx]
        clear hx HLast
        go_wp2_with fail
        go_quiet (fail)
        go_wp2
        go_ret3
        rw [HQ.out]
        exact ⟨rfl, below_drewN HB.out _⟩
/-- Load tells a fault, of the blocks or of the disk. -/
theorem load_fault (pq : Option Addr) (o n : Int) (w : World) (c : Nat) (hc : c ≠ 0) (hF : Calls Tryd.prog 33 #[.agg #[.pointer pq, .int .i64 o, .int .i64 n]] (w.alloc (.cells #[.pointer pq, .int .i64 o, .int .i64 n] 80)) fun e v => e = .returned (.int .i64 (c : Int)) ∧ Below (w.alloc (.cells #[.pointer pq, .int .i64 o, .int .i64 n] 80)).heap.size (w.alloc (.cells #[.pointer pq, .int .i64 o, .int .i64 n] 80)) v) :
    Calls Tryd.prog 20 #[.pointer pq, .int .i64 o, .int .i64 n] w fun e v => e = .returned (.tuple #[.int .u64 0, .string noText, .int .i64 (c : Int)]) ∧ Below w.heap.size w v := by
  have HF := hide hF
  have HB := hide (one_below w (.cells #[.pointer pq, .int .i64 o, .int .i64 n] 80))
  have hz : ¬ ((c : Int) = 0) := by omega
  clear hF hc
  go_enter Tryd.func20, Tryd.ntmps20
  go_wp2_with fail
  generalize w.alloc (.cells #[.pointer pq, .int .i64 o, .int .i64 n] 80) = W at *
  refine HF.out.mono ?_
  rintro e w1 ⟨rfl, hb1⟩
  have HB1 := hide (bnext HB.out hb1)
  clear hb1 HF HB
  go_wp2
  go_ret3
  exact ⟨rfl, HB1.out⟩
set_option maxRecDepth 20000 in
set_option maxHeartbeats 4000000 in
theorem load_down (q : Nat) (o n : Int) (st : St) (F : Nat → Prop) (w : World) (hD : DAt w q st F) (hok : st.Ok) (hl : st.loose.length ≤ 10000) (hm : st.mayC o n) (h0 : st.left = 0) :
    Calls Tryd.prog 20 #[.pointer (some ⟨q, 0, none⟩), .int .i64 o, .int .i64 n] w fun e v => e = .returned (.tuple #[.int .u64 0, .string noText, .int .i64 50]) ∧ Below w.heap.size w v := by
  have hfa := fun u hu => fault_any q o n st F w u hD hok (by
    have := room_pos hm.1
    omega) hu
  have hc : faultC st o n = 0 := by unfold faultC; rw [if_pos hm]
  rw [hc] at hfa
  have HFa := hide (hfa _ (one_below w (.cells #[.pointer (some ⟨q, 0, none⟩), .int .i64 o, .int .i64 n] 80)))
  obtain ⟨p1, p2, p3, p4⟩ := room_pos hm.1
  obtain ⟨m1, m2, m3⟩ := hm
  have hF := con.lt hD
  have hfew := hok.few
  have hsl : slotAt o n 0 ≤ 9000 := by
    unfold slotAt
    simp; omega
  have HS : Hid (∀ (u : World), Calls Tryd.prog 35 #[.agg #[.pointer (some ⟨q, 0, none⟩), .int .i64 o, .int .i64 n], .int .u64 0] u fun e w' => e = .returned (.agg #[.pointer (some ⟨q, 0, none⟩), .int .i64 ((slotAt o n 0 : Nat) : Int), .int .i64 ((n.toNat / 2 : Nat) : Int), .int .u64 0]) ∧ Below u.heap.size u w') := fun u =>
    slotOf_any q o n 0 u ⟨m2, by omega⟩ ⟨by omega, p2⟩
  have HR : Hid (∀ (u : World), Below w.heap.size w u → Calls Tryd.prog 43 #[.agg #[.pointer (some ⟨q, 0, none⟩), .int .i64 ((slotAt o n 0 : Nat) : Int), .int .i64 ((n.toNat / 2 : Nat) : Int), .int .u64 0]] u fun e w' => e = .returned (.tuple #[.slice none 0 0, .int .i64 50]) ∧ Below u.heap.size u w') := fun u hu =>
    slotRead_down q ((slotAt o n 0 : Nat) : Int) ((n.toNat / 2 : Nat) : Int) 0 st F u (con.same hD (fun j hj => hu.block j (hF j hj))) hok hl (by omega) (by omega) h0
  have HC0 := hide (heap_alloc_last w (.cells #[.pointer (some ⟨q, 0, none⟩), .int .i64 o, .int .i64 n] 80))
  have HB0 := hide (one_below w (.cells #[.pointer (some ⟨q, 0, none⟩), .int .i64 o, .int .i64 n] 80))
  clear hfa hc hD hok hl h0 hF hfew hsl
  generalize n.toNat / 2 = N2 at *
  generalize slotAt o n 0 = sa at *
  go_enter Tryd.func20, Tryd.ntmps20
  go_wp2_with fail
  generalize w.alloc (.cells #[.pointer (some ⟨q, 0, none⟩), .int .i64 o, .int .i64 n] 80) = W at *
  refine HFa.out.mono ?_
  rintro e w1 ⟨rfl, hb1⟩
  have hlt1 : w.heap.size < W.heap.size := (Array.getElem?_eq_some_iff.1 HC0.out).1
  have hC1 := (hb1.block _ hlt1).trans HC0.out
  have HA0 := hide ((Below.heap_alloc w1 (.cells #[.int .u64 0, .string ⟨#[]⟩] 95) w.heap.size (Array.getElem?_eq_some_iff.1 hC1).1).trans hC1)
  have HB1 := (HB0.out.trans (hb1.mono HB0.out.size))
  have HW0 := hide (HB1.alloc HB1.size (.cells #[.int .u64 0, .string ⟨#[]⟩] 95))
  clear HFa HC0 HB0 hb1 hlt1 hC1 HB1
  go_wp2_with fail
  generalize w1.alloc (.cells #[.int .u64 0, .string ⟨#[]⟩] 95) = V0 at *
  generalize w1.heap.size = L at *
  go_loopw [12, 13, 14, 15, 16, 26] (fun _ _ _ _ _ i wr => i = .int .u64 0 ∧ wr = V0) (fun _ _ _ _ _ _ _ => 0)
  case atStart => exact ⟨rfl, rfl⟩
  case round =>
    obtain ⟨rfl, hwr⟩ := hrel
    obtain rfl := hwr.symm
    have c0 : V0.cell? ⟨w.heap.size, 0, none⟩ = some (.pointer (some ⟨q, 0, none⟩)) := (cell_of_row V0 _ 0 _ _ _ HA0.out).trans rfl
    have c1 : V0.cell? ⟨w.heap.size, 1, none⟩ = some (.int .i64 o) := (cell_of_row V0 _ 1 _ _ _ HA0.out).trans rfl
    have c2 : V0.cell? ⟨w.heap.size, 2, none⟩ = some (.int .i64 n) := (cell_of_row V0 _ 2 _ _ _ HA0.out).trans rfl
    go_wp2_with fail
    refine (HS.out _).mono ?_
    rintro e w2 ⟨rfl, hb2⟩
    clear c0 c1 c2 HS
    go_wp2_with fail
    have hb3 := bnext hb2 (one_below w2 (.cells #[.pointer (some ⟨q, 0, none⟩), .int .i64 (sa : Int), .int .i64 (N2 : Int), .int .u64 0] 84))
    have KR := hide (HR.out _ (HW0.out.trans (hb3.mono HW0.out.size)))
    have HB3 := hide (HW0.out.trans (hb3.mono HW0.out.size))
    generalize w2.alloc (.cells #[.pointer (some ⟨q, 0, none⟩), .int .i64 (sa : Int), .int .i64 (N2 : Int), .int .u64 0] 84) = U3 at *
    refine KR.out.mono ?_
    rintro e w4 ⟨rfl, hb4⟩
    have HB4 := hide (HB3.out.trans (hb4.mono HB3.out.size))
    clear hb2 hb3 hb4 KR HB3
    go_wp2
    go_ret3
    exact ⟨rfl, HB4.out⟩
theorem pLoad (q : Nat) (o n : Int) (st : St) (F : Nat → Prop) (w : World) (hD : DAt w q st F) (hok : st.Ok) (hl : st.loose.length ≤ 10000) (hn : -9223372036854775808 ≤ n ∧ n ≤ 9223372036854775807) :
    Calls Tryd.prog 20 #[.pointer (some ⟨q, 0, none⟩), .int .i64 o, .int .i64 n] w fun e v => e = .returned (.tuple #[.int .u64 (((st.load o n).1.1 : Nat) : Int), .string (st.load o n).1.2, .int .i64 (((st.load o n).2 : Nat) : Int)]) ∧ Below w.heap.size w v := by
  by_cases hm : st.mayC o n
  · by_cases h0 : st.left = 0
    · have e : st.load o n = ((0, noText), 50) := by unfold St.load; rw [if_neg (fun h => h hm), if_pos h0]
      rw [e]
      exact load_down q o n st F w hD hok hl hm h0
    · exact load_in q o n st F w hD hok hl hm h0
  · have e : st.load o n = ((0, noText), 2) := by unfold St.load; rw [if_pos hm]
    rw [e]
    have := fault_any q o n st F w _ hD hok hn (one_below w (.cells #[.pointer (some ⟨q, 0, none⟩), .int .i64 o, .int .i64 n] 80))
    unfold faultC at this
    rw [if_neg hm] at this
    exact load_fault (some ⟨q, 0, none⟩) o n w 2 (by decide) this
theorem nLoad (o n : Int) (w : World) (hn : -9223372036854775808 ≤ n ∧ n ≤ 9223372036854775807) :
    Calls Tryd.prog 20 #[.pointer none, .int .i64 o, .int .i64 n] w fun e v => e = .returned (.tuple #[.int .u64 0, .string noText, .int .i64 1]) ∧ Below w.heap.size w v :=
  load_fault none o n w 1 (by decide) (fault_core (.pointer none) 0 o n (room n) _ 1 (fun v _ => (nSize v).mono (by rintro e x ⟨rfl, rfl⟩; exact ⟨rfl, Below.refl _ _⟩)) (fun v => room_any n v hn) (by
    by_cases h : room n = 0
    · exact Or.inr h
    · have := room_pos h
      exact Or.inl (by unfold wrap64; omega)) (by rw [if_pos rfl]))
end Go.Proofs.YtiebhdgpnloieaaDoor
