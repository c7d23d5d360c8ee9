/- The program's own reader: its methods. -/
import Derived.Test.YtodndkmpjpiidaaLeaf
import Derived.Test.YtodndkmpjpiidaaCount
import Derived.Test.YtodndkmpjpiidaaClone
namespace Go.Proofs.Ytodndkmpjpiidaa
open Go Go.RowKit

theorem keep_err {st : St} (h : st.e ≠ 0) (n f : Nat) : st.keep n f = (false, st) := by unfold St.keep; rw [if_pos h]
theorem keep_bad {st : St} (h : st.e = 0) (n : Nat) {f : Nat} (hf : f ≠ 0) : st.keep n f = (false, st.bad f) := by unfold St.keep; rw [if_neg (by simp [h]), if_pos hf]
theorem keep_less {st : St} (h : st.e = 0) (n : Nat) : st.keep n 0 = (true, st.less n) := by unfold St.keep; rw [if_neg (by simp [h]), if_neg (by simp)]
theorem wKept {p n f : Nat} {st st' : St} {b : Bool} {w : World} (h : WAt w p st) (hn : n ≤ st.s.size) (hf : f ≠ 1) (hk : st.keep n f = (b, st')) :
    Calls Try.prog 34 #[.pointer (some ⟨p, 0, none⟩), .int .i64 (n : Int), .int .i64 (f : Int)] w fun r w' => r = .returned (.bool b) ∧ (WAt w' p st' ∧ But p w w') := by
  have k := wKeep_any p n f st w h hn hf
  rw [hk] at k
  exact k
theorem front_err {st : St} (h : st.e ≠ 0) : st.front = { data := #[] } := by unfold St.front; rw [if_neg h]
theorem front_ok {st : St} (h : st.e = 0) : st.front = st.s := by unfold St.front; rw [if_pos h]
theorem rd_empty : rd (bytesOf { data := #[] }) = (0, 0) := rfl
theorem but_of_below {p : Nat} {w w' : World} (h : Below w.heap.size w w') : But p w w' := ⟨h.os, h.tape, h.output, h.size, fun k hk _ => h.block k hk⟩
theorem nKept (n f : Int) (w : World) : Calls Try.prog 34 #[.pointer none, .int .i64 n, .int .i64 f] w fun r w' => r = .returned (.bool false) ∧ w' = w := nKeep_any n f w
set_option maxRecDepth 10000 in
set_option maxHeartbeats 2000000 in
theorem wRUint_any (p most : Nat) (st : St) (w : World) (h : WAt w p st) (hs : st.s.size ≤ maxLen) :
    Calls Try.prog 23 #[.pointer (some ⟨p, 0, none⟩), .int .u64 (most : Int)] w fun r w' => r = .returned (.int .u64 (((st.uint most).1 : Nat) : Int)) ∧ WAt w' p (st.uint most).2 ∧ But p w w' := by
  have hfr := wFront_any p st w h
  unfold St.uint
  by_cases he : st.e = 0
  · rw [if_neg (by simp [he])]
    rw [front_ok he] at hfr
    have HFr := hide hfr
    have hnum := fun u => wNumber_any st.s u hs
    have hlen := rd_len st.s
    generalize rd (bytesOf st.s) = R at *
    obtain ⟨x, n⟩ := R
    simp only at *
    by_cases hn : n = 0
    · rw [if_pos hn]
      subst hn
      rw [flt_zero] at hnum
      have HN := hide hnum
      have HK := hide (wKept h (Nat.zero_le _) (by decide) (keep_bad he 0 (f := 8) (by decide)))
      clear hfr hnum h he
      go_enter Try.func23, Try.ntmps23
      go_wp2_with fail
      refine (HFr.out).mono ?_
      rintro e w1 ⟨rfl, rfl⟩
      go_wp2_with fail
      refine (HN.out _).mono ?_
      rintro e w1 ⟨rfl, rfl⟩
      go_wp2_with fail
      refine (hand_u64_false _ _ _ _ _ _ HK.out).mono ?_
      rintro e w2 ⟨rfl, hq⟩
      have HQ := hide hq
      clear hq
      go_wp2
      go_ret
      exact ⟨rfl, HQ.out.1, HQ.out.2⟩
    · rw [if_neg hn]
      have hf : flt n = 0 := by unfold flt; rw [if_neg hn]
      rw [hf] at hnum
      have HN := hide hnum
      by_cases hx : most < x
      · rw [if_pos hx]
        have hxz : (most : Int) < (x : Int) := by omega
        have HK := hide (wKept h hlen (by decide) (keep_bad he n (f := 9) (by decide)))
        clear hfr hnum h he
        go_enter Try.func23, Try.ntmps23
        go_wp2_with fail
        refine (HFr.out).mono ?_
        rintro e w1 ⟨rfl, rfl⟩
        go_wp2_with fail
        refine (HN.out _).mono ?_
        rintro e w1 ⟨rfl, rfl⟩
        go_wp2_with fail
        refine (hand_u64_false _ _ _ _ _ _ HK.out).mono ?_
        rintro e w2 ⟨rfl, hq⟩
        have HQ := hide hq
        clear hq
        go_wp2
        go_ret
        exact ⟨rfl, HQ.out.1, HQ.out.2⟩
      · rw [if_neg hx]
        have hxz : ¬ ((most : Int) < (x : Int)) := by omega
        have HK := hide (wKept h hlen (by decide) (keep_less he n))
        clear hfr hnum h he
        go_enter Try.func23, Try.ntmps23
        go_wp2_with fail
        refine (HFr.out).mono ?_
        rintro e w1 ⟨rfl, rfl⟩
        go_wp2_with fail
        refine (HN.out _).mono ?_
        rintro e w1 ⟨rfl, rfl⟩
        go_wp2_with fail
        refine (hand_u64_true _ _ _ _ _ _ HK.out).mono ?_
        rintro e w2 ⟨rfl, hq⟩
        have HQ := hide hq
        clear hq
        go_wp2
        go_ret
        exact ⟨rfl, HQ.out.1, HQ.out.2⟩
  · rw [if_pos (by simpa using he)]
    rw [front_err he] at hfr
    have HFr := hide hfr
    have HN : Hid (∀ u, Calls Try.prog 35 #[.string { data := #[] }] u fun e w' => e = .returned (.tuple #[.int .u64 0, .int .i64 0, .int .i64 8]) ∧ w' = u) := fun u => wNumber_any { data := #[] } u (by decide)
    have HK := hide (wKept h (Nat.zero_le _) (by decide) (keep_err he 0 8))
    clear hfr h he
    go_enter Try.func23, Try.ntmps23
    go_wp2_with fail
    refine (HFr.out).mono ?_
    rintro e w1 ⟨rfl, rfl⟩
    go_wp2_with fail
    refine (HN.out _).mono ?_
    rintro e w1 ⟨rfl, rfl⟩
    go_wp2_with fail
    refine (hand_u64_false _ _ _ _ _ _ HK.out).mono ?_
    rintro e w2 ⟨rfl, hq⟩
    have HQ := hide hq
    clear hq
    go_wp2
    go_ret
    exact ⟨rfl, HQ.out.1, HQ.out.2⟩
set_option maxRecDepth 10000 in
set_option maxHeartbeats 2000000 in
theorem nRUint_any (most : Int) (w : World) : Calls Try.prog 23 #[.pointer none, .int .u64 most] w fun r w' => r = .returned (.int .u64 0) ∧ w' = w := by
  have HN : Hid (∀ u, Calls Try.prog 35 #[.string { data := #[] }] u fun e w' => e = .returned (.tuple #[.int .u64 0, .int .i64 0, .int .i64 8]) ∧ w' = u) := fun u => wNumber_any { data := #[] } u (by decide)
  go_enter Try.func23, Try.ntmps23
  go_wp2_with fail
  refine (nFront_any w).mono ?_
  rintro e w1 ⟨rfl, rfl⟩
  go_wp2_with fail
  refine (HN.out _).mono ?_
  rintro e w1 ⟨rfl, rfl⟩
  go_wp2_with fail
  refine (hand_u64_false _ _ _ _ _ _ (nKept _ _ _)).mono ?_
  rintro e w2 ⟨rfl, hq⟩
  have HQ := hide hq
  clear hq
  go_wp2
  go_ret
  exact ⟨rfl, HQ.out⟩
set_option maxRecDepth 10000 in
set_option maxHeartbeats 2000000 in
theorem wRInt_any (p : Nat) (least most : Int) (st : St) (w : World) (h : WAt w p st) (hs : st.s.size ≤ maxLen) :
    Calls Try.prog 24 #[.pointer (some ⟨p, 0, none⟩), .int .i64 least, .int .i64 most] w fun r w' => r = .returned (.int .i64 (st.int least most).1) ∧ WAt w' p (st.int least most).2 ∧ But p w w' := by
  have hfr := wFront_any p st w h
  unfold St.int
  by_cases he : st.e = 0
  · rw [if_neg (by simp [he])]
    rw [front_ok he] at hfr
    have HFr := hide hfr
    have hnum := fun u => wNumber_any st.s u hs
    have hlen := rd_len st.s
    have hlt := rd_lt st.s
    generalize rd (bytesOf st.s) = R at *
    obtain ⟨x, n⟩ := R
    simp only at *
    have HW := hide (fun u => wWhole_any x u hlt)
    generalize zag x = z at *
    by_cases hn : n = 0
    · rw [if_pos hn]
      subst hn
      rw [flt_zero] at hnum
      have HN := hide hnum
      have HK := hide (wKept h (Nat.zero_le _) (by decide) (keep_bad he 0 (f := 8) (by decide)))
      clear hfr hnum h he
      go_enter Try.func24, Try.ntmps24
      go_wp2_with fail
      refine (HFr.out).mono ?_
      rintro e w1 ⟨rfl, rfl⟩
      go_wp2_with fail
      refine (HN.out _).mono ?_
      rintro e w1 ⟨rfl, rfl⟩
      go_wp2_with fail
      refine (HW.out _).mono ?_
      rintro e w1 ⟨rfl, rfl⟩
      go_wp2_with fail
      refine (hand_i64_false _ _ _ _ _ _ HK.out).mono ?_
      rintro e w2 ⟨rfl, hq⟩
      have HQ := hide hq
      clear hq
      go_wp2
      go_ret
      exact ⟨rfl, HQ.out.1, HQ.out.2⟩
    · rw [if_neg hn]
      have hf : flt n = 0 := by unfold flt; rw [if_neg hn]
      rw [hf] at hnum
      have HN := hide hnum
      by_cases hx : z < least ∨ most < z
      · rw [if_pos hx]
        have HK := hide (wKept h hlen (by decide) (keep_bad he n (f := 9) (by decide)))
        clear hfr hnum h he
        by_cases hx1 : z < least
        · clear hx
          go_enter Try.func24, Try.ntmps24
          go_wp2_with fail
          refine (HFr.out).mono ?_
          rintro e w1 ⟨rfl, rfl⟩
          go_wp2_with fail
          refine (HN.out _).mono ?_
          rintro e w1 ⟨rfl, rfl⟩
          go_wp2_with fail
          refine (HW.out _).mono ?_
          rintro e w1 ⟨rfl, rfl⟩
          go_wp2_with fail
          refine (hand_i64_false _ _ _ _ _ _ HK.out).mono ?_
          rintro e w2 ⟨rfl, hq⟩
          have HQ := hide hq
          clear hq
          go_wp2
          go_ret
          exact ⟨rfl, HQ.out.1, HQ.out.2⟩
        · have hx2 : most < z := by omega
          clear hx
          go_enter Try.func24, Try.ntmps24
          go_wp2_with fail
          refine (HFr.out).mono ?_
          rintro e w1 ⟨rfl, rfl⟩
          go_wp2_with fail
          refine (HN.out _).mono ?_
          rintro e w1 ⟨rfl, rfl⟩
          go_wp2_with fail
          refine (HW.out _).mono ?_
          rintro e w1 ⟨rfl, rfl⟩
          go_wp2_with fail
          refine (hand_i64_false _ _ _ _ _ _ HK.out).mono ?_
          rintro e w2 ⟨rfl, hq⟩
          have HQ := hide hq
          clear hq
          go_wp2
          go_ret
          exact ⟨rfl, HQ.out.1, HQ.out.2⟩
      · rw [if_neg hx]
        have hx1 : ¬ (z < least) := fun k => hx (Or.inl k)
        have hx2 : ¬ (most < z) := fun k => hx (Or.inr k)
        have HK := hide (wKept h hlen (by decide) (keep_less he n))
        clear hfr hnum h he hx
        go_enter Try.func24, Try.ntmps24
        go_wp2_with fail
        refine (HFr.out).mono ?_
        rintro e w1 ⟨rfl, rfl⟩
        go_wp2_with fail
        refine (HN.out _).mono ?_
        rintro e w1 ⟨rfl, rfl⟩
        go_wp2_with fail
        refine (HW.out _).mono ?_
        rintro e w1 ⟨rfl, rfl⟩
        go_wp2_with fail
        refine (hand_i64_true _ _ _ _ _ _ HK.out).mono ?_
        rintro e w2 ⟨rfl, hq⟩
        have HQ := hide hq
        clear hq
        go_wp2
        go_ret
        exact ⟨rfl, HQ.out.1, HQ.out.2⟩
  · rw [if_pos (by simpa using he)]
    rw [front_err he] at hfr
    have HFr := hide hfr
    have HN : Hid (∀ u, Calls Try.prog 35 #[.string { data := #[] }] u fun e w' => e = .returned (.tuple #[.int .u64 0, .int .i64 0, .int .i64 8]) ∧ w' = u) := fun u => wNumber_any { data := #[] } u (by decide)
    have HW : Hid (∀ u, Calls Try.prog 38 #[.int .u64 0] u fun e w' => e = .returned (.int .i64 0) ∧ w' = u) := fun u => wWhole_any 0 u (by decide)
    have HK := hide (wKept h (Nat.zero_le _) (by decide) (keep_err he 0 8))
    clear hfr h he
    go_enter Try.func24, Try.ntmps24
    go_wp2_with fail
    refine (HFr.out).mono ?_
    rintro e w1 ⟨rfl, rfl⟩
    go_wp2_with fail
    refine (HN.out _).mono ?_
    rintro e w1 ⟨rfl, rfl⟩
    go_wp2_with fail
    refine (HW.out _).mono ?_
    rintro e w1 ⟨rfl, rfl⟩
    go_wp2_with fail
    refine (hand_i64_false _ _ _ _ _ _ HK.out).mono ?_
    rintro e w2 ⟨rfl, hq⟩
    have HQ := hide hq
    clear hq
    go_wp2
    go_ret
    exact ⟨rfl, HQ.out.1, HQ.out.2⟩
set_option maxRecDepth 10000 in
set_option maxHeartbeats 2000000 in
theorem nRInt_any (least most : Int) (w : World) : Calls Try.prog 24 #[.pointer none, .int .i64 least, .int .i64 most] w fun r w' => r = .returned (.int .i64 0) ∧ w' = w := by
  have HN : Hid (∀ u, Calls Try.prog 35 #[.string { data := #[] }] u fun e w' => e = .returned (.tuple #[.int .u64 0, .int .i64 0, .int .i64 8]) ∧ w' = u) := fun u => wNumber_any { data := #[] } u (by decide)
  have HW : Hid (∀ u, Calls Try.prog 38 #[.int .u64 0] u fun e w' => e = .returned (.int .i64 0) ∧ w' = u) := fun u => wWhole_any 0 u (by decide)
  go_enter Try.func24, Try.ntmps24
  go_wp2_with fail
  refine (nFront_any w).mono ?_
  rintro e w1 ⟨rfl, rfl⟩
  go_wp2_with fail
  refine (HN.out _).mono ?_
  rintro e w1 ⟨rfl, rfl⟩
  go_wp2_with fail
  refine (HW.out _).mono ?_
  rintro e w1 ⟨rfl, rfl⟩
  go_wp2_with fail
  refine (hand_i64_false _ _ _ _ _ _ (nKept _ _ _)).mono ?_
  rintro e w2 ⟨rfl, hq⟩
  have HQ := hide hq
  clear hq
  go_wp2
  go_ret
  exact ⟨rfl, HQ.out⟩
theorem cnt3_le (s : ByteArray) (most : Int) : (cnt3 s most).2.1 + (cnt3 s most).1 ≤ s.size := by
  have hl := rd_len s
  unfold cnt3
  split
  · simp
  · split
    · simp
    · split
      · simp
      · simp only; omega
theorem cnt3_fault (s : ByteArray) (most : Int) : (cnt3 s most).2.2 ≠ 1 := by
  unfold cnt3
  split
  · simp
  · split
    · simp
    · split <;> simp
/-- What count0 is, said of the bytes. -/
theorem count0_ok {st : St} (he : st.e = 0) (most : Int) : st.count0 most = if (cnt3 st.s most).2.2 = 0 then (some ((cnt3 st.s most).1, (cnt3 st.s most).2.1), st) else (none, st.bad (cnt3 st.s most).2.2) := by
  unfold St.count0 cnt3
  rw [if_neg (by simp [he])]
  split
  · simp
  · split
    · simp
    · split
      · simp
      · simp
theorem count0_err {st : St} (he : st.e ≠ 0) (most : Int) : st.count0 most = (none, st) := by unfold St.count0; rw [if_pos he]
theorem count_empty (most : Int) (u : World) (hm : most ≤ 9223372036854775807) : Calls Try.prog 40 #[.string { data := #[] }, .int .i64 most] u fun e w' => e = .returned (.tuple #[.int .i64 0, .int .i64 0, .int .i64 8]) ∧ w' = u := wCount_any { data := #[] } most u (by decide) hm
theorem cnt3_zero (s : ByteArray) (most : Int) (h : (cnt3 s most).2.2 ≠ 0) : (cnt3 s most).1 = 0 ∧ (cnt3 s most).2.1 = 0 := by
  unfold cnt3 at h ⊢
  split
  · exact ⟨rfl, rfl⟩
  · split
    · exact ⟨rfl, rfl⟩
    · split
      · exact ⟨rfl, rfl⟩
      · rename_i a b c
        rw [if_neg a, if_neg b, if_neg c] at h
        exact absurd rfl h
set_option maxRecDepth 10000 in
set_option maxHeartbeats 2000000 in
theorem wRCount_any (p : Nat) (most : Int) (st : St) (w : World) (h : WAt w p st) (hs : st.s.size ≤ maxLen) (hm : most ≤ 9223372036854775807) :
    Calls Try.prog 26 #[.pointer (some ⟨p, 0, none⟩), .int .i64 most] w fun r w' => r = .returned (.int .i64 (((st.count most).1 : Nat) : Int)) ∧ WAt w' p (st.count most).2 ∧ But p w w' := by
  have hfr := wFront_any p st w h
  unfold St.count
  by_cases he : st.e = 0
  · rw [count0_ok he]
    rw [front_ok he] at hfr
    have HFr := hide hfr
    have hc := fun u => wCount_any st.s most u hs hm
    have hle := cnt3_le st.s most
    have hf1 := cnt3_fault st.s most
    have hf0 := cnt3_zero st.s most
    generalize cnt3 st.s most = R at *
    obtain ⟨x, n, f⟩ := R
    simp only at *
    by_cases hf : f = 0
    · rw [if_pos hf]
      subst hf
      have HC := hide hc
      have HK := hide (wKept h (n := n) (by omega) (by decide) (keep_less he n))
      clear hfr hc h he hf1 hf0
      go_enter Try.func26, Try.ntmps26
      go_wp2_with fail
      refine (HFr.out).mono ?_
      rintro e w1 ⟨rfl, rfl⟩
      go_wp2_with fail
      refine (HC.out _).mono ?_
      rintro e w1 ⟨rfl, rfl⟩
      go_wp2_with fail
      refine (hand_int_true _ _ _ _ _ _ HK.out).mono ?_
      rintro e w2 ⟨rfl, hq⟩
      have HQ := hide hq
      clear hq
      go_wp2
      go_ret
      exact ⟨rfl, HQ.out.1, HQ.out.2⟩
    · rw [if_neg hf]
      obtain ⟨rfl, rfl⟩ := hf0 hf
      have HC := hide hc
      have HK := hide (wKept h (Nat.zero_le _) hf1 (keep_bad he 0 hf))
      clear hfr hc h he hf1 hf0 hf
      go_enter Try.func26, Try.ntmps26
      go_wp2_with fail
      refine (HFr.out).mono ?_
      rintro e w1 ⟨rfl, rfl⟩
      go_wp2_with fail
      refine (HC.out _).mono ?_
      rintro e w1 ⟨rfl, rfl⟩
      go_wp2_with fail
      refine (hand_int_false _ _ _ _ _ _ HK.out).mono ?_
      rintro e w2 ⟨rfl, hq⟩
      have HQ := hide hq
      clear hq
      go_wp2
      go_ret
      exact ⟨rfl, HQ.out.1, HQ.out.2⟩
  · rw [count0_err he]
    rw [front_err he] at hfr
    have HFr := hide hfr
    have HC := hide (fun u => count_empty most u hm)
    have HK := hide (wKept h (Nat.zero_le _) (by decide) (keep_err he 0 8))
    clear hfr h he
    go_enter Try.func26, Try.ntmps26
    go_wp2_with fail
    refine (HFr.out).mono ?_
    rintro e w1 ⟨rfl, rfl⟩
    go_wp2_with fail
    refine (HC.out _).mono ?_
    rintro e w1 ⟨rfl, rfl⟩
    go_wp2_with fail
    refine (hand_int_false _ _ _ _ _ _ HK.out).mono ?_
    rintro e w2 ⟨rfl, hq⟩
    have HQ := hide hq
    clear hq
    go_wp2
    go_ret
    exact ⟨rfl, HQ.out.1, HQ.out.2⟩
set_option maxRecDepth 10000 in
set_option maxHeartbeats 2000000 in
theorem nRCount_any (most : Int) (w : World) (hm : most ≤ 9223372036854775807) : Calls Try.prog 26 #[.pointer none, .int .i64 most] w fun r w' => r = .returned (.int .i64 0) ∧ w' = w := by
  have HC := hide (fun u => count_empty most u hm)
  go_enter Try.func26, Try.ntmps26
  go_wp2_with fail
  refine (nFront_any w).mono ?_
  rintro e w1 ⟨rfl, rfl⟩
  go_wp2_with fail
  refine (HC.out _).mono ?_
  rintro e w1 ⟨rfl, rfl⟩
  go_wp2_with fail
  refine (hand_int_false _ _ _ _ _ _ (nKept _ _ _)).mono ?_
  rintro e w2 ⟨rfl, hq⟩
  have HQ := hide hq
  clear hq
  go_wp2
  go_ret
  exact ⟨rfl, HQ.out⟩
theorem WAt.below {w w' : World} {p : Nat} {st : St} (h : WAt w p st) (hb : Below w.heap.size w w') : WAt w' p st := h.frame (hb.block p h.lt)
set_option maxRecDepth 10000 in
set_option maxHeartbeats 2000000 in
theorem wRText_any (p : Nat) (most : Int) (st : St) (w : World) (h : WAt w p st) (hs : st.s.size ≤ 140737488351232) (hm : most ≤ 9223372036854775807) :
    Calls Try.prog 25 #[.pointer (some ⟨p, 0, none⟩), .int .i64 most] w fun r w' => r = .returned (.string (st.text most).1) ∧ WAt w' p (st.text most).2 ∧ But p w w' := by
  have hfr := wFront_any p st w h
  unfold St.text
  by_cases he : st.e = 0
  · rw [count0_ok he]
    rw [front_ok he] at hfr
    have HFr := hide hfr
    have hc := fun u => wCount_any st.s most u (by unfold maxLen; omega) hm
    have hle := cnt3_le st.s most
    have hf1 := cnt3_fault st.s most
    have hf0 := cnt3_zero st.s most
    generalize cnt3 st.s most = R at *
    obtain ⟨x, n, f⟩ := R
    simp only at *
    by_cases hf : f = 0
    · rw [if_pos hf]
      subst hf
      have HC := hide hc
      have HCl := hide (fun u => clone_any (st.s.extract n (n + x)) u (by simp only [ByteArray.size_extract]; omega))
      have HK := hide (fun u (hb : Below w.heap.size w u) => wKept (h.below hb) (n := n + x) hle (by decide) (keep_less he (n + x)))
      have hle2 : (n : Int) + (x : Int) ≤ (st.s.size : Int) := by omega
      have e1 : ((n + x : Nat) : Int) = (n : Int) + (x : Int) := by omega
      rw [e1] at HK
      clear hfr hc h he hf1 hf0 e1
      go_enter Try.func25, Try.ntmps25
      go_wp2_with fail
      refine (HFr.out).mono ?_
      rintro e w1 ⟨rfl, rfl⟩
      go_wp2_with fail
      refine (HC.out _).mono ?_
      rintro e w1 ⟨rfl, rfl⟩
      go_wp2_with fail
      refine (HCl.out _).mono ?_
      rintro e w2 ⟨rfl, hb⟩
      have HB := hide hb
      clear hb
      go_wp2_with fail
      refine (hand_str_true _ _ _ _ _ _ (HK.out _ HB.out)).mono ?_
      rintro e w3 ⟨rfl, hq⟩
      have HQ := hide hq
      clear hq
      go_wp2
      go_ret
      exact ⟨rfl, HQ.out.1, (but_of_below HB.out).trans HQ.out.2⟩
    · rw [if_neg hf]
      obtain ⟨rfl, rfl⟩ := hf0 hf
      have HC := hide hc
      have HCl := hide (fun u => clone_any { data := #[] } u (by decide))
      have HK := hide (fun u (hb : Below w.heap.size w u) => wKept (h.below hb) (n := 0) (Nat.zero_le _) hf1 (keep_bad he 0 hf))
      clear hfr hc h he hf1 hf0 hf
      go_enter Try.func25, Try.ntmps25
      go_wp2_with fail
      refine (HFr.out).mono ?_
      rintro e w1 ⟨rfl, rfl⟩
      go_wp2_with fail
      refine (HC.out _).mono ?_
      rintro e w1 ⟨rfl, rfl⟩
      go_wp2_with fail
      refine (HCl.out _).mono ?_
      rintro e w2 ⟨rfl, hb⟩
      have HB := hide hb
      clear hb
      go_wp2_with fail
      refine (hand_str_false _ _ _ _ _ _ (HK.out _ HB.out)).mono ?_
      rintro e w3 ⟨rfl, hq⟩
      have HQ := hide hq
      clear hq
      go_wp2
      go_ret
      exact ⟨rfl, HQ.out.1, (but_of_below HB.out).trans HQ.out.2⟩
  · rw [count0_err he]
    rw [front_err he] at hfr
    have HFr := hide hfr
    have HC := hide (fun u => count_empty most u hm)
    have HCl := hide (fun u => clone_any { data := #[] } u (by decide))
    have HK := hide (fun u (hb : Below w.heap.size w u) => wKept (h.below hb) (Nat.zero_le _) (by decide) (keep_err he 0 8))
    clear hfr h he
    go_enter Try.func25, Try.ntmps25
    go_wp2_with fail
    refine (HFr.out).mono ?_
    rintro e w1 ⟨rfl, rfl⟩
    go_wp2_with fail
    refine (HC.out _).mono ?_
    rintro e w1 ⟨rfl, rfl⟩
    go_wp2_with fail
    refine (HCl.out _).mono ?_
    rintro e w2 ⟨rfl, hb⟩
    have HB := hide hb
    clear hb
    go_wp2_with fail
    refine (hand_str_false _ _ _ _ _ _ (HK.out _ HB.out)).mono ?_
    rintro e w3 ⟨rfl, hq⟩
    have HQ := hide hq
    clear hq
    go_wp2
    go_ret
    exact ⟨rfl, HQ.out.1, (but_of_below HB.out).trans HQ.out.2⟩
set_option maxRecDepth 10000 in
set_option maxHeartbeats 2000000 in
theorem nRText_any (most : Int) (w : World) (hm : most ≤ 9223372036854775807) : Calls Try.prog 25 #[.pointer none, .int .i64 most] w fun r w' => r = .returned (.string { data := #[] }) ∧ Below w.heap.size w w' := by
  have HC := hide (fun u => count_empty most u hm)
  have HCl := hide (fun u => clone_any { data := #[] } u (by decide))
  go_enter Try.func25, Try.ntmps25
  go_wp2_with fail
  refine (nFront_any w).mono ?_
  rintro e w1 ⟨rfl, rfl⟩
  go_wp2_with fail
  refine (HC.out _).mono ?_
  rintro e w1 ⟨rfl, rfl⟩
  go_wp2_with fail
  refine (HCl.out _).mono ?_
  rintro e w2 ⟨rfl, hb⟩
  have HB := hide hb
  clear hb
  go_wp2_with fail
  refine (hand_str_false _ _ _ _ _ _ (nKept _ _ _)).mono ?_
  rintro e w3 ⟨rfl, hq⟩
  have HQ := hide hq
  clear hq
  go_wp2
  go_ret
  exact ⟨rfl, by rw [HQ.out]; exact HB.out⟩
set_option maxRecDepth 10000 in
set_option maxHeartbeats 2000000 in
theorem wRBool_any (p : Nat) (st : St) (w : World) (h : WAt w p st) (hs : st.s.size ≤ maxLen) :
    Calls Try.prog 27 #[.pointer (some ⟨p, 0, none⟩)] w fun r w' => r = .returned (.bool st.bool.1) ∧ WAt w' p st.bool.2 ∧ But p w w' := by
  have hfr := wFront_any p st w h
  unfold maxLen at hs
  unfold St.bool
  by_cases he : st.e = 0
  · rw [if_neg (by simp [he])]
    rw [front_ok he] at hfr
    have hk8 := wKept h (Nat.zero_le _) (by decide) (keep_bad he 0 (f := 8) (by decide))
    by_cases hz : st.s.size = 0
    · have hl : bytesOf st.s = [] := List.length_eq_zero_iff.1 (by rw [bytesOf_length]; exact hz)
      rw [hl]
      have hse : st.s = { data := #[] } := by
        apply ByteArray.ext
        exact Array.eq_empty_of_size_eq_zero hz
      rw [hse] at hfr
      have HFr := hide hfr
      have HK := hide hk8
      clear hfr hk8 h he hse
      go_enter Try.func27, Try.ntmps27
      go_wp2_with fail
      refine (HFr.out).mono ?_
      rintro e w1 ⟨rfl, rfl⟩
      go_wp2_with fail
      refine (hand_bool_false _ _ _ _ _ _ HK.out).mono ?_
      rintro e w2 ⟨rfl, hq⟩
      have HQ := hide hq
      clear hq
      go_wp2
      go_ret
      exact ⟨rfl, HQ.out.1, HQ.out.2⟩
    · have hpos : 0 < st.s.size := by omega
      have HFr := hide hfr
      rw [bytesOf_cons hpos]
      have hse := not_empty hz
      simp only
      by_cases hc : 1 < st.s[0].toNat
      · rw [if_pos hc]
        have hcz : (1 : Int) < ((st.s[0].toNat : Nat) : Int) := by omega
        have HK := hide hk8
        clear hfr hk8 h he hc
        go_enter Try.func27, Try.ntmps27
        go_wp2_with fail
        refine (HFr.out).mono ?_
        rintro e w1 ⟨rfl, rfl⟩
        go_wp2_with fail
        refine (hand_bool_false _ _ _ _ _ _ HK.out).mono ?_
        rintro e w2 ⟨rfl, hq⟩
        have HQ := hide hq
        clear hq
        go_wp2
        go_ret
        exact ⟨rfl, HQ.out.1, HQ.out.2⟩
      · rw [if_neg hc]
        have hcz : ¬ ((1 : Int) < ((st.s[0].toNat : Nat) : Int)) := by omega
        have HK := hide (wKept h (n := 1) hpos (by decide) (keep_less he 1))
        clear hfr hk8 h he hc
        go_enter Try.func27, Try.ntmps27
        go_wp2_with fail
        refine (HFr.out).mono ?_
        rintro e w1 ⟨rfl, rfl⟩
        go_wp2_with fail
        refine (hand_bool_true _ _ _ _ _ _ HK.out).mono ?_
        rintro e w2 ⟨rfl, hq⟩
        have HQ := hide hq
        clear hq
        go_wp2
        go_ret
        exact ⟨congrArg (fun x => Ending.returned (.bool x)) (by rw [Bool.eq_iff_iff]; simp; omega), HQ.out.1, HQ.out.2⟩
  · rw [if_pos (by simpa using he)]
    rw [front_err he] at hfr
    have HFr := hide hfr
    have HK := hide (wKept h (Nat.zero_le _) (by decide) (keep_err he 0 8))
    clear hfr h he
    go_enter Try.func27, Try.ntmps27
    go_wp2_with fail
    refine (HFr.out).mono ?_
    rintro e w1 ⟨rfl, rfl⟩
    go_wp2_with fail
    refine (hand_bool_false _ _ _ _ _ _ HK.out).mono ?_
    rintro e w2 ⟨rfl, hq⟩
    have HQ := hide hq
    clear hq
    go_wp2
    go_ret
    exact ⟨rfl, HQ.out.1, HQ.out.2⟩
set_option maxRecDepth 10000 in
set_option maxHeartbeats 2000000 in
theorem nRBool_any (w : World) : Calls Try.prog 27 #[.pointer none] w fun r w' => r = .returned (.bool false) ∧ w' = w := by
  go_enter Try.func27, Try.ntmps27
  go_wp2_with fail
  refine (nFront_any w).mono ?_
  rintro e w1 ⟨rfl, rfl⟩
  go_wp2_with fail
  refine (hand_bool_false _ _ _ _ _ _ (nKept _ _ _)).mono ?_
  rintro e w2 ⟨rfl, hq⟩
  have HQ := hide hq
  clear hq
  go_wp2
  go_ret
  exact ⟨rfl, HQ.out⟩
set_option maxRecDepth 10000 in
set_option maxHeartbeats 2000000 in
theorem wREnd_any (p : Nat) (st : St) (w : World) (h : WAt w p st) :
    Calls Try.prog 22 #[.pointer (some ⟨p, 0, none⟩)] w fun r w' => r = .returned (.int .i64 ((st.end_.1 : Nat) : Int)) ∧ WAt w' p st.end_.2 ∧ But p w w' := by
  have HL := hide (wLeft_any p st w h)
  unfold St.end_
  by_cases hz : st.s.size = 0
  · rw [if_neg (by simp [hz])]
    have hz' : ¬ ((0 : Int) < (st.s.size : Int)) := by omega
    have HE := hide (wErr_any p st w h)
    have H := hide h
    clear h hz
    go_enter Try.func22, Try.ntmps22
    go_wp2_with fail
    refine HL.out.mono ?_
    rintro e w1 ⟨rfl, rfl⟩
    go_wp2_with fail
    refine HE.out.mono ?_
    rintro e w2 ⟨rfl, rfl⟩
    go_wp2
    go_ret
    exact ⟨rfl, H.out, But.refl _ _⟩
  · have hz' : (0 : Int) < (st.s.size : Int) := by omega
    have key : ∀ b st', st.keep 0 8 = (b, st') → (if st.e = 0 ∧ st.s.size ≠ 0 then (8, st.bad 8) else (st.e, st)) = (st'.e, st') := by
      intro b st' hk
      by_cases he : st.e = 0
      · rw [if_pos ⟨he, hz⟩]
        rw [keep_bad he 0 (f := 8) (by decide)] at hk
        cases hk; rfl
      · rw [if_neg (fun k => he k.1)]
        rw [keep_err he] at hk
        cases hk; rfl
    cases hk : st.keep 0 8 with
    | mk b st' =>
      rw [key b st' hk]
      have HK := hide (wKept h (Nat.zero_le _) (by decide) hk)
      clear h hk key hz
      go_enter Try.func22, Try.ntmps22
      go_wp2_with fail
      refine HL.out.mono ?_
      rintro e w1 ⟨rfl, rfl⟩
      go_wp2_with fail
      refine HK.out.mono ?_
      rintro e w2 ⟨rfl, hq⟩
      have HQ := hide hq
      clear hq
      go_wp2_with fail
      refine (wErr_any p st' w2 HQ.out.1).mono ?_
      rintro e w3 ⟨rfl, rfl⟩
      go_wp2
      go_ret
      exact ⟨rfl, HQ.out.1, HQ.out.2⟩
set_option maxHeartbeats 2000000 in
theorem nREnd_any (w : World) : Calls Try.prog 22 #[.pointer none] w fun r w' => r = .returned (.int .i64 1) ∧ w' = w := by
  go_enter Try.func22, Try.ntmps22
  go_wp2_with fail
  refine (nLeft_any w).mono ?_
  rintro e w1 ⟨rfl, rfl⟩
  go_wp2_with fail
  refine (nErr_any _).mono ?_
  rintro e w2 ⟨rfl, rfl⟩
  go_wp2
  go_ret
  exact ⟨rfl, rfl⟩
/-- The program's functions are what the laws ask. -/
theorem con : Con WAt where
  lt := WAt.lt
  frame := WAt.frame
  new := fun s u _ => wNew_any s u
  uint := fun p most st u h hs _ => wRUint_any p most st u h (by unfold maxLen; omega)
  int := fun p least most st u h hs _ _ => wRInt_any p least most st u h (by unfold maxLen; omega)
  text := fun p most st u h hs hm => wRText_any p most st u h hs hm.2
  count := fun p most st u h hs hm => wRCount_any p most st u h (by unfold maxLen; omega) hm.2
  bool := fun p st u h hs => wRBool_any p st u h (by unfold maxLen; omega)
  left := fun p st u h _ => (wLeft_any p st u h).mono fun _ _ k => ⟨k.1, by rw [k.2]; exact Below.refl _ _⟩
  err := fun p st u h => (wErr_any p st u h).mono fun _ _ k => ⟨k.1, by rw [k.2]; exact Below.refl _ _⟩
  end_ := fun p st u h _ => wREnd_any p st u h
  wuint := fun x u hx => wUint_any x u hx
  wint := fun x u hx => wInt_any x u hx
  wtext := fun s u hs => wText_any s u hs
  wbool := fun b u => wBool_any b u
  nuint := fun most u _ => (nRUint_any most u).mono fun _ _ k => ⟨k.1, by rw [k.2]; exact Below.refl _ _⟩
  nint := fun u => (nRInt_any (-1) 1 u).mono fun _ _ k => ⟨k.1, by rw [k.2]; exact Below.refl _ _⟩
  ntext := fun u => nRText_any 5 u (by decide)
  ncount := fun u => (nRCount_any 5 u (by decide)).mono fun _ _ k => ⟨k.1, by rw [k.2]; exact Below.refl _ _⟩
  nbool := fun u => (nRBool_any u).mono fun _ _ k => ⟨k.1, by rw [k.2]; exact Below.refl _ _⟩
  nleft := fun u => (nLeft_any u).mono fun _ _ k => ⟨k.1, by rw [k.2]; exact Below.refl _ _⟩
  nerr := fun u => (nErr_any u).mono fun _ _ k => ⟨k.1, by rw [k.2]; exact Below.refl _ _⟩
  nend := fun u => (nREnd_any u).mono fun _ _ k => ⟨k.1, by rw [k.2]; exact Below.refl _ _⟩
end Go.Proofs.Ytodndkmpjpiidaa
