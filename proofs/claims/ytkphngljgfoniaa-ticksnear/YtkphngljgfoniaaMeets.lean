/- The program's clocks meet what the laws ask. -/
import Derived.Test.YtkphngljgfoniaaRefTick
import Derived.Test.YtkphngljgfoniaaHand
namespace Go.Proofs.Ytkphngljgfoniaa
open Go Go.RowKit

/-- The program's clocks lie at block p, their times in block g, their bound in the closure's box q. -/
structure CAt (u : World) (p g q k : Nat) (c : Ck) : Prop where
  head : u.heap[p]? = some (.cells #[.slice (some ⟨g, 0, none⟩) c.t.length k, .func (.func 18) #[] #[.pointer (some ⟨q, 0, none⟩)], .bool (decide (c.b < c.m))] 44 (0, 0))
  row : NumsAt u g k c.t
  box : u.heap[q]? = some (.cells #[.int .i64 c.b] 2 (0, 0))
  ne : q ≠ g
def CF (p g q : Nat) (k : Nat) : Prop := k = p ∨ k = g ∨ k = q
theorem CAt.lt {u : World} {p g q k : Nat} {c : Ck} (h : CAt u p g q k c) : p < u.heap.size ∧ g < u.heap.size ∧ q < u.heap.size := ⟨(Array.getElem?_eq_some_iff.1 h.head).1, h.row.lt, (Array.getElem?_eq_some_iff.1 h.box).1⟩
theorem CAt.same {u v : World} {p g q k : Nat} {c : Ck} (h : CAt u p g q k c) (hp : v.heap[p]? = u.heap[p]?) (hg : v.heap[g]? = u.heap[g]?) (hq : v.heap[q]? = u.heap[q]?) : CAt v p g q k c := ⟨hp.trans h.head, h.row.same hg, hq.trans h.box, h.ne⟩
theorem CAt.below {u v : World} {p g q k : Nat} {c : Ck} (h : CAt u p g q k c) (hb : Below u.heap.size u v) : CAt v p g q k c := h.same (hb.block p h.lt.1) (hb.block g h.lt.2.1) (hb.block q h.lt.2.2)
theorem CAt.drew {u : World} {p g q k : Nat} {c : Ck} (h : CAt u p g q k c) : CAt u.drew p g q k c := h.same rfl rfl rfl
theorem CAt.cell0 {u : World} {p g q k : Nat} {c : Ck} (h : CAt u p g q k c) : u.cell? ⟨p, 0, none⟩ = some (.slice (some ⟨g, 0, none⟩) c.t.length k) := by simp [World.cell?, h.head]
theorem CAt.cell1 {u : World} {p g q k : Nat} {c : Ck} (h : CAt u p g q k c) : u.cell? ⟨p, 1, none⟩ = some (.func (.func 18) #[] #[.pointer (some ⟨q, 0, none⟩)]) := by simp [World.cell?, h.head]
theorem CAt.cell2 {u : World} {p g q k : Nat} {c : Ck} (h : CAt u p g q k c) : u.cell? ⟨p, 2, none⟩ = some (.bool (decide (c.b < c.m))) := by simp [World.cell?, h.head]
theorem CAt.cellq {u : World} {p g q k : Nat} {c : Ck} (h : CAt u p g q k c) : u.cell? ⟨q, 0, none⟩ = some (.int .i64 c.b) := by simp [World.cell?, h.box]
theorem CAt.free {u : World} {p g q k : Nat} {c : Ck} (h : CAt u p g q k c) (i : Nat) : u.frozen? ⟨p, i, none⟩ = false := by simp [World.frozen?, h.head]
theorem CAt.pg {u : World} {p g q k : Nat} {c : Ck} (h : CAt u p g q k c) : p ≠ g := fun e => by
  obtain ⟨cur, hc⟩ := row_type h.row (g := g) rfl
  rw [← e, h.head] at hc
  cases hc
theorem CAt.pq {u : World} {p g q k : Nat} {c : Ck} (h : CAt u p g q k c) : p ≠ q := fun e => by
  have := h.box
  rw [← e, h.head] at this
  cases this
theorem CAt.setTime {u : World} {p g q k : Nat} {c : Ck} (h : CAt u p g q k c) (i : Nat) (x : Int) : CAt (u.setCell ⟨g, i, none⟩ (.int .i64 x)) p g q k ⟨c.t.set i x, c.b, c.m⟩ := by
  refine ⟨?_, h.row.set i x, ?_, h.ne⟩
  · have hb := Below.heap_setCell u ⟨g, i, none⟩ (.int .i64 x) p h.pg
    show (u.setCell ⟨g, i, none⟩ (.int .i64 x)).heap[p]? = _
    rw [hb, h.head]
    simp
  · have hb := Below.heap_setCell u ⟨g, i, none⟩ (.int .i64 x) q h.ne
    show (u.setCell ⟨g, i, none⟩ (.int .i64 x)).heap[q]? = _
    rw [hb, h.box]
theorem CAt.setMost {u : World} {p g q k : Nat} {c : Ck} (h : CAt u p g q k c) (x : Int) (t : Bool) (ht : t = decide (c.b < x)) : CAt (u.setCell ⟨p, 2, none⟩ (.bool t)) p g q k ⟨c.t, c.b, x⟩ := by
  subst ht
  exact ⟨by rw [heap_set3 h.head]; rfl, h.row.same (Below.heap_setCell u ⟨p, 2, none⟩ _ g (Ne.symm h.pg)), (Below.heap_setCell u ⟨p, 2, none⟩ _ q (Ne.symm h.pq)).trans h.box, h.ne⟩
theorem mayBe_any (t : Int) (w : World) : Calls Try.prog 17 #[.int .i64 t] w fun e w' => e = .returned (.bool (decide (0 ≤ t ∧ t ≤ 17592186044416))) ∧ w' = w := by
  by_cases h1 : 0 ≤ t
  · by_cases h2 : t ≤ 17592186044416
    · rw [decide_eq_true ⟨h1, h2⟩]
      go_enter Try.func17, Try.ntmps17
      go_wp2
      go_ret
      exact ⟨rfl, rfl⟩
    · rw [decide_eq_false (fun h => h2 h.2)]
      go_enter Try.func17, Try.ntmps17
      go_wp2
      go_ret
      exact ⟨rfl, rfl⟩
  · rw [decide_eq_false (fun h => h1 h.1)]
    go_enter Try.func17, Try.ntmps17
    go_wp2
    go_ret
    exact ⟨rfl, rfl⟩
theorem len_nil (w : World) : Calls Try.prog 10 #[.pointer none] w fun e w' => e = .returned (.int .i64 0) ∧ w' = w := by
  go_enter Try.func10, Try.ntmps10
  go_wp2
  go_ret
  exact ⟨rfl, rfl⟩
theorem len_at (p g q k : Nat) (c : Ck) (w : World) (h : CAt w p g q k c) : Calls Try.prog 10 #[.pointer (some ⟨p, 0, none⟩)] w fun e w' => e = .returned (.int .i64 (c.t.length : Int)) ∧ w' = w := by
  have h0 := h.cell0
  clear h
  generalize c.t.length = n at *
  go_enter Try.func10, Try.ntmps10
  go_wp2
  go_ret
  exact ⟨rfl, rfl⟩
theorem later_any (a b : Int) (w : World) : Calls Try.prog 20 #[.int .i64 a, .int .i64 b] w fun e w' => e = .returned (.int .i64 (max a b)) ∧ w' = w := by
  have hm : (if a < b then b else a) = max a b := max_if a b
  generalize max a b = m at *
  go_enter Try.func20, Try.ntmps20
  go_wp2
  go_ret
  exact ⟨rfl, rfl⟩
theorem earlier_any (a b : Int) (w : World) : Calls Try.prog 21 #[.int .i64 a, .int .i64 b] w fun e w' => e = .returned (.int .i64 (min a b)) ∧ w' = w := by
  have hm : (if b < a then b else a) = min a b := by split <;> omega
  generalize min a b = m at *
  go_enter Try.func21, Try.ntmps21
  go_wp2
  go_ret
  exact ⟨rfl, rfl⟩
theorem tooFar_any (q : Nat) (x b : Int) (w : World) (h : w.cell? ⟨q, 0, none⟩ = some (.int .i64 b)) : Calls Try.prog 18 #[.int .i64 x, .pointer (some ⟨q, 0, none⟩)] w fun e w' => e = .returned (.bool (decide (b < x))) ∧ w' = w := by
  go_enter Try.func18, Try.ntmps18
  go_wp2
  go_ret
  exact ⟨rfl, rfl⟩
set_option maxHeartbeats 1000000 in
theorem oneOf_high (p g q k : Nat) (c : Ck) (w : World) (h : CAt w p g q k c) (hsome : 1 ≤ c.t.length) (hfew : c.t.length ≤ 128) : Calls Try.prog 19 #[.pointer (some ⟨p, 0, none⟩), .func (.func 20) #[] #[]] w fun e w' => e = .returned (.int .i64 (high (c.t.headD 0) c.t)) ∧ w' = w := by
  have h0 := h.cell0
  have hN := hide h.row
  have hx := h.row.cell 0 hsome
  have hcap : c.t.length ≤ k := by
    rcases h.row.2 with ⟨h1, _⟩ | ⟨g', cap, cur, h1, _, _, hn, _⟩
    · cases h1
    · cases h1; exact hn
  rw [← head_at (by have := hsome; omega)] at hx
  have h1 := hsome
  have h2 := hfew
  have HA : Hid (high (c.t.headD 0) c.t = high (c.t.headD 0) (c.t.take c.t.length)) := by rw [List.take_length]; exact rfl
  have HB : Hid (high (c.t.headD 0) (c.t.take 1) = c.t.headD 0) := by
    unfold Hid
    have e := high_next (c.t.headD 0) c.t 0 h1
    rw [e, ← head_at (by omega)]
    show max (c.t.headD 0) (c.t.headD 0) = _
    omega
  clear h
  generalize c.t.headD 0 = x at *
  generalize high x c.t = A at *
  generalize c.t = t at *
  obtain ⟨n, hn⟩ : ∃ n, t.length = n + 1 := ⟨t.length - 1, by omega⟩
  have HN := hide hn
  rw [hn] at h0
  rw [hn] at hcap h2
  obtain ⟨kk, rfl⟩ : ∃ kk, k = kk + 1 := ⟨k - 1, by omega⟩
  clear hn h1
  by_cases hn0 : n = 0
  · subst hn0
    have HA2 := HA.out
    rw [HN.out, HB.out] at HA2
    clear HA HB
    subst HA2
    go_enter Try.func19, Try.ntmps19
    go_wp2_with fail
    all_goals
      go_loop [5, 7, 20] (fun a _ i => i = .int .i64 0 ∧ a = .int .i64 A) (fun _ _ _ => 0)
      case atStart => exact ⟨rfl, rfl⟩
      case round =>
        obtain ⟨rfl, rfl⟩ := hrel
        go_wp2_with fail
        go_ret
        exact ⟨rfl, rfl⟩
  have hk : ¬ kk = 0 := by omega
  go_enter Try.func19, Try.ntmps19
  go_wp2_with fail
  go_loop [5, 7, 20] (fun a _ i => ∃ j : Nat, j ≤ n ∧ i = .int .i64 (j : Int) ∧ a = .int .i64 (high x (t.take (j + 1)))) (fun _ _ i => n - (intOf i).toNat)
  case atStart => exact ⟨0, Nat.zero_le _, rfl, by rw [HB.out]⟩
  case round =>
    obtain ⟨j, hj, rfl, rfl⟩ := hrel
    by_cases hlt : j < n
    · have e1 := hN.out.cell (1 + j) (by have := HN.out; omega)
      have HL : Hid (high x (t.take (j + 1 + 1)) = max (high x (t.take (j + 1))) (t[1 + j]'(by have := HN.out; omega))) := by
        have e := high_next x t (j + 1) (by have := HN.out; omega)
        unfold Hid
        rw [e]
        congr 2
        omega
      generalize high x (t.take (j + 1)) = hi at *
      generalize t[1 + j]'(by have := HN.out; omega) = y at *
      go_wp2_with (go_at_call 20; refine (later_any _ _ _).mono ?_; rintro e w1 ⟨rfl, rfl⟩)
      go_round
      case rel => exact ⟨j + 1, by omega, by go_num, by rw [HL.out]⟩
      case measure => simp [intOf]; omega
    · have hjn : j = n := by omega
      subst hjn
      have HA2 := HA.out
      rw [HN.out] at HA2
      generalize high x (t.take (j + 1)) = hi at *
      go_wp2_with fail
      go_ret
      subst HA2
      exact ⟨rfl, rfl⟩
set_option maxHeartbeats 1000000 in
theorem oneOf_low (p g q k : Nat) (c : Ck) (w : World) (h : CAt w p g q k c) (hsome : 1 ≤ c.t.length) (hfew : c.t.length ≤ 128) : Calls Try.prog 19 #[.pointer (some ⟨p, 0, none⟩), .func (.func 21) #[] #[]] w fun e w' => e = .returned (.int .i64 (low (c.t.headD 0) c.t)) ∧ w' = w := by
  have h0 := h.cell0
  have hN := hide h.row
  have hx := h.row.cell 0 hsome
  have hcap : c.t.length ≤ k := by
    rcases h.row.2 with ⟨h1, _⟩ | ⟨g', cap, cur, h1, _, _, hn, _⟩
    · cases h1
    · cases h1; exact hn
  rw [← head_at (by have := hsome; omega)] at hx
  have h1 := hsome
  have h2 := hfew
  have HA : Hid (low (c.t.headD 0) c.t = low (c.t.headD 0) (c.t.take c.t.length)) := by rw [List.take_length]; exact rfl
  have HB : Hid (low (c.t.headD 0) (c.t.take 1) = c.t.headD 0) := by
    unfold Hid
    have e := low_next (c.t.headD 0) c.t 0 h1
    rw [e, ← head_at (by omega)]
    show min (c.t.headD 0) (c.t.headD 0) = _
    omega
  clear h
  generalize c.t.headD 0 = x at *
  generalize low x c.t = A at *
  generalize c.t = t at *
  obtain ⟨n, hn⟩ : ∃ n, t.length = n + 1 := ⟨t.length - 1, by omega⟩
  have HN := hide hn
  rw [hn] at h0
  rw [hn] at hcap h2
  obtain ⟨kk, rfl⟩ : ∃ kk, k = kk + 1 := ⟨k - 1, by omega⟩
  clear hn h1
  by_cases hn0 : n = 0
  · subst hn0
    have HA2 := HA.out
    rw [HN.out, HB.out] at HA2
    clear HA HB
    subst HA2
    go_enter Try.func19, Try.ntmps19
    go_wp2_with fail
    all_goals
      go_loop [5, 7, 20] (fun a _ i => i = .int .i64 0 ∧ a = .int .i64 A) (fun _ _ _ => 0)
      case atStart => exact ⟨rfl, rfl⟩
      case round =>
        obtain ⟨rfl, rfl⟩ := hrel
        go_wp2_with fail
        go_ret
        exact ⟨rfl, rfl⟩
  have hk : ¬ kk = 0 := by omega
  go_enter Try.func19, Try.ntmps19
  go_wp2_with fail
  go_loop [5, 7, 20] (fun a _ i => ∃ j : Nat, j ≤ n ∧ i = .int .i64 (j : Int) ∧ a = .int .i64 (low x (t.take (j + 1)))) (fun _ _ i => n - (intOf i).toNat)
  case atStart => exact ⟨0, Nat.zero_le _, rfl, by rw [HB.out]⟩
  case round =>
    obtain ⟨j, hj, rfl, rfl⟩ := hrel
    by_cases hlt : j < n
    · have e1 := hN.out.cell (1 + j) (by have := HN.out; omega)
      have HL : Hid (low x (t.take (j + 1 + 1)) = min (low x (t.take (j + 1))) (t[1 + j]'(by have := HN.out; omega))) := by
        have e := low_next x t (j + 1) (by have := HN.out; omega)
        unfold Hid
        rw [e]
        congr 2
        omega
      generalize low x (t.take (j + 1)) = hi at *
      generalize t[1 + j]'(by have := HN.out; omega) = y at *
      go_wp2_with (go_at_call 21; refine (earlier_any _ _ _).mono ?_; rintro e w1 ⟨rfl, rfl⟩)
      go_round
      case rel => exact ⟨j + 1, by omega, by go_num, by rw [HL.out]⟩
      case measure => simp [intOf]; omega
    · have hjn : j = n := by omega
      subst hjn
      have HA2 := HA.out
      rw [HN.out] at HA2
      generalize low x (t.take (j + 1)) = hi at *
      go_wp2_with fail
      go_ret
      subst HA2
      exact ⟨rfl, rfl⟩
theorem apart_nil (w : World) : Calls Try.prog 13 #[.pointer none] w fun e w' => e = .returned (.int .i64 0) ∧ w' = w := by
  go_enter Try.func13, Try.ntmps13
  go_wp2_with (go_at_call 10; refine (len_nil _).mono ?_; rintro e w1 ⟨rfl, rfl⟩)
  go_ret
  exact ⟨rfl, rfl⟩
set_option maxHeartbeats 1000000 in
theorem apart_at (p g q k : Nat) (c : Ck) (w : World) (h : CAt w p g q k c) (hsome : 1 ≤ c.t.length) (hfew : c.t.length ≤ 128) (ht : Times c.t) : Calls Try.prog 13 #[.pointer (some ⟨p, 0, none⟩)] w fun e w' => e = .returned (.int .i64 (apart c.t)) ∧ w' = w := by
  have K1 := hide (len_at p g q k c w h)
  have K2 := hide (oneOf_high p g q k c w h hsome hfew)
  have K3 := hide (oneOf_low p g q k c w h hsome hfew)
  have hA := hide (show apart c.t = high (c.t.headD 0) c.t - low (c.t.headD 0) c.t from rfl)
  have hlo := ht.low _ ht.head
  have hhi := ht.high _ ht.head
  have h1 := hsome
  clear h hsome hfew ht
  generalize low (c.t.headD 0) c.t = lo at *
  generalize high (c.t.headD 0) c.t = hi at *
  generalize apart c.t = A at *
  generalize c.t.length = n at *
  have hn : ((n : Int) == 0) = false := by simp; omega
  go_enter Try.func13, Try.ntmps13
  go_wp2_with fail
  refine K1.out.mono ?_
  rintro e w1 ⟨rfl, hw⟩
  obtain rfl := hw.symm
  clear hw K1
  go_wp2_with fail
  refine K2.out.mono ?_
  rintro e w1 ⟨rfl, hw⟩
  obtain rfl := hw.symm
  clear hw K2
  go_wp2_with fail
  refine K3.out.mono ?_
  rintro e w1 ⟨rfl, hw⟩
  obtain rfl := hw.symm
  clear hw K3
  go_wp2
  go_ret
  exact ⟨by rw [hA.out]; rfl, rfl⟩
theorem within_nil (w : World) : Calls Try.prog 15 #[.pointer none] w fun e w' => e = .returned (.bool false) ∧ w' = w := by
  go_enter Try.func15, Try.ntmps15
  go_wp2_with (go_at_call 10; refine (len_nil _).mono ?_; rintro e w1 ⟨rfl, rfl⟩)
  go_ret
  exact ⟨rfl, rfl⟩
theorem within_at (p g q k : Nat) (c : Ck) (w : World) (h : CAt w p g q k c) (hok : c.Ok) : Calls Try.prog 15 #[.pointer (some ⟨p, 0, none⟩)] w fun e w' => e = .returned (.bool (decide (c.m ≤ c.b))) ∧ w' = w := by
  have K1 := hide (len_at p g q k c w h)
  have h2 := h.cell2
  have h1 := hok.some
  have hB := hide (show decide (c.m ≤ c.b) = !decide (c.b < c.m) from by by_cases hh : c.b < c.m <;> simp [hh] <;> omega)
  clear h hok
  generalize decide (c.m ≤ c.b) = B at *
  generalize decide (c.b < c.m) = D at *
  generalize c.t.length = n at *
  have hn : (0 : Int) < (n : Int) := by omega
  go_enter Try.func15, Try.ntmps15
  go_wp2_with fail
  refine K1.out.mono ?_
  rintro e w1 ⟨rfl, hw⟩
  obtain rfl := hw.symm
  clear hw K1
  go_wp2
  go_ret
  exact ⟨by rw [hB.out]; rfl, rfl⟩
theorem at_nil (i : Int) (w : World) : Calls Try.prog 16 #[.pointer none, .int .i64 i] w fun e w' => e = .returned (.tuple #[.int .i64 0, .int .i64 1]) ∧ w' = w := by
  go_enter Try.func16, Try.ntmps16
  go_wp2_with (go_at_call 10; refine (len_nil _).mono ?_; rintro e w1 ⟨rfl, rfl⟩)
  go_ret2
  exact ⟨rfl, rfl⟩
theorem at_none (p g q k : Nat) (c : Ck) (i : Int) (w : World) (h : CAt w p g q k c) (hok : c.Ok) (hi : ¬ (0 ≤ i ∧ i < (c.t.length : Int))) : Calls Try.prog 16 #[.pointer (some ⟨p, 0, none⟩), .int .i64 i] w fun e w' => e = .returned (.tuple #[.int .i64 0, .int .i64 5]) ∧ w' = w := by
  have K1 := hide (len_at p g q k c w h)
  have h1 := hok.some
  clear h hok
  generalize c.t.length = n at *
  have hn : ((n : Int) == 0) = false := by simp; omega
  by_cases h0 : i < 0
  · go_enter Try.func16, Try.ntmps16
    go_wp2_with fail
    refine K1.out.mono ?_
    rintro e w1 ⟨rfl, hw⟩
    obtain rfl := hw.symm
    clear hw K1
    go_wp2
    go_ret2
    exact ⟨rfl, rfl⟩
  · have h3 : (n : Int) ≤ i := by omega
    go_enter Try.func16, Try.ntmps16
    go_wp2_with fail
    refine K1.out.mono ?_
    rintro e w1 ⟨rfl, hw⟩
    obtain rfl := hw.symm
    clear hw K1
    go_wp2
    go_ret2
    exact ⟨rfl, rfl⟩
theorem at_some (p g q k : Nat) (c : Ck) (i : Nat) (w : World) (h : CAt w p g q k c) (hi : i < c.t.length) (hok : c.Ok) : Calls Try.prog 16 #[.pointer (some ⟨p, 0, none⟩), .int .i64 (i : Int)] w fun e w' => e = .returned (.tuple #[.int .i64 c.t[i], .int .i64 0]) ∧ w' = w := by
  have K1 := hide (len_at p g q k c w h)
  have hc0 := h.cell0
  have e1 := h.row.cell i hi
  have hfew := hok.few
  clear h hok
  generalize c.t[i] = x at *
  generalize c.t.length = n at *
  have hn : ((n : Int) == 0) = false := by simp; omega
  have h3 : ¬ (i : Int) < 0 := by omega
  have h4 : ¬ (n : Int) ≤ (i : Int) := by omega
  go_enter Try.func16, Try.ntmps16
  go_wp2_with fail
  refine K1.out.mono ?_
  rintro e w1 ⟨rfl, hw⟩
  obtain rfl := hw.symm
  clear hw K1
  go_wp2
  go_ret2
  exact ⟨rfl, rfl⟩
theorem newNot_any (n b : Int) (w : World) (h : ¬ (1 ≤ n ∧ n ≤ 128 ∧ 0 ≤ b ∧ b ≤ 17592186044416)) : Calls Try.prog 8 #[.int .i64 n, .int .i64 b] w fun e w' => e = .returned (.tuple #[.pointer none, .int .i64 2]) ∧ Below w.heap.size w w' := by
  by_cases h1 : n < 1
  · go_enter Try.func8, Try.ntmps8
    go_wp2
    go_ret2
    exact ⟨rfl, (Below.refl _ _).alloc (Nat.le_refl _) _⟩
  · by_cases h2 : 128 < n
    · go_enter Try.func8, Try.ntmps8
      go_wp2
      go_ret2
      exact ⟨rfl, (Below.refl _ _).alloc (Nat.le_refl _) _⟩
    · have hd : decide (0 ≤ b ∧ b ≤ 17592186044416) = false := decide_eq_false (fun hh => h ⟨by omega, by omega, hh⟩)
      have KM : Hid (∀ u, Calls Try.prog 17 #[.int .i64 b] u fun e v => e = .returned (.bool false) ∧ v = u) := fun u => by
        have e := mayBe_any b u
        rw [hd] at e
        exact e
      clear hd h
      go_enter Try.func8, Try.ntmps8
      go_wp2_with (go_at_call 17; refine (KM.out _).mono ?_; rintro e w1 ⟨rfl, rfl⟩)
      go_ret2
      exact ⟨rfl, (Below.refl _ _).alloc (Nat.le_refl _) _⟩
set_option maxHeartbeats 1000000 in
theorem new_any (n : Nat) (b : Int) (w : World) (h1 : 1 ≤ n) (h2 : n ≤ 128) (h3 : 0 ≤ b ∧ b ≤ 17592186044416) : Calls Try.prog 8 #[.int .i64 (n : Int), .int .i64 b] w fun e v => e = .returned (.tuple #[.pointer (some ⟨w.heap.size + 1 + 1, 0, none⟩), .int .i64 0]) ∧ CAt v (w.heap.size + 1 + 1) (w.heap.size + 1) w.heap.size n (Ck.new n b) ∧ Below w.heap.size w v := by
  have hd : decide (0 ≤ b ∧ b ≤ 17592186044416) = true := decide_eq_true h3
  have KM : Hid (∀ u, Calls Try.prog 17 #[.int .i64 b] u fun e v => e = .returned (.bool true) ∧ v = u) := fun u => by
    have e := mayBe_any b u
    rw [hd] at e
    exact e
  have hmk := nmake n (by omega) (w.alloc (.cells #[.int .i64 b] 2))
  have hN := hide ((NumsAt.new (w.alloc (.cells #[.int .i64 b] 2)) n (by omega)))
  unfold zeros at hmk
  rw [World.size_alloc] at hmk hN
  have HB := hide h3
  clear hd h3
  generalize hZ : (Array.replicate n (Value.int .i64 0)) = Z at *
  have l1 : ¬ (n : Int) < 1 := by omega
  have l2 : ¬ (128 : Int) < (n : Int) := by omega
  go_enter Try.func8, Try.ntmps8
  go_wp2_with (go_at_call 17; refine (KM.out _).mono ?_; rintro e w1 ⟨rfl, rfl⟩)
  go_ret2
  refine ⟨rfl, ?_, (((Below.refl _ _).alloc (Nat.le_refl _) _).alloc (by simp) _).alloc (by simp; omega) _⟩
  have hfb : decide (b < 0) = false := by have := HB.out; simp; omega
  refine ⟨?_, ?_, ?_, by omega⟩
  · have h := heap_alloc_last ((w.alloc (.cells #[.int .i64 b] 2)).alloc (.cells Z 2)) (.cells #[.slice (some ⟨w.heap.size + 1, 0, none⟩) n n, .func (.func 18) #[] #[.pointer (some ⟨w.heap.size, 0, none⟩)], .bool false] 44)
    rw [World.size_alloc, World.size_alloc] at h
    rw [h]
    unfold Ck.new
    rw [List.length_replicate, hfb]
  · exact hN.out.below ((Below.refl _ _).alloc (Nat.le_refl _) _)
  · have h := heap_alloc_last w (.cells #[.int .i64 b] 2)
    have hb : Below (w.heap.size + 1) (w.alloc (.cells #[.int .i64 b] 2)) (((w.alloc (.cells #[.int .i64 b] 2)).alloc (.cells Z 2)).alloc (.cells #[.slice (some ⟨w.heap.size + 1, 0, none⟩) n n, .func (.func 18) #[] #[.pointer (some ⟨w.heap.size, 0, none⟩)], .bool false] 44)) := ((Below.refl _ _).alloc (by simp) _).alloc (by simp) _
    exact (hb.block w.heap.size (by omega)).trans h
theorem tick_nil (i y : Int) (w : World) : Calls Try.prog 11 #[.pointer none, .int .i64 i, .int .i64 y] w fun e w' => e = .returned (.int .i64 1) ∧ w' = w := by
  go_enter Try.func11, Try.ntmps11
  go_wp2_with (go_at_call 16; refine (at_nil _ _).mono ?_; rintro e w1 ⟨rfl, rfl⟩)
  go_ret
  exact ⟨rfl, rfl⟩
theorem tick_none (p g q k : Nat) (c : Ck) (i y : Int) (w : World) (h : CAt w p g q k c) (hok : c.Ok) (hi : ¬ (0 ≤ i ∧ i < (c.t.length : Int))) : Calls Try.prog 11 #[.pointer (some ⟨p, 0, none⟩), .int .i64 i, .int .i64 y] w fun e w' => e = .returned (.int .i64 5) ∧ w' = w := by
  have K1 := hide (at_none p g q k c i w h hok hi)
  clear h hok hi
  go_enter Try.func11, Try.ntmps11
  go_wp2_with fail
  refine K1.out.mono ?_
  rintro e w1 ⟨rfl, hw⟩
  obtain rfl := hw.symm
  clear hw K1
  go_wp2
  go_ret
  exact ⟨rfl, rfl⟩
theorem tick_arg (p g q k : Nat) (c : Ck) (i : Nat) (y : Int) (w : World) (h : CAt w p g q k c) (hok : c.Ok) (hi : i < c.t.length) (hy : ¬ (0 ≤ y ∧ y ≤ 17592186044416)) : Calls Try.prog 11 #[.pointer (some ⟨p, 0, none⟩), .int .i64 (i : Int), .int .i64 y] w fun e w' => e = .returned (.int .i64 2) ∧ w' = w := by
  have K1 := hide (at_some p g q k c i w h hi hok)
  have KM := hide (mayBe_any y w)
  rw [decide_eq_false hy] at KM
  clear h hok hy
  generalize c.t[i] = x at *
  clear hi
  go_enter Try.func11, Try.ntmps11
  go_wp2_with fail
  refine K1.out.mono ?_
  rintro e w1 ⟨rfl, hw⟩
  obtain rfl := hw.symm
  clear hw K1
  go_wp2_with fail
  refine KM.out.mono ?_
  rintro e w1 ⟨rfl, hw⟩
  obtain rfl := hw.symm
  clear hw KM
  go_wp2
  go_ret
  exact ⟨rfl, rfl⟩
theorem tick_over (p g q k : Nat) (c : Ck) (i : Nat) (y : Int) (w : World) (h : CAt w p g q k c) (hok : c.Ok) (hi : i < c.t.length) (hy : 0 ≤ y ∧ y ≤ 17592186044416) (ho : 17592186044416 < c.t[i] + y) : Calls Try.prog 11 #[.pointer (some ⟨p, 0, none⟩), .int .i64 (i : Int), .int .i64 y] w fun e w' => e = .returned (.int .i64 9) ∧ w' = w := by
  have K1 := hide (at_some p g q k c i w h hi hok)
  have KM := hide (mayBe_any y w)
  rw [decide_eq_true hy] at KM
  have KO := hide (mayBe_any (c.t[i] + y) w)
  rw [decide_eq_false (fun hh => by omega)] at KO
  have hx := hok.times _ (List.getElem_mem hi)
  obtain ⟨hy0, hy1⟩ := hy
  clear h hok
  generalize c.t[i] = x at *
  clear hi
  go_enter Try.func11, Try.ntmps11
  go_wp2_with fail
  refine K1.out.mono ?_
  rintro e w1 ⟨rfl, hw⟩
  obtain rfl := hw.symm
  clear hw K1
  go_wp2_with fail
  refine KM.out.mono ?_
  rintro e w1 ⟨rfl, hw⟩
  obtain rfl := hw.symm
  clear hw KM
  go_wp2_with fail
  refine KO.out.mono ?_
  rintro e w1 ⟨rfl, hw⟩
  obtain rfl := hw.symm
  clear hw KO
  go_wp2
  go_ret
  exact ⟨rfl, rfl⟩
set_option maxHeartbeats 2000000 in
theorem tick_go (p g q k : Nat) (c : Ck) (i : Nat) (y : Int) (w : World) (h : CAt w p g q k c) (hok : c.Ok) (hi : i < c.t.length) (hy : 0 ≤ y ∧ y ≤ 17592186044416) (ho : c.t[i] + y ≤ 17592186044416) : Calls Try.prog 11 #[.pointer (some ⟨p, 0, none⟩), .int .i64 (i : Int), .int .i64 y] w fun e w' => e = .returned (.int .i64 0) ∧ CAt w' p g q k ⟨c.t.set i (c.t[i] + y), c.b, max c.m (apart (c.t.set i (c.t[i] + y)))⟩ ∧ Loc (CF p g q) (CF p g q) w w' := by
  have K1 := hide (at_some p g q k c i w h hi hok)
  have KM := hide (mayBe_any y w)
  rw [decide_eq_true hy] at KM
  have hx := hok.times _ (List.getElem_mem hi)
  have KO := hide (mayBe_any (c.t[i] + y) w)
  rw [decide_eq_true ⟨by omega, by omega⟩] at KO
  have hc0 := h.cell0
  have f1 := h.row.free i
  have e1 := h.row.cell i hi
  have hfew := hok.few
  obtain ⟨hy0, hy1⟩ := hy
  have H2 := hide (h.setTime i (c.t[i] + y))
  have HL := hide (Loc.setCell (F := CF p g q) w ⟨g, i, none⟩ (.int .i64 (c.t[i] + y)) (Or.inr (Or.inl rfl)))
  have HOk := hok.go i hi y hy0 (by omega)
  have HS2 : Hid (1 ≤ (c.t.set i (c.t[i] + y)).length ∧ (c.t.set i (c.t[i] + y)).length ≤ 128) := by unfold Hid; rw [List.length_set]; exact ⟨hok.some, hok.few⟩
  have HT2 := hide HOk.times
  have HM := hide hok.fit
  clear h hok HOk
  have hn : c.t.length = c.t.length := rfl
  generalize c.t[i] = x at *
  generalize c.t.set i (x + y) = t2 at *
  generalize c.t.length = n at *
  generalize c.b = b at *
  generalize c.m = m at *
  clear hn
  go_enter Try.func11, Try.ntmps11
  go_wp2_with fail
  refine K1.out.mono ?_
  rintro e w1 ⟨rfl, hw⟩
  obtain rfl := hw.symm
  clear hw K1
  go_wp2_with fail
  refine KM.out.mono ?_
  rintro e w1 ⟨rfl, hw⟩
  obtain rfl := hw.symm
  clear hw KM
  go_wp2_with fail
  refine KO.out.mono ?_
  rintro e w1 ⟨rfl, hw⟩
  obtain rfl := hw.symm
  clear hw KO
  go_wp2_with fail
  clear e1 f1 hc0
  generalize w.setCell ⟨g, i, none⟩ (.int .i64 (x + y)) = U at *
  have KA : Hid (∀ v, CAt v p g q k ⟨t2, b, m⟩ → Calls Try.prog 13 #[.pointer (some ⟨p, 0, none⟩)] v fun e w' => e = .returned (.int .i64 (apart t2)) ∧ w' = v) := fun v hv => apart_at p g q k _ v hv HS2.out.1 HS2.out.2 HT2.out
  have KF : Hid (∀ v, CAt v p g q k ⟨t2, b, m⟩ → Calls Try.prog 18 #[.int .i64 (apart t2), .pointer (some ⟨q, 0, none⟩)] v fun e w' => e = .returned (.bool (decide (b < apart t2))) ∧ w' = v) := fun v hv => tooFar_any q _ _ v hv.cellq
  have K2 := hide H2.out.drew
  have g1 := H2.out.drew.cell1
  have g2 := H2.out.drew.cell2
  have g3 := H2.out.drew.free 2
  have HD : Hid (∀ A, decide (b < max m A) = (decide (b < m) || decide (b < A))) := fun A => by
    by_cases h1 : b < m <;> by_cases h2 : b < A <;> simp [h1, h2] <;> omega
  have hD2 := HD.out (apart t2)
  have HD2 := hide hD2
  clear hD2 HD
  have HE := hide (show apart t2 = apart t2 from rfl)
  generalize hA : apart t2 = A at *
  have HAx := hide hA
  clear hA HE
  generalize decide (b < A) = DA at *
  change U.drew.cell? ⟨p, 2, none⟩ = some (.bool (decide (b < m))) at g2
  generalize decide (b < m) = D at *
  cases D
  · go_region_with (first | (go_at_call 13; refine (KA.out _ K2.out).mono ?_; rintro e w1 ⟨rfl, rfl⟩) | (go_at_call 18; refine (KF.out _ K2.out).mono ?_; rintro e w1 ⟨rfl, rfl⟩))
    all_goals
      have H5 : Hid (CAt (U.setCell ⟨p, 2, none⟩ (.bool DA)).drew p g q k ⟨t2, b, max m A⟩) := (H2.out.setMost (max m A) DA (by have := HD2.out; simp at this; exact this.symm)).drew
      have L5 := hide ((HL.out.trans (Loc.setCell (F := CF p g q) U ⟨p, 2, none⟩ (.bool DA) (Or.inl rfl))).drew)
      clear g1 g2 g3 H2 HL KA KF K2
      generalize (U.setCell ⟨p, 2, none⟩ (.bool DA)).drew = V at *
      go_wp2
      go_ret
      exact ⟨rfl, by rw [HAx.out]; exact H5.out, L5.out⟩
  · have hdt : decide (b < max m A) = true := by have := HD2.out; simpa using this
    have H5 : Hid (CAt (U.setCell ⟨p, 2, none⟩ (.bool true)).drew p g q k ⟨t2, b, max m A⟩) := (H2.out.setMost (max m A) true hdt.symm).drew
    have L5 := hide ((HL.out.trans (Loc.setCell (F := CF p g q) U ⟨p, 2, none⟩ (.bool true) (Or.inl rfl))).drew)
    have g5 := H5.out.cell2
    rw [show decide ((⟨t2, b, max m A⟩ : Ck).b < (⟨t2, b, max m A⟩ : Ck).m) = true from hdt] at g5
    have G5 := hide g5
    clear hdt g5
    refine wp_region_held_drew (S := fun z => z.cell? ⟨p, 2, none⟩ = some (.bool true)) (by kernel_rfl) (g2) (fun hHeld => ?_)
    (try dsimp only at hHeld)
    refine takeAtQ 0 38 (v := ?v_r9_0) rfl rfl (by kernel_rfl) (by kernel_rfl) (by kernel_rfl) (fun _ _ _ h => h) (Or.inl ⟨by rfl, ?hy_r9_0⟩) (by assumption) ?rest_r9_0
    case hy_r9_0 => (intro w hSw; (try dsimp only at hSw); go_simp; first | done | with_reducible rfl)
    simp only [List.setIfInBounds_toArray, List.set_cons_succ, List.set_cons_zero]
    refine takeAtQ 1 39 (v := ?v_r9_1) rfl rfl (by kernel_rfl) (by kernel_rfl) (by kernel_rfl) (fun _ _ _ h => h) (Or.inl ⟨by rfl, ?hy_r9_1⟩) (by assumption) ?rest_r9_1
    case hy_r9_1 => (intro w hSw; (try dsimp only at hSw); go_simp; first | done | with_reducible rfl)
    simp only [List.setIfInBounds_toArray, List.set_cons_succ, List.set_cons_zero]
    refine takeAtQ 2 40 (v := ?v_r9_2) rfl rfl (by kernel_rfl) (by kernel_rfl) (by kernel_rfl) (fun _ _ _ h => h) (Or.inl ⟨by rfl, ?hy_r9_2⟩) (by assumption) ?rest_r9_2
    case hy_r9_2 => (intro w hSw; (try dsimp only at hSw); go_simp; first | done | with_reducible rfl)
    simp only [List.setIfInBounds_toArray, List.set_cons_succ, List.set_cons_zero]
    refine takeAtQ 3 41 (v := ?v_r9_3) rfl rfl (by kernel_rfl) (by kernel_rfl) (by kernel_rfl) (fun _ _ _ h => h) (Or.inl ⟨by rfl, ?hy_r9_3⟩) (by assumption) ?rest_r9_3
    case hy_r9_3 => (intro w hSw; (try dsimp only at hSw); go_simp; first | done | with_reducible rfl)
    simp only [List.setIfInBounds_toArray, List.set_cons_succ, List.set_cons_zero]
    refine takeAtQ 4 42 (v := ?v_r9_4) rfl rfl (by kernel_rfl) (by kernel_rfl) (by kernel_rfl) (fun _ _ _ h => h) (Or.inl ⟨by rfl, ?hy_r9_4⟩) (by assumption) ?rest_r9_4
    case hy_r9_4 => (intro w hSw; (try dsimp only at hSw); go_simp; first | done | with_reducible rfl)
    simp only [List.setIfInBounds_toArray, List.set_cons_succ, List.set_cons_zero]
    refine takeAtQ 5 43 (v := ?v_r9_5) rfl rfl (by kernel_rfl) (by kernel_rfl) (by kernel_rfl) (fun _ _ _ h => h) (Or.inl ⟨by rfl, ?hy_r9_5⟩) (by assumption) ?rest_r9_5
    case hy_r9_5 => (intro w hSw; (try dsimp only at hSw); go_simp; first | done | with_reducible rfl)
    simp only [List.setIfInBounds_toArray, List.set_cons_succ, List.set_cons_zero]
    refine takeAtQ 6 44 (v := undef) rfl rfl (by kernel_rfl) (by kernel_rfl) (by kernel_rfl) (fun _ _ _ h => h) (Or.inr ⟨by rfl, rfl⟩) (by assumption) ?rest_r9_6
    simp only [List.setIfInBounds_toArray, List.set_cons_succ, List.set_cons_zero]
    refine takeAtQ 7 45 (v := undef) rfl rfl (by kernel_rfl) (by kernel_rfl) (by kernel_rfl) (fun _ _ _ h => h) (Or.inr ⟨by rfl, rfl⟩) (by assumption) ?rest_r9_7
    simp only [List.setIfInBounds_toArray, List.set_cons_succ, List.set_cons_zero]
    refine takeAtQ 8 46 (v := undef) rfl rfl (by kernel_rfl) (by kernel_rfl) (by kernel_rfl) (fun _ _ _ h => h) (Or.inr ⟨by rfl, rfl⟩) (by assumption) ?rest_r9_8
    simp only [List.setIfInBounds_toArray, List.set_cons_succ, List.set_cons_zero]
    refine takeAtQ 9 47 (v := undef) rfl rfl (by kernel_rfl) (by kernel_rfl) (by kernel_rfl) (fun _ _ _ h => h) (Or.inr ⟨by rfl, rfl⟩) (by assumption) ?rest_r9_9
    simp only [List.setIfInBounds_toArray, List.set_cons_succ, List.set_cons_zero]
    refine takeAtQ 10 48 (v := undef) rfl rfl (by kernel_rfl) (by kernel_rfl) (by kernel_rfl) (fun _ _ _ h => h) (Or.inr ⟨by rfl, rfl⟩) (by assumption) ?rest_r9_10
    simp only [List.setIfInBounds_toArray, List.set_cons_succ, List.set_cons_zero]
    refine takeAtQ 11 49 (v := undef) rfl rfl (by kernel_rfl) (by kernel_rfl) (by kernel_rfl) (fun _ _ _ h => h) (Or.inr ⟨by rfl, rfl⟩) (by assumption) ?rest_r9_11
    simp only [List.setIfInBounds_toArray, List.set_cons_succ, List.set_cons_zero]
    refine takeAtQ 12 50 (v := undef) rfl rfl (by kernel_rfl) (by kernel_rfl) (by kernel_rfl) (fun _ _ _ h => h) (Or.inr ⟨by rfl, rfl⟩) (by assumption) ?rest_r9_12
    simp only [List.setIfInBounds_toArray, List.set_cons_succ, List.set_cons_zero]
    refine takeAtQ 13 51 (v := ?v_r9_13) rfl rfl (by kernel_rfl) (by kernel_rfl) (by kernel_rfl) (fun _ _ _ h => h) (Or.inl ⟨by rfl, ?hy_r9_13⟩) (by assumption) ?rest_r9_13
    case hy_r9_13 => (intro w hSw; (try dsimp only at hSw); go_simp; first | done | with_reducible rfl)
    simp only [List.setIfInBounds_toArray, List.set_cons_succ, List.set_cons_zero]
    refine takeAtQ 14 52 (v := ?v_r9_14) rfl rfl (by kernel_rfl) (by kernel_rfl) (by kernel_rfl) (fun _ _ _ h => h) (Or.inl ⟨by rfl, ?hy_r9_14⟩) (by assumption) ?rest_r9_14
    case hy_r9_14 => (intro w hSw; (try dsimp only at hSw); go_simp; first | done | with_reducible rfl)
    simp only [List.setIfInBounds_toArray, List.set_cons_succ, List.set_cons_zero]
    refine takeAtQ 15 53 (v := ?v_r9_15) rfl rfl (by kernel_rfl) (by kernel_rfl) (by kernel_rfl) (fun _ _ _ h => h) (Or.inl ⟨by rfl, ?hy_r9_15⟩) (by assumption) ?rest_r9_15
    case hy_r9_15 => (intro w hSw; (try dsimp only at hSw); go_simp; first | done | with_reducible rfl)
    simp only [List.setIfInBounds_toArray, List.set_cons_succ, List.set_cons_zero]
    refine wpAnyH_ready (rs := [16]) (by kernel_rfl) (by simp) ?_
    refine AllReadyH.cons (o := { dst := none, op := Go.Op.store 4 (Go.Operand.tmp 53) (Go.Operand.tmp 51), type := 0, pos := "ticks.go:34", after := #[{ on := 15, ground := Go.Ground.data }, { on := 13, ground := Go.Ground.data }, { on := 12, ground := Go.Ground.chain }, { on := 0, ground := Go.Ground.phase }, { on := 1, ground := Go.Ground.phase }, { on := 2, ground := Go.Ground.phase }, { on := 3, ground := Go.Ground.phase }, { on := 4, ground := Go.Ground.phase }, { on := 5, ground := Go.Ground.phase }, { on := 6, ground := Go.Ground.phase }, { on := 7, ground := Go.Ground.phase }, { on := 8, ground := Go.Ground.phase }, { on := 9, ground := Go.Ground.phase }, { on := 10, ground := Go.Ground.phase }, { on := 11, ground := Go.Ground.phase }, { on := 12, ground := Go.Ground.phase }, { on := 13, ground := Go.Ground.phase }], guard := none }) rfl (fun K hK => ?_) AllReadyH.nil
    go_simp
    refine hK.out _ _ (G5.out) (fun hHeldN => ?_)
    clear hK K hHeld
    (try go_frame)
    have hHeld := hHeldN
    clear hHeldN
    (try dsimp only at hHeld)
    refine wpAnyH_done (by kernel_rfl) ?_ _
    clear hHeld
    clear g1 g2 g3 H2 HL KA KF K2 G5
    generalize (U.setCell ⟨p, 2, none⟩ (.bool true)).drew = V at *
    go_wp2
    go_ret
    exact ⟨rfl, by rw [HAx.out]; exact H5.out, L5.out⟩
/-- The program's clocks, by their blocks. -/
def TAt (u : World) (p : Nat) (c : Ck) (F : Nat → Prop) : Prop := ∃ g q k, CAt u p g q k c ∧ F = CF p g q
theorem same_below {w w' : World} (h : w' = w) : Below w.heap.size w w' := by subst h; exact Below.refl _ _
theorem con : Con TAt where
  lt := by
    rintro u p c F ⟨g, q, k, h, rfl⟩ i hi
    rcases hi with rfl | rfl | rfl
    · exact h.lt.1
    · exact h.lt.2.1
    · exact h.lt.2.2
  same := by
    rintro u v p c F ⟨g, q, k, h, rfl⟩ hb
    exact ⟨g, q, k, h.same (hb p (Or.inl rfl)) (hb g (Or.inr (Or.inl rfl))) (hb q (Or.inr (Or.inr rfl))), rfl⟩
  new := fun n b u h1 h2 h3 h4 => (new_any n b u h1 h2 ⟨h3, h4⟩).mono (by
    rintro e v ⟨rfl, h, hb⟩
    exact ⟨_, _, rfl, ⟨_, _, _, h, rfl⟩, fun i hi => (by rcases hi with rfl | rfl | rfl <;> omega), hb⟩)
  newNot := fun n b u _ _ h => newNot_any n b u h
  tick := by
    rintro p c F i y u ⟨g, q, k, h, rfl⟩ hok hi hy
    by_cases hin : 0 ≤ i ∧ i < (c.t.length : Int)
    · obtain ⟨j, rfl⟩ : ∃ j : Nat, i = (j : Int) := ⟨i.toNat, by omega⟩
      have hj : j < c.t.length := by omega
      by_cases hyy : 0 ≤ y ∧ y ≤ 17592186044416
      · by_cases ho : 17592186044416 < c.t[j] + y
        · rw [Ck.tick_over c j y hj hyy ho]
          exact (tick_over p g q k c j y u h hok hj hyy ho).mono (by rintro e v ⟨rfl, rfl⟩; exact ⟨rfl, _, ⟨g, q, k, h, rfl⟩, Loc.refl _ _⟩)
        · rw [Ck.tick_go c j y hj hyy ho]
          exact (tick_go p g q k c j y u h hok hj hyy (by omega)).mono (by rintro e v ⟨rfl, h2, hl⟩; exact ⟨rfl, _, ⟨g, q, k, h2, rfl⟩, hl⟩)
      · rw [Ck.tick_arg c j y hin hyy]
        exact (tick_arg p g q k c j y u h hok hj hyy).mono (by rintro e v ⟨rfl, rfl⟩; exact ⟨rfl, _, ⟨g, q, k, h, rfl⟩, Loc.refl _ _⟩)
    · rw [Ck.tick_none c i y hin]
      exact (tick_none p g q k c i y u h hok hin).mono (by rintro e v ⟨rfl, rfl⟩; exact ⟨rfl, _, ⟨g, q, k, h, rfl⟩, Loc.refl _ _⟩)
  at_ := by
    rintro p c F i u ⟨g, q, k, h, rfl⟩ hok hi
    exact (at_some p g q k c i u h hi hok).mono (by rintro e v ⟨rfl, rfl⟩; exact ⟨rfl, Below.refl _ _⟩)
  atNot := by
    rintro p c F i u ⟨g, q, k, h, rfl⟩ hok _ hi
    exact (at_none p g q k c i u h hok hi).mono (by rintro e v ⟨rfl, rfl⟩; exact ⟨rfl, Below.refl _ _⟩)
  apart := by
    rintro p c F u ⟨g, q, k, h, rfl⟩ hok
    exact (apart_at p g q k c u h hok.some hok.few hok.times).mono (by rintro e v ⟨rfl, rfl⟩; exact ⟨rfl, Below.refl _ _⟩)
  within := by
    rintro p c F u ⟨g, q, k, h, rfl⟩ hok
    exact (within_at p g q k c u h hok).mono (by rintro e v ⟨rfl, rfl⟩; exact ⟨rfl, Below.refl _ _⟩)
  len := by
    rintro p c F u ⟨g, q, k, h, rfl⟩ hok
    exact (len_at p g q k c u h).mono (by rintro e v ⟨rfl, rfl⟩; exact ⟨rfl, Below.refl _ _⟩)
  ntick := fun i y u => (tick_nil i y u).mono (by rintro e v ⟨rfl, rfl⟩; exact ⟨rfl, Below.refl _ _⟩)
  nat := fun i u => (at_nil i u).mono (by rintro e v ⟨rfl, rfl⟩; exact ⟨rfl, Below.refl _ _⟩)
  napart := fun u => (apart_nil u).mono (by rintro e v ⟨rfl, rfl⟩; exact ⟨rfl, Below.refl _ _⟩)
  nwithin := fun u => (within_nil u).mono (by rintro e v ⟨rfl, rfl⟩; exact ⟨rfl, Below.refl _ _⟩)
  nlen := fun u => (len_nil u).mono (by rintro e v ⟨rfl, rfl⟩; exact ⟨rfl, Below.refl _ _⟩)
end Go.Proofs.Ytkphngljgfoniaa
