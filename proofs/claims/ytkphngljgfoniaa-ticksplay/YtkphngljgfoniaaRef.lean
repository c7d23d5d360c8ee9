/- The document's own clocks: May, Apart. -/
import Derived.Test.YtkphngljgfoniaaSteps
namespace Go.Proofs.Ytkphngljgfoniaa
open Go Go.RowKit

/-- The document's clocks lie at block q, their times in block g. -/
structure RAt (u : World) (q g k : Nat) (c : Ck) : Prop where
  head : u.heap[q]? = some (.cells #[.slice (some ⟨g, 0, none⟩) c.t.length k, .int .i64 c.b, .int .i64 c.m] 33 (0, 0))
  row : NumsAt u g k c.t
theorem RAt.lt {u : World} {q g k : Nat} {c : Ck} (h : RAt u q g k c) : q < u.heap.size ∧ g < u.heap.size := ⟨(Array.getElem?_eq_some_iff.1 h.head).1, h.row.lt⟩
theorem RAt.same {u v : World} {q g k : Nat} {c : Ck} (h : RAt u q g k c) (hq : v.heap[q]? = u.heap[q]?) (hg : v.heap[g]? = u.heap[g]?) : RAt v q g k c := ⟨hq.trans h.head, h.row.same hg⟩
theorem RAt.below {u v : World} {q g k : Nat} {c : Ck} (h : RAt u q g k c) (hb : Below u.heap.size u v) : RAt v q g k c := h.same (hb.block q h.lt.1) (hb.block g h.lt.2)
theorem RAt.cell0 {u : World} {q g k : Nat} {c : Ck} (h : RAt u q g k c) : u.cell? ⟨q, 0, none⟩ = some (.slice (some ⟨g, 0, none⟩) c.t.length k) := by simp [World.cell?, h.head]
theorem RAt.cell1 {u : World} {q g k : Nat} {c : Ck} (h : RAt u q g k c) : u.cell? ⟨q, 1, none⟩ = some (.int .i64 c.b) := by simp [World.cell?, h.head]
theorem RAt.cell2 {u : World} {q g k : Nat} {c : Ck} (h : RAt u q g k c) : u.cell? ⟨q, 2, none⟩ = some (.int .i64 c.m) := by simp [World.cell?, h.head]
theorem RAt.free {u : World} {q g k : Nat} {c : Ck} (h : RAt u q g k c) (i : Nat) : u.frozen? ⟨q, i, none⟩ = false := by simp [World.frozen?, h.head]
theorem RAt.ne {u : World} {q g k : Nat} {c : Ck} (h : RAt u q g k c) : q ≠ g := fun e => by
  obtain ⟨cur, hc⟩ := row_type h.row (g := g) rfl
  rw [← e, h.head] at hc
  cases hc
/-- A time is set; what was the farthest apart is set. -/
theorem RAt.setTime {u : World} {q g k : Nat} {c : Ck} (h : RAt u q g k c) (i : Nat) (x : Int) : RAt (u.setCell ⟨g, i, none⟩ (.int .i64 x)) q g k ⟨c.t.set i x, c.b, c.m⟩ := by
  refine ⟨?_, h.row.set i x⟩
  have hb := Below.heap_setCell u ⟨g, i, none⟩ (.int .i64 x) q h.ne
  show (u.setCell ⟨g, i, none⟩ (.int .i64 x)).heap[q]? = _
  rw [hb, h.head]
  simp
theorem RAt.setMost {u : World} {q g k : Nat} {c : Ck} (h : RAt u q g k c) (x : Int) : RAt (u.setCell ⟨q, 2, none⟩ (.int .i64 x)) q g k ⟨c.t, c.b, x⟩ :=
  ⟨by rw [heap_set3 h.head]; rfl, h.row.same (Below.heap_setCell u ⟨q, 2, none⟩ _ g (Ne.symm h.ne))⟩
/-- The blocks of the document's clocks. -/
def RF (q g : Nat) (k : Nat) : Prop := k = q ∨ k = g
set_option maxHeartbeats 400000 in
theorem rMay (n b : Int) (w : World) : Calls Try.prog 9 #[.int .i64 n, .int .i64 b] w fun e w' => e = .returned (.bool (decide (1 ≤ n ∧ n ≤ 128 ∧ 0 ≤ b ∧ b ≤ 17592186044416))) ∧ w' = w := by
  by_cases h1 : 1 ≤ n
  · by_cases h2 : n ≤ 128
    · by_cases h3 : 0 ≤ b
      · by_cases h4 : b ≤ 17592186044416
        · rw [decide_eq_true ⟨h1, h2, h3, h4⟩]
          go_enter Try.func9, Try.ntmps9
          go_wp2
          go_ret
          exact ⟨rfl, rfl⟩
        · rw [decide_eq_false (fun h => h4 h.2.2.2)]
          go_enter Try.func9, Try.ntmps9
          go_wp2
          go_ret
          exact ⟨rfl, rfl⟩
      · rw [decide_eq_false (fun h => h3 h.2.2.1)]
        go_enter Try.func9, Try.ntmps9
        go_wp2
        go_ret
        exact ⟨rfl, rfl⟩
    · rw [decide_eq_false (fun h => h2 h.2.1)]
      go_enter Try.func9, Try.ntmps9
      go_wp2
      go_ret
      exact ⟨rfl, rfl⟩
  · rw [decide_eq_false (fun h => h1 h.1)]
    go_enter Try.func9, Try.ntmps9
    go_wp2
    go_ret
    exact ⟨rfl, rfl⟩
theorem head_at {l : List Int} (h : 0 < l.length) : l.headD 0 = l[0] := by
  cases l with
  | nil => exact absurd h (by simp)
  | cons x l => rfl
set_option maxHeartbeats 1000000 in
theorem rApart (q g k : Nat) (c : Ck) (w : World) (h : RAt w q g k c) (hsome : 1 ≤ c.t.length) (hfew : c.t.length ≤ 128) (ht : Times c.t) : Calls Try.prog 14 #[.pointer (some ⟨q, 0, none⟩)] w fun e w' => e = .returned (.int .i64 (apart c.t)) ∧ Below w.heap.size w w' := by
  have hc0 := h.cell0
  have hx := h.row.cell 0 (by omega)
  rw [← head_at] at hx
  have HN := hide h.row
  have hh := ht.head
  have HT := hide ht
  clear h ht
  have HA : Hid (apart c.t = high (c.t.headD 0) (c.t.take c.t.length) - low (c.t.headD 0) (c.t.take c.t.length)) := by rw [List.take_length]; exact rfl
  generalize apart c.t = A at *
  generalize c.t.headD 0 = x at *
  generalize c.t = t at *
  go_enter Try.func14, Try.ntmps14
  go_wp2_with fail
  go_region
  all_goals
    clear hx
    go_wp2_with fail
    go_loop [3, 4, 5] (fun a b i => ∃ j : Nat, j ≤ t.length ∧ i = .int .i64 (j : Int) ∧ a = .int .i64 (low x (t.take j)) ∧ b = .int .i64 (high x (t.take j))) (fun _ _ i => t.length - (intOf i).toNat)
    case atStart => exact ⟨0, Nat.zero_le _, rfl, rfl, rfl⟩
    case round =>
      obtain ⟨j, hj, rfl, rfl, rfl⟩ := hrel
      have hlo := (HT.out.take j).low x hh
      have hhi := (HT.out.take j).high x hh
      by_cases hlt : j < t.length
      · have e1 := HN.out.cell j hlt
        have HL := hide (low_next x t j hlt)
        have HH := hide (high_next x t j hlt)
        generalize low x (t.take j) = lo at *
        generalize high x (t.take j) = hi at *
        generalize t[j] = y at *
        generalize h1 : low x (t.take (j + 1)) = lo2 at *
        generalize h2 : high x (t.take (j + 1)) = hi2 at *
        have H1 := hide h1
        have H2 := hide h2
        clear h1 h2
        have hm1 : (if y < lo then y else lo) = lo2 := by have := HL.out; split <;> omega
        have hm2 : (if hi < y then y else hi) = hi2 := by have := HH.out; split <;> omega
        go_wp2
        go_round
        case rel => exact ⟨j + 1, hlt, by go_num, by rw [H1.out], by rw [H2.out]⟩
        case measure => simp [intOf]; omega
      · have HA2 := HA.out
        rw [show t.length = j from by omega] at HA2
        generalize low x (t.take j) = lo at *
        generalize high x (t.take j) = hi at *
        have HA3 := hide HA2
        clear HA2 HA
        go_wp2
        go_ret
        exact ⟨by rw [HA3.out]; rfl, below_drewN (Below.refl _ _) _⟩
end Go.Proofs.Ytkphngljgfoniaa
