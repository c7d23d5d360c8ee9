/- The document's own log: may. -/
import Derived.Test.YtelkccfjeinlcaaG1RefF
namespace Go.Proofs.Ytelkccfjeinlcaa
open Go Go.RowKit
/-- Are the blocks there? -/
abbrev St.may (st : St) (o n : Int) : Prop := 1 ≤ n ∧ 0 ≤ o ∧ o < (st.sure.length : Int) ∧ n ≤ (st.sure.length : Int) - o
set_option maxHeartbeats 400000 in
theorem rMay (p : Nat) (vS vL : Value) (st : St) (o n : Int) (w : World) (h : RAt w p vS vL st) (hl : st.sure.length ≤ 4096) :
    Calls Try.prog 54 #[.pointer (some ⟨p, 0, none⟩), .int .i64 o, .int .i64 n] w fun e w' => e = .returned (.bool (decide (st.may o n))) ∧ w' = w := by
  obtain ⟨a, c, rfl, _⟩ := slice_of h.sure
  have hc := h.cell0
  clear h
  by_cases h0 : 1 ≤ n
  · by_cases h1 : 0 ≤ o
    · by_cases h2 : o < (st.sure.length : Int)
      · have hw : wrap64 ((st.sure.length : Int) - o) = (st.sure.length : Int) - o := by unfold wrap64; omega
        by_cases h3 : n ≤ (st.sure.length : Int) - o
        · have hd : decide (st.may o n) = true := decide_eq_true ⟨h0, h1, h2, h3⟩
          rw [hd]
          clear hd
          have HL := hide hl
          clear hl
          go_enter Try.func54, Try.ntmps54
          go_wp2
          go_ret
          exact ⟨rfl, rfl⟩
        · have hd : decide (st.may o n) = false := decide_eq_false (fun h => h3 h.2.2.2)
          rw [hd]
          clear hd
          have HL := hide hl
          clear hl
          go_enter Try.func54, Try.ntmps54
          go_wp2
          go_ret
          exact ⟨rfl, rfl⟩
      · have hd : decide (st.may o n) = false := decide_eq_false (fun h => h2 h.2.2.1)
        rw [hd]
        clear hd
        go_enter Try.func54, Try.ntmps54
        go_wp2
        go_ret
        exact ⟨rfl, rfl⟩
    · have hd : decide (st.may o n) = false := decide_eq_false (fun h => h1 h.2.1)
      rw [hd]
      clear hd
      go_enter Try.func54, Try.ntmps54
      go_wp2
      go_ret
      exact ⟨rfl, rfl⟩
  · have hd : decide (st.may o n) = false := decide_eq_false (fun h => h0 h.1)
    rw [hd]
    clear hd
    go_enter Try.func54, Try.ntmps54
    go_wp2
    go_ret
    exact ⟨rfl, rfl⟩
end Go.Proofs.Ytelkccfjeinlcaa
