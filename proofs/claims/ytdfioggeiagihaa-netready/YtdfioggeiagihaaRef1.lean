/- The document's own net: Parted. -/
import Derived.Test.YtdfioggeiagihaaRef0
namespace Go.Proofs.Ytdfioggeiagihaa
open Go Go.RowKit

theorem eq2 (a b c d : Int) (w : World) : Sem.run Try.prog (Op.equalIn 10000 72 (.agg #[.int .i64 a, .int .i64 b]) (.agg #[.int .i64 c, .int .i64 d])) w = .ok (a == c && b == d) w := by
  have u3 := Try.underlying3
  have a3 := Try.isAgg3
  have z3 := Try.sizeOf3
  rw [show (10000 : Nat) = 9999 + 1 from rfl, Op.equalIn]
  simp only [Sem.run_bind, run_underlying Try.underlying72, Result.andThen_ok]
  simp only [Std.Legacy.Range.forIn_eq_forIn_range', Std.Legacy.Range.size, Nat.sub_zero, Nat.add_sub_cancel, Nat.div_one, List.range'_succ, List.range'_zero, List.forIn_cons, List.forIn_nil]
  go_simp
  by_cases h1 : a = c <;> by_cases h2 : b = d <;> simp [h1, h2]
theorem pair_two (a b x y : Int) : pair a b x y = ((a == x && b == y) || (a == y && b == x)) := by
  unfold pair
  rw [Bool.eq_iff_iff]
  simp
  constructor
  · rintro (⟨h1, h2⟩ | ⟨h1, h2⟩)
    · exact Or.inl ⟨h1.symm, h2.symm⟩
    · exact Or.inr ⟨h2.symm, h1.symm⟩
  · rintro (⟨h1, h2⟩ | ⟨h1, h2⟩)
    · exact Or.inl ⟨h1.symm, h2.symm⟩
    · exact Or.inr ⟨h2.symm, h1.symm⟩
theorem cuts_next (cuts : List (Int × Int)) (k : Nat) (h : k < cuts.length) (x y : Int) : cutsOf (cuts.take (k + 1)) x y = (cutsOf (cuts.take k) x y || pair cuts[k].1 cuts[k].2 x y) := by
  unfold cutsOf
  rw [List.take_succ_eq_append_getElem h, List.any_append]
  simp
set_option maxHeartbeats 1000000 in
theorem rParted (q : Nat) (vL vC : Value) (st : Nt) (cuts : List (Int × Int)) (x y : Int) (w : World) (h : RAt w q vL vC st cuts) (hfew : cuts.length ≤ 4096) :
    Calls Try.prog 32 #[.pointer (some ⟨q, 0, none⟩), .int .i64 x, .int .i64 y] w fun e w' => e = .returned (.bool (st.p x y)) ∧ w' = w := by
  rw [h.cut x y]
  obtain ⟨c0, c1, c2⟩ := h.cells
  have H := hide h
  clear h
  obtain ⟨a, c, rfl, -⟩ := H.out.cs.slice
  have he2 := eq2
  go_enter Try.func32, Try.ntmps32
  go_wp2_with fail
  go_loop [7] (fun i => ∃ k : Nat, k ≤ cuts.length ∧ i = .int .i64 (k : Int) ∧ cutsOf (cuts.take k) x y = false) (fun i => cuts.length - (intOf i).toNat)
  case atStart => exact ⟨0, Nat.zero_le _, rfl, rfl⟩
  case round =>
    obtain ⟨k, hk, rfl, hn⟩ := hrel
    have HN := hide hn
    clear hn
    by_cases hlt : k < cuts.length
    · obtain ⟨g, c', e', -, -, h4, -⟩ := Recs.there H.out.cs cutC_len (by omega)
      cases e'
      have e0 : w.cell? ⟨g, k * 2, none⟩ = some (.int .i64 cuts[k].1) := h4 k 0 hlt (by decide)
      have e1 : w.cell? ⟨g, k * 2 + 1, none⟩ = some (.int .i64 cuts[k].2) := h4 k 1 hlt (by decide)
      have HC := hide (cuts_next cuts k hlt x y)
      have HP := hide (pair_two cuts[k].1 cuts[k].2 x y)
      clear h4
      generalize cuts[k].1 = a0 at *
      generalize cuts[k].2 = b0 at *
      by_cases hA : (a0 == x && b0 == y) = true
      · have HT : Hid (cutsOf cuts x y = true) := by
          have h1 := HC.out
          rw [HP.out, hA] at h1
          have h2 : cutsOf (cuts.take (k + 1)) x y = true := by rw [h1]; simp
          obtain ⟨z, hz, hz2⟩ := List.any_eq_true.1 h2
          exact List.any_eq_true.2 ⟨z, List.mem_of_mem_take hz, hz2⟩
        go_wp2
        go_ret
        exact ⟨by rw [HT.out]; rfl, rfl⟩
      · have hA2 : (a0 == x && b0 == y) = false := by simpa using hA
        by_cases hB : (a0 == y && b0 == x) = true
        · have HT : Hid (cutsOf cuts x y = true) := by
            have h1 := HC.out
            rw [HP.out, hB] at h1
            have h2 : cutsOf (cuts.take (k + 1)) x y = true := by rw [h1]; simp
            obtain ⟨z, hz, hz2⟩ := List.any_eq_true.1 h2
            exact List.any_eq_true.2 ⟨z, List.mem_of_mem_take hz, hz2⟩
          clear hA
          go_wp2
          go_ret
          exact ⟨by rw [HT.out]; rfl, rfl⟩
        · have hB2 : (a0 == y && b0 == x) = false := by simpa using hB
          have HT : Hid (cutsOf (cuts.take (k + 1)) x y = false) := by
            have h1 := HC.out
            rw [HP.out, hA2, hB2, HN.out] at h1
            exact h1
          clear hA hB
          go_wp2
          go_round
          case rel => exact ⟨k + 1, hlt, by go_num, HT.out⟩
          case measure => simp [intOf]; omega
    · have HT : Hid (cutsOf cuts x y = false) := by
        have := HN.out
        rw [List.take_of_length_le (by omega)] at this
        exact this
      go_wp2
      go_ret
      exact ⟨by rw [HT.out]; rfl, rfl⟩
end Go.Proofs.Ytdfioggeiagihaa
