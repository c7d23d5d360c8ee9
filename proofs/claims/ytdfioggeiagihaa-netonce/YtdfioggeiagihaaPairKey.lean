/- Keys of two numbers (structs), for maps that are told plainly. (70 is the trial's name of the type.) -/
import Derived.Test.YtdfioggeiagihaaMapKit
import Derived.DeepKeys4
namespace Go.Proofs.Ytdfioggeiagihaa
open Go Go.RowKit
open Go.Maps (Keyed)

theorem keyedP : Keyed Try.prog 70 := Keyed.of_law (deep_law_laid (by kernel_rfl : laidOutB Try.prog = true) (m := 3) (by omega) (of_decide_eq_true (by kernel_rfl)) (by kernel_rfl) (by rw [Try.underlying70]))
def kP (a b : Int) : Lit := .string (keyBytes [.int .i64 a, .int .i64 b])
theorem wf_i64 {a : Int} (h : -9223372036854775808 ≤ a ∧ a ≤ 9223372036854775807) : (Lit.int .i64 a).wf = true := by
  simp [Lit.wf, IntKind.min, IntKind.max, IntKind.signed, IntKind.bits]
  omega
theorem key_P {a b : Int} (ha : -9223372036854775808 ≤ a ∧ a ≤ 9223372036854775807) (hb : -9223372036854775808 ≤ b ∧ b ≤ 9223372036854775807) :
    keyOf Try.prog 70 (.agg #[.int .i64 a, .int .i64 b]) = some (kP a b) := by
  have wa := wf_i64 ha
  have wb := wf_i64 hb
  have hkt : Try.prog.keyType 70 = true := by kernel_rfl
  have hc : Try.prog.cellsOf 70 = 2 := by kernel_rfl
  have h1 : Try.prog.cellsOf 3 = 1 := by kernel_rfl
  have hpos : 0 < Try.prog.types.size := of_decide_eq_true (by kernel_rfl)
  obtain ⟨m, hm⟩ : ∃ m, Try.prog.types.size = m + 1 := ⟨Try.prog.types.size - 1, by omega⟩
  unfold keyOf
  simp only [Try.underlying70]
  rw [if_pos (by simp [hkt, Value.formed, Try.underlying70, hc]), hm]
  unfold Program.keyLits
  simp only [Try.underlying70, Value.cells]
  rw [if_pos (by rw [hc]; exact ⟨rfl, by kernel_rfl⟩)]
  simp [Program.keyLits, Try.underlying3, wa, wb, h1, kP]
/-- Two keys are the same only if both numbers are. -/
theorem kP_inj {a b c d : Int} (ha : -9223372036854775808 ≤ a ∧ a ≤ 9223372036854775807) (hb : -9223372036854775808 ≤ b ∧ b ≤ 9223372036854775807) (hc : -9223372036854775808 ≤ c ∧ c ≤ 9223372036854775807) (hd : -9223372036854775808 ≤ d ∧ d ≤ 9223372036854775807) (h : kP a b = kP c d) : a = c ∧ b = d := by
  have h1 := key_P ha hb
  rw [h] at h1
  have := keyedP.inj h1 (key_P hc hd)
  simpa using this
end Go.Proofs.Ytdfioggeiagihaa
