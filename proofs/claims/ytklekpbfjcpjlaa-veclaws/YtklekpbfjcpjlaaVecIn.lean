/- How a vec that comes in is read, and how it reads behind the call. -/
import Derived.Test.YtklekpbfjcpjlaaAlive
import Derived.ProofKit
import Derived.Lib.SmallJoins
namespace Go.Proofs.Ytklekpbfjcpjlaa
open Go.ChangeShapes Go.WideShapes Go.ChangeAt Go.RowKit Go.Joins

theorem Try.own : ownKnob Try.prog.godebug = none := by kernel_rfl
theorem Try.laidOut : laidOutB Try.prog = true := by kernel_rfl
theorem Try.cells23 : Try.prog.cellsOf 23 = 3 := by kernel_rfl
theorem I64_of_wf {x : Int} (h : (Lit.int .i64 x).wf = true) : I64 x := by
  simp [Lit.wf, IntKind.min, IntKind.max, IntKind.signed, IntKind.bits] at h
  unfold I64; omega
theorem wf_of_I64 {x : Int} (h : I64 x) : (Lit.int .i64 x).wf = true := by
  unfold I64 at h
  simp [Lit.wf, IntKind.min, IntKind.max, IntKind.signed, IntKind.bits]
  omega
/-- A vec as data. -/
def d3 {H : Type} (x y z : Int) : DataW H := .agg [.lit (.int .i64 x), .lit (.int .i64 y), .lit (.int .i64 z)]
theorem open_vec {H : Type} {enc : TypeId × Value → H} {W : World} {r : Reach} {b0 base : Nat} {sp : Nat → Bool} {held : Bool} {v : Value} {d : DataW H} {p : List MemPlace}
    (hv : Value.okWide Try.prog W r b0 23 v) (h : DataW.Trod enc Try.prog W base sp held 23 v d p) :
    ∃ x y z : Int, v = V3 x y z ∧ d = d3 x y z ∧ p = [] ∧ I64 x ∧ I64 y ∧ I64 z := by
  obtain ⟨c0, c1, c2, y0, y1, y2, m, rfl, rfl, rfl, hy0, hy1, hy2⟩ := open_agg3 Try.underlying23 (by kernel_rfl) Try.cells23 hv h
  obtain ⟨a, e0, rfl, wa⟩ := DataW.trod_int Try.underlying2 hy0
  obtain ⟨b, e1, rfl, wb⟩ := DataW.trod_int Try.underlying2 hy1
  obtain ⟨c, e2, rfl, wc⟩ := DataW.trod_int Try.underlying2 hy2
  simp at e0 e1 e2
  subst e0 e1 e2
  exact ⟨a, b, c, rfl, rfl, rfl, I64_of_wf wa, I64_of_wf wb, I64_of_wf wc⟩
theorem shut_vec {H : Type} {enc : TypeId × Value → H} {W : World} {base : Nat} {sp : Nat → Bool} {held : Bool} {x y z : Int} (hx : I64 x) (hy : I64 y) (hz : I64 z) :
    DataW.Trod enc Try.prog W base sp held 23 (V3 x y z) (d3 x y z) [] :=
  shut_agg3 (y0 := (.lit (.int .i64 x), [])) (y1 := (.lit (.int .i64 y), [])) (y2 := (.lit (.int .i64 z), [])) Try.underlying23 (by kernel_rfl) Try.cells23
    ⟨1, by simp [DataW.trod, Try.underlying2, wf_of_I64 hx]⟩ ⟨1, by simp [DataW.trod, Try.underlying2, wf_of_I64 hy]⟩ ⟨1, by simp [DataW.trod, Try.underlying2, wf_of_I64 hz]⟩
end Go.Proofs.Ytklekpbfjcpjlaa
