/-
  No cell of these rows narrows 'for every input' (looked for: loops, veiled, ifaces, maps, wideKeys, modest, calm, conditions, laid).
  DERIVED. THE GIVEN ROWS OF THIS SEAT. 4 by the template 'for every input the law returns true; each argument reads behind the call as it read before'; 0 by the template 'total and deterministic' (their statements: YtkphngljgfoniaaTotals.lean).
  GIVEN WITH THE SEED: the statements are not yours to turn. If you find one false, say at which input.
  Laid BY PROGRAM, IN A SANDBOX (cutbox-rows.mjs): the forced cells as the released guide's own fill.sh prints them over the translation fee8b7ca93fa14bc… (all of the seat's roots in one cut). By AI agents, Wed Nov 11 2026. No macro, syntax, notation, axiom, sorry.
-/
import Derived.Test.YtkphngljgfoniaaChecked
import GoSem.Claim
import GoSem.ClaimJoined
import GoSem.ClaimMapViews
import Derived.JoinedTies
import Derived.KernelRfl
namespace Go.Proofs.Ytkphngljgfoniaa
/- THE CELL 'sum', in the pinned program and in every row, IS THE sha256 OF THE DUMP (.gsa) THAT YtkphngljgfoniaaProg.lean LOADS. Nothing in Lean hashes anything: it is a label: what it is worth is what the hold of that sum in a sandbox is worth. -/
noncomputable def Try.pinned : Pinned := { name := "ytkphngljgfoniaa", sum := "fee8b7ca93fa14bc199742030956acd31115c7965099d6de759f59ea46f6dd9c", checked := Try.checked }
namespace Rows
def none {H : Type} : Left H := { results := [], args := [] }

/-- 'reevelaw09.TicksPlay': WHATEVER THE INPUT: true; the input reads as it did. -/
def ticksPlaySpec : ChangeSpec := { name := "ticksPlay", fn := fun _ => fun
  | [d1, d2, d3] => { results := [.lit (.bool true)], args := [d1, d2, d3] }
  | _ => none }
def ticksPlayRow : OpenClaim := { program := "ytkphngljgfoniaa", sum := "fee8b7ca93fa14bc199742030956acd31115c7965099d6de759f59ea46f6dd9c", func := "reeve/reevelaw09.TicksPlay", spec := "ticksPlay", unfollowed := true, recurses := true, apart := false }
def TicksPlaySaid : Prop := ticksPlayRow.holds Try.pinned (OpenSpec.ofChange ticksPlaySpec)

/-- ITS FALSE NEIGHBOUR: 'it returns false'. Refute it at one input. -/
def ticksPlayWrong : ChangeSpec := { name := "ticksPlay", fn := fun _ => fun
  | [d1, d2, d3] => { results := [.lit (.bool false)], args := [d1, d2, d3] }
  | _ => none }
def TicksPlayWrongFalsely : Prop := ticksPlayRow.holds Try.pinned (OpenSpec.ofChange ticksPlayWrong)

/-- 'reevelaw09.TicksNear': WHATEVER THE INPUT: true; the input reads as it did. -/
def ticksNearSpec : ChangeSpec := { name := "ticksNear", fn := fun _ => fun
  | [d1, d2, d3] => { results := [.lit (.bool true)], args := [d1, d2, d3] }
  | _ => none }
def ticksNearRow : OpenClaim := { program := "ytkphngljgfoniaa", sum := "fee8b7ca93fa14bc199742030956acd31115c7965099d6de759f59ea46f6dd9c", func := "reeve/reevelaw09.TicksNear", spec := "ticksNear", unfollowed := true, recurses := true, apart := false }
def TicksNearSaid : Prop := ticksNearRow.holds Try.pinned (OpenSpec.ofChange ticksNearSpec)

/-- ITS FALSE NEIGHBOUR: 'it returns false'. Refute it at one input. -/
def ticksNearWrong : ChangeSpec := { name := "ticksNear", fn := fun _ => fun
  | [d1, d2, d3] => { results := [.lit (.bool false)], args := [d1, d2, d3] }
  | _ => none }
def TicksNearWrongFalsely : Prop := ticksNearRow.holds Try.pinned (OpenSpec.ofChange ticksNearWrong)

/-- 'reevelaw09.TicksNone': WHATEVER THE INPUT: true; the input reads as it did. -/
def ticksNoneSpec : ChangeSpec := { name := "ticksNone", fn := fun _ => fun
  | [d1, d2] => { results := [.lit (.bool true)], args := [d1, d2] }
  | _ => none }
def ticksNoneRow : OpenClaim := { program := "ytkphngljgfoniaa", sum := "fee8b7ca93fa14bc199742030956acd31115c7965099d6de759f59ea46f6dd9c", func := "reeve/reevelaw09.TicksNone", spec := "ticksNone", unfollowed := true, recurses := true, apart := false }
def TicksNoneSaid : Prop := ticksNoneRow.holds Try.pinned (OpenSpec.ofChange ticksNoneSpec)

/-- ITS FALSE NEIGHBOUR: 'it returns false'. Refute it at one input. -/
def ticksNoneWrong : ChangeSpec := { name := "ticksNone", fn := fun _ => fun
  | [d1, d2] => { results := [.lit (.bool false)], args := [d1, d2] }
  | _ => none }
def TicksNoneWrongFalsely : Prop := ticksNoneRow.holds Try.pinned (OpenSpec.ofChange ticksNoneWrong)

/-- 'reevelaw09.TicksOrder': WHATEVER THE INPUT: true; the input reads as it did. -/
def ticksOrderSpec : ChangeSpec := { name := "ticksOrder", fn := fun _ => fun
  | [d1, d2] => { results := [.lit (.bool true)], args := [d1, d2] }
  | _ => none }
def ticksOrderRow : OpenClaim := { program := "ytkphngljgfoniaa", sum := "fee8b7ca93fa14bc199742030956acd31115c7965099d6de759f59ea46f6dd9c", func := "reeve/reevelaw09.TicksOrder", spec := "ticksOrder", unfollowed := true, recurses := true, apart := false }
def TicksOrderSaid : Prop := ticksOrderRow.holds Try.pinned (OpenSpec.ofChange ticksOrderSpec)

/-- ITS FALSE NEIGHBOUR: 'it returns false'. Refute it at one input. -/
def ticksOrderWrong : ChangeSpec := { name := "ticksOrder", fn := fun _ => fun
  | [d1, d2] => { results := [.lit (.bool false)], args := [d1, d2] }
  | _ => none }
def TicksOrderWrongFalsely : Prop := ticksOrderRow.holds Try.pinned (OpenSpec.ofChange ticksOrderWrong)

/- THE SECOND FORM. 'bulk': how many values and letters a reading holds, each counted each time it is reached (what is shared counts as often as it is met; a slice's spare places count too). A statement '..UptoSaid' is the law's where the arguments, and the package variables that the reading takes, are together of bulk at most 1048576: NARROWER than '..Said'. Prove '..Said' where nothing that the law and all that it calls make is longer than what came in: it says more and counts as full. Else prove '..UptoSaid'. A law counts once. -/
mutual
def uptoBulk {H : Type} : DataW H → Nat
  | .lit (.string bytes) => bytes.length + 1
  | .lit _ => 1
  | .nil => 1
  | .ptr d => uptoBulk d + 1
  | .slice elems spare => uptoBulkAll elems + uptoBulkAll spare + 1
  | .agg parts => uptoBulkAll parts + 1
  | .iface _ d => uptoBulk d + 1
  | .map entries => uptoBulkEntries entries + 1
  | .held _ => 1
def uptoBulkAll {H : Type} : List (DataW H) → Nat
  | [] => 0
  | d :: r => uptoBulk d + uptoBulkAll r
def uptoBulkEntries {H : Type} : List (Lit × DataW H) → Nat
  | [] => 0
  | x :: r => uptoBulkEntry x + uptoBulkEntries r
def uptoBulkEntry {H : Type} : Lit × DataW H → Nat
  | (.string bytes, d) => bytes.length + uptoBulk d + 1
  | (_, d) => uptoBulk d + 1
 end
def uptoSmall : (H : Type) → List (DataW H) → Bool := fun _ ds => decide (uptoBulkAll ds ≤ 1048576)
def OpenSpec.upto (s : _root_.Go.ChangeSpec) : _root_.Go.OpenSpec := { _root_.Go.OpenSpec.ofChange s with cond := some uptoSmall }

/-- 'reevelaw09.TicksPlay', WHERE WHAT IT READS IS OF BULK AT MOST 1048576: true; the input reads as it did. -/
def ticksPlayUptoRow : OpenClaim := { program := "ytkphngljgfoniaa", sum := "fee8b7ca93fa14bc199742030956acd31115c7965099d6de759f59ea46f6dd9c", func := "reeve/reevelaw09.TicksPlay", spec := "ticksPlay", unfollowed := true, recurses := true, apart := false, narrowed := true }
def TicksPlayUptoSaid : Prop := ticksPlayUptoRow.holds Try.pinned (OpenSpec.upto ticksPlaySpec)

/-- 'reevelaw09.TicksNear', WHERE WHAT IT READS IS OF BULK AT MOST 1048576: true; the input reads as it did. -/
def ticksNearUptoRow : OpenClaim := { program := "ytkphngljgfoniaa", sum := "fee8b7ca93fa14bc199742030956acd31115c7965099d6de759f59ea46f6dd9c", func := "reeve/reevelaw09.TicksNear", spec := "ticksNear", unfollowed := true, recurses := true, apart := false, narrowed := true }
def TicksNearUptoSaid : Prop := ticksNearUptoRow.holds Try.pinned (OpenSpec.upto ticksNearSpec)

/-- 'reevelaw09.TicksNone', WHERE WHAT IT READS IS OF BULK AT MOST 1048576: true; the input reads as it did. -/
def ticksNoneUptoRow : OpenClaim := { program := "ytkphngljgfoniaa", sum := "fee8b7ca93fa14bc199742030956acd31115c7965099d6de759f59ea46f6dd9c", func := "reeve/reevelaw09.TicksNone", spec := "ticksNone", unfollowed := true, recurses := true, apart := false, narrowed := true }
def TicksNoneUptoSaid : Prop := ticksNoneUptoRow.holds Try.pinned (OpenSpec.upto ticksNoneSpec)

/-- 'reevelaw09.TicksOrder', WHERE WHAT IT READS IS OF BULK AT MOST 1048576: true; the input reads as it did. -/
def ticksOrderUptoRow : OpenClaim := { program := "ytkphngljgfoniaa", sum := "fee8b7ca93fa14bc199742030956acd31115c7965099d6de759f59ea46f6dd9c", func := "reeve/reevelaw09.TicksOrder", spec := "ticksOrder", unfollowed := true, recurses := true, apart := false, narrowed := true }
def TicksOrderUptoSaid : Prop := ticksOrderUptoRow.holds Try.pinned (OpenSpec.upto ticksOrderSpec)

end Rows
end Go.Proofs.Ytkphngljgfoniaa
