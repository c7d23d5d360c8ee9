/- How a list of vecs that comes in is read. -/
import Derived.Test.YtklekpbfjcpjlaaVecIn
import Derived.Deep.Slices
import Derived.Deep.Strs
namespace Go.Proofs.Ytklekpbfjcpjlaa
open Go.ChangeShapes Go.WideShapes Go.ChangeAt Go.RowKit Go.Joins Go.Deep

/-- These are the vecs of a list that came in. -/
def Vecs (a : Option Addr) (len : Nat) (X Y Z : Nat → Int) (W : World) : Prop :=
  len = 0 ∨ ∃ b off, a = some ⟨b, off, none⟩ ∧ b < W.heap.size ∧
    ∀ i, i < len → (I64 (X i) ∧ I64 (Y i) ∧ I64 (Z i)) ∧ W.cell? ⟨b, off + i * 3, none⟩ = some (.int .i64 (X i)) ∧ W.cell? ⟨b, off + i * 3 + 1, none⟩ = some (.int .i64 (Y i)) ∧ W.cell? ⟨b, off + i * 3 + 2, none⟩ = some (.int .i64 (Z i))

theorem open_vecs {H : Type} {enc : TypeId × Value → H} {W : World} {base : Nat} {sp : Nat → Bool} {held : Bool} {a : Option Addr} {len cap : Nat} {d : DataW H} {p : List MemPlace}
    (h : DataW.Trod enc Try.prog W base sp held 33 (.slice a len cap) d p) : len ≤ maxLen ∧ ∃ X Y Z : Nat → Int, Vecs a len X Y Z W := by
  obtain ⟨fuel, hf⟩ := h
  rcases open_slice Try.underlying33 hf with ⟨hcs, _⟩ | ⟨a', len', cap', m, n, D, Pl, hcs, hb, hl, hm, hmm, _, hx⟩
  · simp [Value.cells] at hcs
    obtain ⟨rfl, rfl, rfl⟩ := hcs
    exact ⟨Nat.zero_le _, fun _ => 0, fun _ => 0, fun _ => 0, Or.inl rfl⟩
  · simp [Value.cells] at hcs
    obtain ⟨rfl, rfl, rfl⟩ := hcs
    refine ⟨by omega, ?_⟩
    have hlm : len ≤ m := by rw [hmm]; split <;> omega
    have each : ∀ i, i < len → ∃ q : Int × Int × Int, (I64 q.1 ∧ I64 q.2.1 ∧ I64 q.2.2) ∧ W.cell? (a'.add (i * 3)) = some (.int .i64 q.1) ∧ W.cell? (a'.add (i * 3 + 1)) = some (.int .i64 q.2.1) ∧ W.cell? (a'.add (i * 3 + 2)) = some (.int .i64 q.2.2) := by
      intro i hi
      obtain ⟨cs', h1, h2⟩ := hx i (by omega)
      rw [Try.cells23] at h1
      obtain ⟨_, hlen, hcell⟩ := World.cells?_some h1
      obtain ⟨y0, y1, y2, k, _, _, g0, g1, g2⟩ := trod_struct3 Try.underlying23 h2
      match cs', hlen with
      | [v0, v1, v2], _ =>
        have e0 := hcell 0 (by omega)
        have e1 := hcell 1 (by omega)
        have e2 := hcell 2 (by omega)
        rw [add_add] at e0 e1 e2
        have c2 : Try.prog.cellsOf 2 = 1 := by kernel_rfl
        simp [c2] at g0 g1 g2
        obtain ⟨x, f0, _, wx⟩ := DataW.trod_int Try.underlying2 g0
        obtain ⟨y, f1, _, wy⟩ := DataW.trod_int Try.underlying2 g1
        obtain ⟨z, f2, _, wz⟩ := DataW.trod_int Try.underlying2 g2
        simp at f0 f1 f2
        subst f0 f1 f2
        exact ⟨(x, y, z), ⟨I64_of_wf wx, I64_of_wf wy, I64_of_wf wz⟩, by simpa using e0, by simpa using e1, by simpa using e2⟩
    by_cases h0 : len = 0
    · exact ⟨fun _ => 0, fun _ => 0, fun _ => 0, Or.inl h0⟩
    obtain ⟨q, hq⟩ := choose_lt each
    obtain ⟨b, off, spot⟩ := a'
    have hs : spot = none := by
      have := (hq 0 (by omega)).2.1
      cases spot with
      | none => rfl
      | some s =>
        exfalso
        simp [Addr.add, World.cell?] at this
        split at this <;> simp at this
    subst hs
    refine ⟨fun i => (q i).1, fun i => (q i).2.1, fun i => (q i).2.2, Or.inr ⟨b, off, rfl, ?_, fun i hi => ?_⟩⟩
    · have := World.block_lt_of_cell? _ _ (hq 0 (by omega)).2.1
      simpa [Addr.add] using this
    · obtain ⟨k0, k1, k2, k3⟩ := hq i hi
      refine ⟨k0, ?_, ?_, ?_⟩
      · by_cases hz : i = 0
        · subst hz; simpa [Addr.add] using k1
        · have hz3 : ¬ i * 3 = 0 := by omega
          simpa [Addr.add, hz3] using k1
      · simpa [Addr.add, Nat.add_assoc] using k2
      · simpa [Addr.add, Nat.add_assoc] using k3
end Go.Proofs.Ytklekpbfjcpjlaa
