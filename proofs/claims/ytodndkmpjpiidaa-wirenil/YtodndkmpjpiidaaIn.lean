/- How what comes in is read, and how it reads behind the call. -/
import Derived.Test.YtodndkmpjpiidaaMeth
import Derived.Test.YtodndkmpjpiidaaLaws1
import Derived.Test.YtodndkmpjpiidaaReads
import Derived.Test.YtodndkmpjpiidaaBackLaw
import Derived.Test.YtodndkmpjpiidaaRows
import Derived.ProofKit
import Derived.OpenShut
import Derived.Lib.SmallJoins
import Derived.Deep.Slices
import Derived.Deep.Strs
import Derived.SizedLaws
namespace Go.Proofs.Ytodndkmpjpiidaa
open Go Go.ChangeShapes Go.WideShapes Go.ChangeAt Go.RowKit Go.Joins Go.Deep

theorem cellsA : Try.prog.cellsOf 5 = 1 := by kernel_rfl
theorem cellsB : Try.prog.cellsOf 2 = 1 := by kernel_rfl
theorem cellsC : Try.prog.cellsOf 22 = 1 := by kernel_rfl
theorem cellsD : Try.prog.cellsOf 9 = 1 := by kernel_rfl
theorem nat_of_wf8 {x : Int} (h : (Lit.int .u8 x).wf = true) : ∃ m : Nat, x = (m : Int) ∧ m < 256 := by
  simp [Lit.wf, IntKind.min, IntKind.max, IntKind.signed, IntKind.bits] at h
  exact ⟨x.toNat, by omega, by omega⟩
theorem nat_of_wf64 {x : Int} (h : (Lit.int .u64 x).wf = true) : ∃ m : Nat, x = (m : Int) ∧ m < 18446744073709551616 := by
  simp [Lit.wf, IntKind.min, IntKind.max, IntKind.signed, IntKind.bits] at h
  exact ⟨x.toNat, by omega, by omega⟩
theorem i64_of_wf {x : Int} (h : (Lit.int .i64 x).wf = true) : -9223372036854775808 ≤ x ∧ x ≤ 9223372036854775807 := by
  simp [Lit.wf, IntKind.min, IntKind.max, IntKind.signed, IntKind.bits] at h
  omega
theorem maxLen_le {n : Nat} (h : n ≤ maxLen) : n ≤ 9223372036854775807 := by unfold maxLen at h; omega

theorem cells37 : Try.prog.cellsOf 37 = 3 := by kernel_rfl
theorem open_asks {H : Type} {enc : TypeId × Value → H} {W : World} {base : Nat} {sp : Nat → Bool} {held : Bool} {a : Option Addr} {len cap : Nat} {d : DataW H} {p : List MemPlace}
    (h : DataW.Trod enc Try.prog W base sp held 29 (.slice a len cap) d p) : len ≤ maxLen ∧ ∃ (A : Nat → Nat) (B : Nat → Int) (E : Nat → Nat), Asks a len A E B W := by
  obtain ⟨fuel, hf⟩ := h
  rcases open_slice Try.underlying29 hf with ⟨hcs, _⟩ | ⟨a', len', cap', m, n, D, Pl, hcs, hb, hl, hm, hmm, _, hx⟩
  · simp [Value.cells] at hcs
    obtain ⟨rfl, rfl, rfl⟩ := hcs
    exact ⟨Nat.zero_le _, fun _ => 0, fun _ => 0, fun _ => 0, Or.inl rfl⟩
  · simp [Value.cells] at hcs
    obtain ⟨rfl, rfl, rfl⟩ := hcs
    refine ⟨by omega, ?_⟩
    have hlm : len ≤ m := by rw [hmm]; split <;> omega
    have each : ∀ i, i < len → ∃ q : Nat × Int × Nat, (q.1 < 256 ∧ (-9223372036854775808 ≤ q.2.1 ∧ q.2.1 ≤ 9223372036854775807) ∧ q.2.2 < 18446744073709551616) ∧ W.cell? (a'.add (i * 3)) = some (.int .u8 (q.1 : Int)) ∧ W.cell? (a'.add (i * 3 + 1)) = some (.int .i64 q.2.1) ∧ W.cell? (a'.add (i * 3 + 2)) = some (.int .u64 (q.2.2 : Int)) := by
      intro i hi
      obtain ⟨cs', h1, h2⟩ := hx i (by omega)
      rw [cells37] at h1
      obtain ⟨_, hlen, hcell⟩ := World.cells?_some h1
      obtain ⟨y0, y1, y2, k, _, _, g0, g1, g2⟩ := trod_struct3 Try.underlying37 h2
      match cs', hlen with
      | [v0, v1, v2], _ =>
        have e0 := hcell 0 (by omega)
        have e1 := hcell 1 (by omega)
        have e2 := hcell 2 (by omega)
        rw [add_add] at e0 e1 e2
        simp [cellsA, cellsB, cellsC] at g0 g1 g2
        obtain ⟨z0, f0, _, u0⟩ := DataW.trod_int Try.underlying5 g0
        simp at f0
        subst f0
        obtain ⟨x0, rfl, m0⟩ := nat_of_wf8 u0
        obtain ⟨z1, f1, _, u1⟩ := DataW.trod_int Try.underlying2 g1
        simp at f1
        subst f1
        have m1 := i64_of_wf u1
        obtain ⟨z2, f2, _, u2⟩ := DataW.trod_int Try.underlying22 g2
        simp at f2
        subst f2
        obtain ⟨x2, rfl, m2⟩ := nat_of_wf64 u2
        exact ⟨(x0, z1, x2), ⟨m0, m1, m2⟩, by simpa using e0, by simpa using e1, by simpa using e2⟩
    by_cases h0 : len = 0
    · exact ⟨fun _ => 0, fun _ => 0, fun _ => 0, Or.inl h0⟩
    obtain ⟨q, hq⟩ := choose_lt each
    obtain ⟨b, off, spot⟩ := a'
    have hs : spot = none := by
      have := (hq 0 (by omega)).2.1
      cases spot with
      | none => rfl
      | some s =>
        exfalso
        simp [Addr.add, World.cell?] at this
        split at this <;> simp at this
    subst hs
    refine ⟨fun i => (q i).1, fun i => (q i).2.1, fun i => (q i).2.2, Or.inr ⟨b, off, rfl, ?_, fun i hi => ?_⟩⟩
    · have := World.block_lt_of_cell? _ _ (hq 0 (by omega)).2.1
      simpa [Addr.add] using this
    · obtain ⟨k0, k1, k2, k3⟩ := hq i hi
      refine ⟨⟨k0.1, k0.2.2, k0.2.1.1, k0.2.1.2⟩, ?_, ?_, ?_⟩
      · by_cases hz : i = 0
        · subst hz; simpa [Addr.add] using k1
        · have hz3 : ¬ i * 3 = 0 := by omega
          simpa [Addr.add, hz3] using k1
      · simpa [Addr.add, Nat.add_assoc] using k2
      · simpa [Addr.add, Nat.add_assoc] using k3

theorem cells44 : Try.prog.cellsOf 44 = 3 := by kernel_rfl
theorem open_items {H : Type} {enc : TypeId × Value → H} {W : World} {base : Nat} {sp : Nat → Bool} {held : Bool} {a : Option Addr} {len cap : Nat} {d : DataW H} {p : List MemPlace}
    (h : DataW.Trod enc Try.prog W base sp held 42 (.slice a len cap) d p) : len ≤ maxLen ∧ ∃ (A : Nat → Nat) (B : Nat → Nat) (E : Nat → ByteArray), Items a len A B E W := by
  obtain ⟨fuel, hf⟩ := h
  rcases open_slice Try.underlying42 hf with ⟨hcs, _⟩ | ⟨a', len', cap', m, n, D, Pl, hcs, hb, hl, hm, hmm, _, hx⟩
  · simp [Value.cells] at hcs
    obtain ⟨rfl, rfl, rfl⟩ := hcs
    exact ⟨Nat.zero_le _, fun _ => 0, fun _ => 0, fun _ => { data := #[] }, Or.inl rfl⟩
  · simp [Value.cells] at hcs
    obtain ⟨rfl, rfl, rfl⟩ := hcs
    refine ⟨by omega, ?_⟩
    have hlm : len ≤ m := by rw [hmm]; split <;> omega
    have each : ∀ i, i < len → ∃ q : Nat × Nat × ByteArray, (q.1 < 256 ∧ q.2.1 < 18446744073709551616 ∧ q.2.2.size ≤ 9223372036854775807) ∧ W.cell? (a'.add (i * 3)) = some (.int .u8 (q.1 : Int)) ∧ W.cell? (a'.add (i * 3 + 1)) = some (.int .u64 (q.2.1 : Int)) ∧ W.cell? (a'.add (i * 3 + 2)) = some (.string q.2.2) := by
      intro i hi
      obtain ⟨cs', h1, h2⟩ := hx i (by omega)
      rw [cells44] at h1
      obtain ⟨_, hlen, hcell⟩ := World.cells?_some h1
      obtain ⟨y0, y1, y2, k, _, _, g0, g1, g2⟩ := trod_struct3 Try.underlying44 h2
      match cs', hlen with
      | [v0, v1, v2], _ =>
        have e0 := hcell 0 (by omega)
        have e1 := hcell 1 (by omega)
        have e2 := hcell 2 (by omega)
        rw [add_add] at e0 e1 e2
        simp [cellsA, cellsC, cellsD] at g0 g1 g2
        obtain ⟨z0, f0, _, u0⟩ := DataW.trod_int Try.underlying5 g0
        simp at f0
        subst f0
        obtain ⟨x0, rfl, m0⟩ := nat_of_wf8 u0
        obtain ⟨z1, f1, _, u1⟩ := DataW.trod_int Try.underlying22 g1
        simp at f1
        subst f1
        obtain ⟨x1, rfl, m1⟩ := nat_of_wf64 u1
        obtain ⟨x2, f2, _, m2⟩ := DataW.trod_string Try.underlying9 g2
        simp at f2
        subst f2
        exact ⟨(x0, x1, x2), ⟨m0, m1, maxLen_le m2⟩, by simpa using e0, by simpa using e1, by simpa using e2⟩
    by_cases h0 : len = 0
    · exact ⟨fun _ => 0, fun _ => 0, fun _ => { data := #[] }, Or.inl h0⟩
    obtain ⟨q, hq⟩ := choose_lt each
    obtain ⟨b, off, spot⟩ := a'
    have hs : spot = none := by
      have := (hq 0 (by omega)).2.1
      cases spot with
      | none => rfl
      | some s =>
        exfalso
        simp [Addr.add, World.cell?] at this
        split at this <;> simp at this
    subst hs
    refine ⟨fun i => (q i).1, fun i => (q i).2.1, fun i => (q i).2.2, Or.inr ⟨b, off, rfl, ?_, fun i hi => ?_⟩⟩
    · have := World.block_lt_of_cell? _ _ (hq 0 (by omega)).2.1
      simpa [Addr.add] using this
    · obtain ⟨k0, k1, k2, k3⟩ := hq i hi
      refine ⟨k0, ?_, ?_, ?_⟩
      · by_cases hz : i = 0
        · subst hz; simpa [Addr.add] using k1
        · have hz3 : ¬ i * 3 = 0 := by omega
          simpa [Addr.add, hz3] using k1
      · simpa [Addr.add, Nat.add_assoc] using k2
      · simpa [Addr.add, Nat.add_assoc] using k3

theorem Try.own : ownKnob Try.prog.godebug = none := by kernel_rfl
theorem Try.laidOut : laidOutB Try.prog = true := by kernel_rfl
theorem shut_text {H : Type} {enc : TypeId × Value → H} {W : World} {base : Nat} {sp : Nat → Bool} {held : Bool} {s : ByteArray} (hs : s.size ≤ maxLen) :
    DataW.Trod enc Try.prog W base sp held 9 (.string s) (.lit (.string s.data.toList)) [] :=
  ⟨1, by simp [DataW.trod, Value.cells, Try.underlying9, hs]⟩
theorem text_reach {H : Type} {ts : List TypeId} {ds : List (DataW H)} (h : (DataW.weightsEach Try.prog ts ds).all (· ≤ reachBytes) = true) (j : Nat) {s : ByteArray} (ht : ts[j]? = some 9) (hd : ds[j]? = some (.lit (.string s.data.toList))) : s.size ≤ 140737488351232 := by
  have := sized_string h ht hd
  have e : s.data.toList.length = s.size := by simp
  rw [e] at this
  exact this
end Go.Proofs.Ytodndkmpjpiidaa
