/- Steps of the laws, and what heavy tells. -/
import Derived.Test.YtdfioggeiagihaaCon
import Derived.Deep.WholeRow
import Derived.Deep.MidRow
namespace Go.Proofs.Ytdfioggeiagihaa
open Go Go.RowKit

/-- A step, as it lies in memory. -/
structure Stp where
  d : Int
  a : Int
  b : Int
  n : Nat
  s : ByteArray
structure Stp.Ok (x : Stp) : Prop where
  d : I64 x.d
  a : I64 x.a
  b : I64 x.b
  n : x.n < 18446744073709551616
  s : x.s.size ≤ 140737488351232
def Stp.cells (x : Stp) : Array Value := #[.int .i64 x.d, .int .i64 x.a, .int .i64 x.b, .int .u64 (x.n : Int), .string x.s]
def StepAt (w : World) (b o : Nat) (x : Stp) : Prop :=
  w.cell? ⟨b, o, none⟩ = some (.int .i64 x.d) ∧ w.cell? ⟨b, o + 1, none⟩ = some (.int .i64 x.a) ∧ w.cell? ⟨b, o + 2, none⟩ = some (.int .i64 x.b) ∧ w.cell? ⟨b, o + 3, none⟩ = some (.int .u64 (x.n : Int)) ∧ w.cell? ⟨b, o + 4, none⟩ = some (.string x.s)
def StepsAt (w : World) (a : Option Addr) (l : List Stp) : Prop := l = [] ∨ ∃ b off, a = some ⟨b, off, none⟩ ∧ ∀ j (hj : j < l.length), StepAt w b (off + j * 5) l[j]
theorem StepAt.old {u v : World} {b o : Nat} {x : Stp} (h : StepAt u b o x) (hb : Below u.heap.size u v) : StepAt v b o x := by
  have g : ∀ (k : Nat) (y : Value), u.cell? ⟨b, k, none⟩ = some y → v.cell? ⟨b, k, none⟩ = some y := fun k y hy => (hb.cell (p := ⟨b, k, none⟩) (World.block_lt_of_cell? u _ hy)).trans hy
  exact ⟨g _ _ h.1, g _ _ h.2.1, g _ _ h.2.2.1, g _ _ h.2.2.2.1, g _ _ h.2.2.2.2⟩
theorem StepsAt.old {u v : World} {a : Option Addr} {l : List Stp} (h : StepsAt u a l) (hb : Below u.heap.size u v) : StepsAt v a l := by
  rcases h with h0 | ⟨b, off, rfl, hc⟩
  · exact Or.inl h0
  · exact Or.inr ⟨b, off, rfl, fun j hj => (hc j hj).old hb⟩
theorem StepsAt.there {u : World} {a : Option Addr} {l : List Stp} (h : StepsAt u a l) (k : Nat) (hk : k < l.length) : ∃ b off, a = some ⟨b, off, none⟩ ∧ StepAt u b (off + k * 5) l[k] := by
  rcases h with h0 | ⟨b, off, rfl, hc⟩
  · rw [h0] at hk; exact absurd hk (by simp)
  · exact ⟨b, off, rfl, hc k hk⟩
/-- What heavy tells: where it says no, there are few steps. -/
def HeavySays (l : List Stp) (w : World) (e : Ending) (w' : World) : Prop := ∃ r : Bool, e = .returned (.bool r) ∧ w' = w ∧ (r = false → l.length ≤ 150)
theorem HeavySays.yes {l : List Stp} {w : World} : HeavySays l w (.returned (.bool true)) w := ⟨true, rfl, rfl, fun h => by cases h⟩
theorem HeavySays.no {l : List Stp} {w : World} (h : l.length ≤ 150) : HeavySays l w (.returned (.bool false)) w := ⟨false, rfl, rfl, fun _ => h⟩
set_option maxRecDepth 10000 in
set_option maxHeartbeats 1000000 in
theorem heavy_any (a : Option Addr) (c : Nat) (l : List Stp) (w : World) (h : StepsAt w a l) (hok : ∀ x ∈ l, x.Ok) (hl : l.length ≤ 140737488351232) :
    Calls Try.prog 8 #[.slice a l.length c] w (HeavySays l w) := by
  have H := hide h
  have HOk := hide hok
  clear h hok
  go_enter Try.func8, Try.ntmps8
  go_wp2_with fail
  go_loop [3, 4] (fun nv i => ∃ k m : Nat, k ≤ l.length ∧ k ≤ 300 ∧ i = .int .i64 (k : Int) ∧ nv = .int .i64 (m : Int) ∧ m ≤ k * 140737488351232) (fun _ i => l.length - (intOf i).toNat)
  case atStart => exact ⟨0, 0, Nat.zero_le _, Nat.zero_le _, rfl, rfl, Nat.zero_le _⟩
  case round =>
    obtain ⟨k, m, hk, hk3, rfl, rfl, hm⟩ := hrel
    by_cases hlt : k < l.length
    · by_cases h3 : k < 300
      · obtain ⟨b, off, rfl, hc⟩ := H.out.there k hlt
        have e4 := hc.2.2.2.2
        have hs := (HOk.out _ (List.getElem_mem hlt)).s
        generalize l[k].s = t at *
        clear hc
        have hz1 : (k : Int) < (l.length : Int) := by omega
        have hz2 : (k : Int) < 300 := by omega
        go_wp2
        go_round
        case rel => exact ⟨k + 1, m + t.size, hlt, by omega, by go_num, by go_num, by omega⟩
        case measure => simp [intOf]; omega
      · have hz1 : (k : Int) < (l.length : Int) := by omega
        have hz2 : ¬ (k : Int) < 300 := by omega
        have hz3 : (150 : Int) < (l.length : Int) := by omega
        go_wp2
        go_ret
        exact HeavySays.yes
    · have hz1 : ¬ (k : Int) < (l.length : Int) := by omega
      by_cases h150 : 150 < l.length
      · have hz3 : (150 : Int) < (l.length : Int) := by omega
        go_wp2
        go_ret
        exact HeavySays.yes
      · have hz3 : ¬ (150 : Int) < (l.length : Int) := by omega
        by_cases hb : 524288 < m
        · have hz4 : (524288 : Int) < (m : Int) := by omega
          go_wp2
          go_ret
          exact HeavySays.yes
        · have hz4 : ¬ (524288 : Int) < (m : Int) := by omega
          go_wp2
          go_ret
          exact HeavySays.no (by omega)
end Go.Proofs.Ytdfioggeiagihaa
