/- Steps, and heavy. -/
import Derived.Test.YtffniclijiekkaaData
namespace Go.Proofs.Ytffniclijiekkaa
open Go Go.RowKit

/-- A step, as it lies in memory. -/
structure Stp where
  act : Nat
  b : Int
  byte : Nat
  odd : Nat
  pa : Option Addr
  picks : List Int
  pc : Nat
/-- What a step always is. -/
structure Stp.Ok (x : Stp) : Prop where
  act : x.act < 256
  b : -9223372036854775808 ≤ x.b ∧ x.b ≤ 9223372036854775807
  byte : x.byte < 256
  odd : x.odd < 256
  many : x.picks.length ≤ 140737488351232
  picks : ∀ y ∈ x.picks, -9223372036854775808 ≤ y ∧ y ≤ 9223372036854775807
  nil : x.pa = none → x.pc = 0
/-- A step as a value. -/
def Stp.val (x : Stp) : Value := .agg #[.int .u8 (x.act : Int), .int .i64 x.b, .int .u8 (x.byte : Int), .int .u8 (x.odd : Int), .slice x.pa x.picks.length x.pc]
/-- The cells of a step at an address. -/
def StepAt (w : World) (b o : Nat) (x : Stp) : Prop :=
  w.cell? ⟨b, o, none⟩ = some (.int .u8 (x.act : Int)) ∧ w.cell? ⟨b, o + 1, none⟩ = some (.int .i64 x.b) ∧ w.cell? ⟨b, o + 2, none⟩ = some (.int .u8 (x.byte : Int)) ∧ w.cell? ⟨b, o + 3, none⟩ = some (.int .u8 (x.odd : Int)) ∧ w.cell? ⟨b, o + 4, none⟩ = some (.slice x.pa x.picks.length x.pc) ∧ IntsAt w x.pa x.picks
/-- A list of steps lies at a slice's address. -/
def StepsAt (w : World) (a : Option Addr) (l : List Stp) : Prop := l = [] ∨ ∃ b off, a = some ⟨b, off, none⟩ ∧ ∀ j (hj : j < l.length), StepAt w b (off + j * 5) l[j]
theorem IntsAt.below {u v : World} {a : Option Addr} {l : List Int} {B : Nat} (h : IntsAt u a l) (hb : Below B u v) (hB : ∀ b off, a = some ⟨b, off, none⟩ → l ≠ [] → b < B) : IntsAt v a l := by
  by_cases hl : l = []
  · exact Or.inl hl
  · rcases h with h0 | ⟨b, off, rfl, hc⟩
    · exact absurd h0 hl
    · exact Or.inr ⟨b, off, rfl, fun j hj => (hb.cell (p := ⟨b, off + j, none⟩) (hB b off rfl hl)).trans (hc j hj)⟩
theorem IntsAt.old {u v : World} {a : Option Addr} {l : List Int} (h : IntsAt u a l) (hb : Below u.heap.size u v) : IntsAt v a l := by
  rcases h with h0 | ⟨b, off, rfl, hc⟩
  · exact Or.inl h0
  · exact Or.inr ⟨b, off, rfl, fun j hj => (hb.cell (p := ⟨b, off + j, none⟩) (World.block_lt_of_cell? u _ (hc j hj))).trans (hc j hj)⟩
theorem StepAt.old {u v : World} {b o : Nat} {x : Stp} (h : StepAt u b o x) (hb : Below u.heap.size u v) : StepAt v b o x := by
  have g : ∀ (k : Nat) (y : Value), u.cell? ⟨b, k, none⟩ = some y → v.cell? ⟨b, k, none⟩ = some y := fun k y hy => (hb.cell (p := ⟨b, k, none⟩) (World.block_lt_of_cell? u _ hy)).trans hy
  exact ⟨g _ _ h.1, g _ _ h.2.1, g _ _ h.2.2.1, g _ _ h.2.2.2.1, g _ _ h.2.2.2.2.1, h.2.2.2.2.2.old hb⟩
theorem StepsAt.old {u v : World} {a : Option Addr} {l : List Stp} (h : StepsAt u a l) (hb : Below u.heap.size u v) : StepsAt v a l := by
  rcases h with h0 | ⟨b, off, rfl, hc⟩
  · exact Or.inl h0
  · exact Or.inr ⟨b, off, rfl, fun j hj => (hc j hj).old hb⟩
/-- What heavy tells. -/
def HeavySays (n : Int) (l : List Stp) (w : World) (e : Ending) (w' : World) : Prop :=
  ∃ r : Bool, e = .returned (.bool r) ∧ w' = w ∧ (r = false → l.length ≤ 400 ∧ (∀ x ∈ l, x.picks.length ≤ 400) ∧ ¬ (64 < n ∧ n ≤ 4096))
theorem HeavySays.yes {n : Int} {l : List Stp} {w : World} : HeavySays n l w (.returned (.bool true)) w := ⟨true, rfl, rfl, fun h => by cases h⟩
theorem HeavySays.no {n : Int} {l : List Stp} {w : World} (h : l.length ≤ 400 ∧ ∀ x ∈ l, x.picks.length ≤ 400) (hn : ¬ (64 < n ∧ n ≤ 4096)) : HeavySays n l w (.returned (.bool false)) w := ⟨false, rfl, rfl, fun _ => ⟨h.1, h.2, hn⟩⟩
set_option maxRecDepth 10000 in
set_option maxHeartbeats 1000000 in
theorem heavy_any (n : Int) (a : Option Addr) (c : Nat) (l : List Stp) (w : World) (h : StepsAt w a l) (hok : ∀ x ∈ l, x.Ok) (hl : l.length ≤ 140737488351232) :
    Calls Try.prog 7 #[.int .i64 n, .slice a l.length c] w (HeavySays n l w) := by
  have H := hide h
  have HOk := hide hok
  clear h hok
  go_enter Try.func7, Try.ntmps7
  go_wp2_with fail
  go_loop [5, 6] (fun nv i => ∃ k m : Nat, k ≤ l.length ∧ i = .int .i64 (k : Int) ∧ nv = .int .i64 (m : Int) ∧ l.length ≤ m ∧ m ≤ 562949953421312 ∧ (∀ j (hj : j < l.length), j < k → l[j].picks.length ≤ m)) (fun _ i => l.length - (intOf i).toNat)
  case atStart => exact ⟨0, l.length, Nat.zero_le _, rfl, rfl, Nat.le_refl _, by omega, fun j _ hj => absurd hj (by omega)⟩
  case round =>
    obtain ⟨k, m, hk, rfl, rfl, hlm, hm, hall⟩ := hrel
    have HA := hide hall
    clear hall
    by_cases hlt : k < l.length
    · by_cases h4 : m ≤ 400
      · obtain ⟨b, off, rfl, hc⟩ : ∃ b off, a = some ⟨b, off, none⟩ ∧ ∀ j (hj : j < l.length), StepAt w b (off + j * 5) l[j] := by
          rcases H.out with h0 | h1
          · rw [h0] at hlt; exact absurd hlt (by simp)
          · exact h1
        have e4 := (hc k hlt).2.2.2.2.1
        have hpm := (HOk.out _ (List.getElem_mem hlt)).many
        have HNext : Hid (∀ j (hj : j < l.length), j < k + 1 → l[j].picks.length ≤ m + l[k].picks.length) := fun j hj hjk => by
          by_cases e : j = k
          · subst e; omega
          · have := HA.out j hj (by omega); omega
        clear hc
        generalize l[k].picks.length = y at *
        generalize l[k].pa = ya at *
        generalize l[k].pc = yc at *
        have h4z : (m : Int) ≤ 400 := by omega
        go_wp2
        go_round
        case rel => exact ⟨k + 1, m + y, hlt, by go_num, by go_num, by omega, by omega, HNext.out⟩
        case measure => simp [intOf]; omega
      · have h4z : ¬ ((m : Int) ≤ 400) := by omega
        go_wp2
        go_ret
        exact HeavySays.yes
    · have hke : k = l.length := by omega
      by_cases h4 : m ≤ 400
      · have h4z : ¬ ((400 : Int) < (m : Int)) := by omega
        have HF : Hid (l.length ≤ 400 ∧ ∀ x ∈ l, x.picks.length ≤ 400) := ⟨by omega, fun x hx => by
          obtain ⟨j, hj, rfl⟩ := List.getElem_of_mem hx
          have := HA.out j hj (by omega)
          omega⟩
        subst hke
        by_cases hn1 : 64 < n
        · by_cases hn2 : n ≤ 4096
          · go_wp2
            go_ret
            exact HeavySays.yes
          · go_wp2
            go_ret
            exact HeavySays.no HF.out (fun h => by omega)
        · go_wp2
          go_ret
          exact HeavySays.no HF.out (fun h => by omega)
      · have h4z : (400 : Int) < (m : Int) := by omega
        subst hke
        go_wp2
        go_ret
        exact HeavySays.yes
end Go.Proofs.Ytffniclijiekkaa
