/- What the laws ask of the program's functions: a structure of contracts. -/
import Derived.Test.YtmpabcojdkpiaaaObj
import Derived.Test.YtmpabcojdkpiaaaPlain
namespace Go.Proofs.Ytmpabcojdkpiaaa
open Go Go.RowKit

/-- A row of numbers in memory. -/
def IntsAt (w : World) (a : Option Addr) (l : List Int) : Prop := l = [] ∨ ∃ b off, a = some ⟨b, off, none⟩ ∧ ∀ j (hj : j < l.length), w.cell? ⟨b, off + j, none⟩ = some (.int .i64 l[j])
theorem IntsAt.old {u v : World} {a : Option Addr} {l : List Int} (h : IntsAt u a l) (hb : Below u.heap.size u v) : IntsAt v a l := by
  rcases h with h0 | ⟨b, off, rfl, hc⟩
  · exact Or.inl h0
  · exact Or.inr ⟨b, off, rfl, fun j hj => (hb.cell (p := ⟨b, off + j, none⟩) (World.block_lt_of_cell? u _ (hc j hj))).trans (hc j hj)⟩
theorem IntsAt.there {u : World} {a : Option Addr} {l : List Int} (h : IntsAt u a l) (hn : 0 < l.length) : ∃ b off, a = some ⟨b, off, none⟩ ∧ ∀ j (hj : j < l.length), u.cell? ⟨b, off + j, none⟩ = some (.int .i64 l[j]) := by
  rcases h with h0 | h1
  · rw [h0] at hn; exact absurd hn (by simp)
  · exact h1
theorem IntsAt.get {u : World} {b off : Nat} {l : List Int} (h : IntsAt u (some ⟨b, off, none⟩) l) {j : Nat} (hj : j < l.length) : u.cell? ⟨b, off + j, none⟩ = some (.int .i64 l[j]) := by
  obtain ⟨b', off', e, hc⟩ := h.there (by omega)
  cases e
  exact hc j hj
structure Con : Prop where
  may : ∀ (b : Bl) (u : World), b.Ok → Calls Try.prog 9 #[.agg #[.int .u64 (b.r : Int), .int .i64 b.n]] u fun e v => e = .returned (.bool (may b)) ∧ Below u.heap.size u v
  cmp : ∀ (a b : Bl) (u : World), a.Ok → b.Ok → Calls Try.prog 11 #[.agg #[.int .u64 (a.r : Int), .int .i64 a.n], .agg #[.int .u64 (b.r : Int), .int .i64 b.n]] u fun e v => e = .returned (.int .i64 (cmpB a b)) ∧ Below u.heap.size u v
  next : ∀ (b : Bl) (n : Int) (u : World), b.Ok → I64 n → Calls Try.prog 12 #[.agg #[.int .u64 (b.r : Int), .int .i64 b.n], .int .i64 n] u fun e v => e = .returned (.tuple #[.agg #[.int .u64 (((next b n).1.r : Nat) : Int), .int .i64 (next b n).1.n], .int .i64 (((next b n).2 : Nat) : Int)]) ∧ Below u.heap.size u v
  majority : ∀ (n : Int) (u : World), I64 n → Calls Try.prog 14 #[.int .i64 n] u fun e v => e = .returned (.tuple #[.int .i64 (((majority n).1 : Nat) : Int), .int .i64 (((majority n).2 : Nat) : Int)]) ∧ Below u.heap.size u v
  quorum : ∀ (a : Option Addr) (c : Nat) (l : List Int) (n : Int) (u : World), IntsAt u a l → l.length ≤ 1000 → (∀ x ∈ l, I64 x) → I64 n → Calls Try.prog 15 #[.slice a l.length c, .int .i64 n] u fun e v => e = .returned (.tuple #[.bool (quorum l n).1, .int .i64 (((quorum l n).2 : Nat) : Int)]) ∧ Below u.heap.size u v
end Go.Proofs.Ytmpabcojdkpiaaa
