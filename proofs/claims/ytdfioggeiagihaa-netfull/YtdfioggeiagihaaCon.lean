/- What the laws ask of the program's nets: a structure of contracts. -/
import Derived.Test.YtdfioggeiagihaaObj
import Derived.Test.YtdfioggeiagihaaPlain
namespace Go.Proofs.Ytdfioggeiagihaa
open Go Go.RowKit

def I64 (x : Int) : Prop := -9223372036854775808 ≤ x ∧ x ≤ 9223372036854775807
def Lt.cells (x : Lt) : Array Value := #[.int .u64 (x.id : Int), .int .i64 x.a, .int .i64 x.b, .string x.s, .int .i64 (x.g : Int)]
def Lt.val (x : Lt) : Value := .agg x.cells
/-- The cells of a letter at an address. -/
def LetterAt (w : World) (b o : Nat) (x : Lt) : Prop :=
  w.cell? ⟨b, o, none⟩ = some (.int .u64 (x.id : Int)) ∧ w.cell? ⟨b, o + 1, none⟩ = some (.int .i64 x.a) ∧ w.cell? ⟨b, o + 2, none⟩ = some (.int .i64 x.b) ∧ w.cell? ⟨b, o + 3, none⟩ = some (.string x.s) ∧ w.cell? ⟨b, o + 4, none⟩ = some (.int .i64 (x.g : Int))
def LettersAt (w : World) (a : Option Addr) (l : List Lt) : Prop := l = [] ∨ ∃ b off, a = some ⟨b, off, none⟩ ∧ ∀ j (hj : j < l.length), LetterAt w b (off + j * 5) l[j]
def IdsAt (w : World) (a : Option Addr) (l : List Nat) : Prop := l = [] ∨ ∃ b off, a = some ⟨b, off, none⟩ ∧ ∀ j (hj : j < l.length), w.cell? ⟨b, off + j, none⟩ = some (.int .u64 (l[j] : Int))
theorem LetterAt.old {u v : World} {b o : Nat} {x : Lt} (h : LetterAt u b o x) (hb : Below u.heap.size u v) : LetterAt v b o x := by
  have g : ∀ (k : Nat) (y : Value), u.cell? ⟨b, k, none⟩ = some y → v.cell? ⟨b, k, none⟩ = some y := fun k y hy => (hb.cell (p := ⟨b, k, none⟩) (World.block_lt_of_cell? u _ hy)).trans hy
  exact ⟨g _ _ h.1, g _ _ h.2.1, g _ _ h.2.2.1, g _ _ h.2.2.2.1, g _ _ h.2.2.2.2⟩
theorem LettersAt.old {u v : World} {a : Option Addr} {l : List Lt} (h : LettersAt u a l) (hb : Below u.heap.size u v) : LettersAt v a l := by
  rcases h with h0 | ⟨b, off, rfl, hc⟩
  · exact Or.inl h0
  · exact Or.inr ⟨b, off, rfl, fun j hj => (hc j hj).old hb⟩
theorem IdsAt.old {u v : World} {a : Option Addr} {l : List Nat} (h : IdsAt u a l) (hb : Below u.heap.size u v) : IdsAt v a l := by
  rcases h with h0 | ⟨b, off, rfl, hc⟩
  · exact Or.inl h0
  · exact Or.inr ⟨b, off, rfl, fun j hj => (hb.cell (p := ⟨b, off + j, none⟩) (World.block_lt_of_cell? u _ (hc j hj))).trans (hc j hj)⟩
theorem LettersAt.there {u : World} {a : Option Addr} {l : List Lt} (h : LettersAt u a l) (hn : 0 < l.length) : ∃ b off, a = some ⟨b, off, none⟩ ∧ ∀ j (hj : j < l.length), LetterAt u b (off + j * 5) l[j] := by
  rcases h with h0 | h1
  · rw [h0] at hn; exact absurd hn (by simp)
  · exact h1
theorem IdsAt.there {u : World} {a : Option Addr} {l : List Nat} (h : IdsAt u a l) (hn : 0 < l.length) : ∃ b off, a = some ⟨b, off, none⟩ ∧ ∀ j (hj : j < l.length), u.cell? ⟨b, off + j, none⟩ = some (.int .u64 (l[j] : Int)) := by
  rcases h with h0 | h1
  · rw [h0] at hn; exact absurd hn (by simp)
  · exact h1
/-- What a number, a bound of all that is reckoned, may be. -/
def Fine (m : Nat) : Prop := m ≤ 1099511627776
/-- NAt u p c F: the program's net lies at block p, is st, and its blocks are F. -/
structure Con (NAt : World → Nat → Nt → (Nat → Prop) → Prop) : Prop where
  lt : ∀ {u : World} {p : Nat} {st : Nt} {F : Nat → Prop}, NAt u p st F → ∀ k, F k → k < u.heap.size
  same : ∀ {u v : World} {p : Nat} {st : Nt} {F : Nat → Prop}, NAt u p st F → (∀ k, F k → v.heap[k]? = u.heap[k]?) → NAt v p st F
  new : ∀ (u : World), Calls Try.prog 10 #[] u fun e v => ∃ p F, e = .returned (.pointer (some ⟨p, 0, none⟩)) ∧ NAt v p Nt.new F ∧ (∀ k, F k → u.heap.size ≤ k) ∧ Below u.heap.size u v
  send : ∀ (p : Nat) (st : Nt) (F : Nat → Prop) (m : Nat) (a b : Int) (s : ByteArray) (u : World), NAt u p st F → st.Ok m → Fine m → I64 a → I64 b → s.size ≤ 140737488351232 →
    Calls Try.prog 11 #[.pointer (some ⟨p, 0, none⟩), .int .i64 a, .int .i64 b, .string s] u fun e v => e = .returned (.tuple #[.int .u64 (((st.send a b s).1 : Nat) : Int), .int .i64 (((st.send a b s).2.1 : Nat) : Int)]) ∧ ∃ F', NAt v p (st.send a b s).2.2 F' ∧ Loc F F' u v
  take : ∀ (p : Nat) (st : Nt) (F : Nat → Prop) (m : Nat) (id : Nat) (u : World), NAt u p st F → st.Ok m → Fine m → id < 18446744073709551616 →
    Calls Try.prog 14 #[.pointer (some ⟨p, 0, none⟩), .int .u64 (id : Int)] u fun e v => e = .returned (.tuple #[(st.take id).1.val, .int .i64 (((st.take id).2.1 : Nat) : Int)]) ∧ ∃ F', NAt v p (st.take id).2.2 F' ∧ Loc F F' u v
  double : ∀ (p : Nat) (st : Nt) (F : Nat → Prop) (m : Nat) (id : Nat) (u : World), NAt u p st F → st.Ok m → Fine m → id < 18446744073709551616 →
    Calls Try.prog 16 #[.pointer (some ⟨p, 0, none⟩), .int .u64 (id : Int)] u fun e v => e = .returned (.tuple #[.int .u64 (((st.double id).1 : Nat) : Int), .int .i64 (((st.double id).2.1 : Nat) : Int)]) ∧ ∃ F', NAt v p (st.double id).2.2 F' ∧ Loc F F' u v
  drop : ∀ (p : Nat) (st : Nt) (F : Nat → Prop) (m : Nat) (id : Nat) (u : World), NAt u p st F → st.Ok m → Fine m → id < 18446744073709551616 →
    Calls Try.prog 18 #[.pointer (some ⟨p, 0, none⟩), .int .u64 (id : Int)] u fun e v => e = .returned (.int .i64 (((st.drop id).1 : Nat) : Int)) ∧ ∃ F', NAt v p (st.drop id).2 F' ∧ Loc F F' u v
  part : ∀ (p : Nat) (st : Nt) (F : Nat → Prop) (m : Nat) (a b : Int) (u : World), NAt u p st F → st.Ok m → Fine m → I64 a → I64 b →
    Calls Try.prog 20 #[.pointer (some ⟨p, 0, none⟩), .int .i64 a, .int .i64 b] u fun e v => e = .returned (.int .i64 (((st.part a b).1 : Nat) : Int)) ∧ ∃ F', NAt v p (st.part a b).2 F' ∧ Loc F F' u v
  join : ∀ (p : Nat) (st : Nt) (F : Nat → Prop) (m : Nat) (a b : Int) (u : World), NAt u p st F → st.Ok m → Fine m → I64 a → I64 b →
    Calls Try.prog 22 #[.pointer (some ⟨p, 0, none⟩), .int .i64 a, .int .i64 b] u fun e v => e = .returned (.int .i64 (((st.join a b).1 : Nat) : Int)) ∧ ∃ F', NAt v p (st.join a b).2 F' ∧ Loc F F' u v
  parted : ∀ (p : Nat) (st : Nt) (F : Nat → Prop) (m : Nat) (a b : Int) (u : World), NAt u p st F → st.Ok m → Fine m → I64 a → I64 b →
    Calls Try.prog 31 #[.pointer (some ⟨p, 0, none⟩), .int .i64 a, .int .i64 b] u fun e v => e = .returned (.bool (st.p a b)) ∧ Below u.heap.size u v
  age : ∀ (p : Nat) (st : Nt) (F : Nat → Prop) (m : Nat) (u : World), NAt u p st F → st.Ok m → Fine m →
    Calls Try.prog 24 #[.pointer (some ⟨p, 0, none⟩)] u fun e v => e = .returned (.tuple #[]) ∧ ∃ F', NAt v p (ageN st) F' ∧ Loc F F' u v
  list : ∀ (p : Nat) (st : Nt) (F : Nat → Prop) (m : Nat) (u : World), NAt u p st F → st.Ok m → Fine m →
    Calls Try.prog 28 #[.pointer (some ⟨p, 0, none⟩)] u fun e v => ∃ a c, e = .returned (.slice a st.l.length c) ∧ LettersAt v a st.l ∧ Below u.heap.size u v
  ready : ∀ (p : Nat) (st : Nt) (F : Nat → Prop) (m : Nat) (u : World), NAt u p st F → st.Ok m → Fine m →
    Calls Try.prog 30 #[.pointer (some ⟨p, 0, none⟩)] u fun e v => ∃ a c, e = .returned (.slice a st.ready.length c) ∧ IdsAt v a st.ready ∧ Below u.heap.size u v
  len : ∀ (p : Nat) (st : Nt) (F : Nat → Prop) (m : Nat) (u : World), NAt u p st F → st.Ok m → Fine m →
    Calls Try.prog 26 #[.pointer (some ⟨p, 0, none⟩)] u fun e v => e = .returned (.int .i64 (st.l.length : Int)) ∧ Below u.heap.size u v
  nsend : ∀ (a b : Int) (u : World), I64 a → I64 b → Calls Try.prog 11 #[.pointer none, .int .i64 a, .int .i64 b, .string ⟨#[]⟩] u fun e v => e = .returned (.tuple #[.int .u64 0, .int .i64 1]) ∧ Below u.heap.size u v
  ntake : ∀ (id : Nat) (u : World), id < 18446744073709551616 → Calls Try.prog 14 #[.pointer none, .int .u64 (id : Int)] u fun e v => e = .returned (.tuple #[noLt.val, .int .i64 1]) ∧ Below u.heap.size u v
  ndouble : ∀ (id : Nat) (u : World), id < 18446744073709551616 → Calls Try.prog 16 #[.pointer none, .int .u64 (id : Int)] u fun e v => e = .returned (.tuple #[.int .u64 0, .int .i64 1]) ∧ Below u.heap.size u v
  ndrop : ∀ (id : Nat) (u : World), id < 18446744073709551616 → Calls Try.prog 18 #[.pointer none, .int .u64 (id : Int)] u fun e v => e = .returned (.int .i64 1) ∧ Below u.heap.size u v
  npart : ∀ (a b : Int) (u : World), I64 a → I64 b → Calls Try.prog 20 #[.pointer none, .int .i64 a, .int .i64 b] u fun e v => e = .returned (.int .i64 1) ∧ Below u.heap.size u v
  njoin : ∀ (a b : Int) (u : World), I64 a → I64 b → Calls Try.prog 22 #[.pointer none, .int .i64 a, .int .i64 b] u fun e v => e = .returned (.int .i64 1) ∧ Below u.heap.size u v
  nparted : ∀ (a b : Int) (u : World), I64 a → I64 b → Calls Try.prog 31 #[.pointer none, .int .i64 a, .int .i64 b] u fun e v => e = .returned (.bool false) ∧ Below u.heap.size u v
  nage : ∀ (u : World), Calls Try.prog 24 #[.pointer none] u fun e v => e = .returned (.tuple #[]) ∧ Below u.heap.size u v
  nlist : ∀ (u : World), Calls Try.prog 28 #[.pointer none] u fun e v => ∃ a c, e = .returned (.slice a 0 c) ∧ Below u.heap.size u v
  nready : ∀ (u : World), Calls Try.prog 30 #[.pointer none] u fun e v => ∃ a c, e = .returned (.slice a 0 c) ∧ Below u.heap.size u v
  nlen : ∀ (u : World), Calls Try.prog 26 #[.pointer none] u fun e v => e = .returned (.int .i64 0) ∧ Below u.heap.size u v
theorem Con.below {NAt : World → Nat → Nt → (Nat → Prop) → Prop} (C : Con NAt) {u v : World} {p : Nat} {st : Nt} {F : Nat → Prop} (h : NAt u p st F) (hb : Below u.heap.size u v) : NAt v p st F := C.same h (fun k hk => hb.block k (C.lt h k hk))
/-- A net of the caller's own: it lies behind B, and all of the world ahead of B is as W has it. -/
structure Has (NAt : World → Nat → Nt → (Nat → Prop) → Prop) (B : Nat) (W u : World) (p : Nat) (st : Nt) (F : Nat → Prop) (m : Nat) : Prop where
  at_ : NAt u p st F
  ok : st.Ok m
  own : ∀ k, F k → B ≤ k
  below : Below B W u
theorem Has.old {NAt : World → Nat → Nt → (Nat → Prop) → Prop} (C : Con NAt) {B : Nat} {W u v : World} {p : Nat} {st : Nt} {F : Nat → Prop} {m : Nat} (h : Has NAt B W u p st F m) (hb : Below u.heap.size u v) (hB : B ≤ u.heap.size) : Has NAt B W v p st F m :=
  ⟨C.below h.at_ hb, h.ok, h.own, h.below.trans (hb.mono hB)⟩
theorem Has.new {NAt : World → Nat → Nt → (Nat → Prop) → Prop} {B : Nat} {W u v : World} {p : Nat} {st st' : Nt} {F F' : Nat → Prop} {m m' : Nat} (h : Has NAt B W u p st F m) (ha : NAt v p st' F') (hok : st'.Ok m') (hl : Loc F F' u v) (hB : B ≤ u.heap.size) : Has NAt B W v p st' F' m' :=
  ⟨ha, hok, hl.beyond h.own hB, h.below.trans (hl.below h.own hB)⟩
end Go.Proofs.Ytdfioggeiagihaa
