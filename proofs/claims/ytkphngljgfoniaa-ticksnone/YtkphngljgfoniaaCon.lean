/- What the laws ask of the program's clocks: a structure of contracts. -/
import Derived.Test.YtkphngljgfoniaaObj
import Derived.Test.YtkphngljgfoniaaPlain
namespace Go.Proofs.Ytkphngljgfoniaa
open Go Go.RowKit

def I64 (x : Int) : Prop := -9223372036854775808 ≤ x ∧ x ≤ 9223372036854775807
/-- TAt u p c F: the program's clocks lie at block p, are c, and their blocks are F. -/
structure Con (TAt : World → Nat → Ck → (Nat → Prop) → Prop) : Prop where
  lt : ∀ {u : World} {p : Nat} {c : Ck} {F : Nat → Prop}, TAt u p c F → ∀ k, F k → k < u.heap.size
  same : ∀ {u v : World} {p : Nat} {c : Ck} {F : Nat → Prop}, TAt u p c F → (∀ k, F k → v.heap[k]? = u.heap[k]?) → TAt v p c F
  new : ∀ (n : Nat) (b : Int) (u : World), 1 ≤ n → n ≤ 128 → 0 ≤ b → b ≤ 17592186044416 → Calls Try.prog 8 #[.int .i64 (n : Int), .int .i64 b] u fun e v => ∃ p F, e = .returned (.tuple #[.pointer (some ⟨p, 0, none⟩), .int .i64 0]) ∧ TAt v p (Ck.new n b) F ∧ (∀ k, F k → u.heap.size ≤ k) ∧ Below u.heap.size u v
  newNot : ∀ (n b : Int) (u : World), I64 n → I64 b → ¬ (1 ≤ n ∧ n ≤ 128 ∧ 0 ≤ b ∧ b ≤ 17592186044416) → Calls Try.prog 8 #[.int .i64 n, .int .i64 b] u fun e v => e = .returned (.tuple #[.pointer none, .int .i64 2]) ∧ Below u.heap.size u v
  tick : ∀ (p : Nat) (c : Ck) (F : Nat → Prop) (k y : Int) (u : World), TAt u p c F → c.Ok → I64 k → I64 y →
    Calls Try.prog 11 #[.pointer (some ⟨p, 0, none⟩), .int .i64 k, .int .i64 y] u fun e v => e = .returned (.int .i64 (((c.tick k y).1 : Nat) : Int)) ∧ ∃ F', TAt v p (c.tick k y).2 F' ∧ Loc F F' u v
  at_ : ∀ (p : Nat) (c : Ck) (F : Nat → Prop) (k : Nat) (u : World), TAt u p c F → c.Ok → (h : k < c.t.length) →
    Calls Try.prog 16 #[.pointer (some ⟨p, 0, none⟩), .int .i64 (k : Int)] u fun e v => e = .returned (.tuple #[.int .i64 c.t[k], .int .i64 0]) ∧ Below u.heap.size u v
  atNot : ∀ (p : Nat) (c : Ck) (F : Nat → Prop) (k : Int) (u : World), TAt u p c F → c.Ok → I64 k → ¬ (0 ≤ k ∧ k < (c.t.length : Int)) →
    Calls Try.prog 16 #[.pointer (some ⟨p, 0, none⟩), .int .i64 k] u fun e v => e = .returned (.tuple #[.int .i64 0, .int .i64 5]) ∧ Below u.heap.size u v
  apart : ∀ (p : Nat) (c : Ck) (F : Nat → Prop) (u : World), TAt u p c F → c.Ok →
    Calls Try.prog 13 #[.pointer (some ⟨p, 0, none⟩)] u fun e v => e = .returned (.int .i64 (apart c.t)) ∧ Below u.heap.size u v
  within : ∀ (p : Nat) (c : Ck) (F : Nat → Prop) (u : World), TAt u p c F → c.Ok →
    Calls Try.prog 15 #[.pointer (some ⟨p, 0, none⟩)] u fun e v => e = .returned (.bool (decide (c.m ≤ c.b))) ∧ Below u.heap.size u v
  len : ∀ (p : Nat) (c : Ck) (F : Nat → Prop) (u : World), TAt u p c F → c.Ok →
    Calls Try.prog 10 #[.pointer (some ⟨p, 0, none⟩)] u fun e v => e = .returned (.int .i64 (c.t.length : Int)) ∧ Below u.heap.size u v
  ntick : ∀ (k y : Int) (u : World), Calls Try.prog 11 #[.pointer none, .int .i64 k, .int .i64 y] u fun e v => e = .returned (.int .i64 1) ∧ Below u.heap.size u v
  nat : ∀ (k : Int) (u : World), Calls Try.prog 16 #[.pointer none, .int .i64 k] u fun e v => e = .returned (.tuple #[.int .i64 0, .int .i64 1]) ∧ Below u.heap.size u v
  napart : ∀ (u : World), Calls Try.prog 13 #[.pointer none] u fun e v => e = .returned (.int .i64 0) ∧ Below u.heap.size u v
  nwithin : ∀ (u : World), Calls Try.prog 15 #[.pointer none] u fun e v => e = .returned (.bool false) ∧ Below u.heap.size u v
  nlen : ∀ (u : World), Calls Try.prog 10 #[.pointer none] u fun e v => e = .returned (.int .i64 0) ∧ Below u.heap.size u v
theorem Con.below {TAt : World → Nat → Ck → (Nat → Prop) → Prop} (C : Con TAt) {u v : World} {p : Nat} {c : Ck} {F : Nat → Prop} (h : TAt u p c F) (hb : Below u.heap.size u v) : TAt v p c F := C.same h (fun k hk => hb.block k (C.lt h k hk))
/-- Clocks of the caller's own: they lie behind B, and all of the world ahead of B is as W has it. -/
structure Has (TAt : World → Nat → Ck → (Nat → Prop) → Prop) (B : Nat) (W u : World) (p : Nat) (c : Ck) (F : Nat → Prop) : Prop where
  at_ : TAt u p c F
  ok : c.Ok
  own : ∀ k, F k → B ≤ k
  below : Below B W u
theorem Has.old {TAt : World → Nat → Ck → (Nat → Prop) → Prop} (C : Con TAt) {B : Nat} {W u v : World} {p : Nat} {c : Ck} {F : Nat → Prop} (h : Has TAt B W u p c F) (hb : Below u.heap.size u v) (hB : B ≤ u.heap.size) : Has TAt B W v p c F :=
  ⟨C.below h.at_ hb, h.ok, h.own, h.below.trans (hb.mono hB)⟩
theorem Has.new {TAt : World → Nat → Ck → (Nat → Prop) → Prop} {B : Nat} {W u v : World} {p : Nat} {c c' : Ck} {F F' : Nat → Prop} (h : Has TAt B W u p c F) (ha : TAt v p c' F') (hok : c'.Ok) (hl : Loc F F' u v) (hB : B ≤ u.heap.size) : Has TAt B W v p c' F' :=
  ⟨ha, hok, hl.beyond h.own hB, h.below.trans (hl.below h.own hB)⟩
end Go.Proofs.Ytkphngljgfoniaa
