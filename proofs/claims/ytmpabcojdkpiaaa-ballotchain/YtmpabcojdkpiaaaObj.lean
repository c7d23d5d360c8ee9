/- Objects that lie in several blocks: which blocks are theirs, and what a call on one leaves of all others. -/
import Derived.Test.YtmpabcojdkpiaaaProg
import Derived.WalkKit
import Derived.WalkSpells
import Derived.BigQuiet
import Derived.Deep.QuietTactic
import Derived.OwnWalk
namespace Go.Proofs.Ytmpabcojdkpiaaa
open Go Go.RowKit

theorem hide {p : Prop} (h : p) : Hid p := h
theorem bnext {w w1 w2 : World} (h : Below w.heap.size w w1) (k : Below w1.heap.size w1 w2) : Below w.heap.size w w2 := h.trans (k.mono h.size)
theorem below_drewN {B : Nat} {w u : World} (h : Below B w u) (n : Nat) : Below B w (u.drewN n) := h.trans ⟨rfl, rfl, rfl, Nat.le_refl _, fun _ _ => rfl⟩
/-- A call on an object whose blocks are F, and behind it F': all other blocks are as they were; what is new of the object's is new. -/
structure Loc (F F' : Nat → Prop) (u v : World) : Prop where
  os : v.os = u.os
  tape : v.tape = u.tape
  output : v.output = u.output
  size : u.heap.size ≤ v.heap.size
  block : ∀ k, k < u.heap.size → ¬ F k → v.heap[k]? = u.heap[k]?
  own : ∀ k, F' k → F k ∨ u.heap.size ≤ k
theorem Loc.refl (F : Nat → Prop) (u : World) : Loc F F u u := ⟨rfl, rfl, rfl, Nat.le_refl _, fun _ _ _ => rfl, fun _ h => Or.inl h⟩
theorem Loc.trans {F F' F'' : Nat → Prop} {u v w : World} (h : Loc F F' u v) (k : Loc F' F'' v w) : Loc F F'' u w :=
  ⟨k.os.trans h.os, k.tape.trans h.tape, k.output.trans h.output, Nat.le_trans h.size k.size, fun i hi hF => (k.block i (Nat.lt_of_lt_of_le hi h.size) (fun hF' => by
    rcases h.own i hF' with h1 | h1
    · exact hF h1
    · omega)).trans (h.block i hi hF), fun i hi => by
    rcases k.own i hi with h1 | h1
    · exact h.own i h1
    · exact Or.inr (Nat.le_trans h.size h1)⟩
/-- A call that makes memory, and turns nothing. -/
theorem Loc.of_below (F : Nat → Prop) {u v : World} (h : Below u.heap.size u v) : Loc F F u v := ⟨h.os, h.tape, h.output, h.size, fun k hk _ => h.block k hk, fun _ hk => Or.inl hk⟩
theorem Loc.of_grown {F F' : Nat → Prop} {u v : World} {row : Option Nat} (h : u.grownBy v row) (hr : ∀ k, row = some k → F k) (ho : ∀ k, F' k → F k ∨ u.heap.size ≤ k) : Loc F F' u v :=
  ⟨h.os, h.tape, h.output, h.size, fun k hk hF => h.block k hk (fun e => hF (hr k e.symm)), ho⟩
theorem Loc.setCell {F : Nat → Prop} (u : World) (a : Addr) (v : Value) (ha : F a.block) : Loc F F u (u.setCell a v) :=
  ⟨rfl, rfl, rfl, by simp [World.setCell], fun k _ hF => Below.heap_setCell u a v k (fun e => hF (e ▸ ha)), fun _ h => Or.inl h⟩
theorem Loc.alloc (F : Nat → Prop) (u : World) (o : Obj) : Loc F F u (u.alloc o) := Loc.of_below F ((Below.refl _ _).alloc (Nat.le_refl _) _)
theorem Loc.drew {F F' : Nat → Prop} {u v : World} (h : Loc F F' u v) : Loc F F' u v.drew := ⟨h.os, h.tape, h.output, h.size, h.block, h.own⟩
theorem Loc.undrew {F F' : Nat → Prop} {u v : World} (h : Loc F F' u.drew v) : Loc F F' u v := ⟨h.os, h.tape, h.output, h.size, h.block, h.own⟩
theorem Loc.below {F F' : Nat → Prop} {u v : World} {B : Nat} (h : Loc F F' u v) (hF : ∀ k, F k → B ≤ k) (hB : B ≤ u.heap.size) : Below B u v :=
  ⟨h.os, h.tape, h.output, h.size, fun k hk => h.block k (by omega) (fun hf => by have := hF k hf; omega)⟩
/-- All of an object's blocks lie at B or behind. -/
theorem Loc.beyond {F F' : Nat → Prop} {u v : World} {B : Nat} (h : Loc F F' u v) (hF : ∀ k, F k → B ≤ k) (hB : B ≤ u.heap.size) : ∀ k, F' k → B ≤ k := fun k hk => by
  rcases h.own k hk with h1 | h1
  · exact hF k h1
  · omega
/-- Two objects stay apart. -/
theorem Loc.apart {F F' G : Nat → Prop} {u v : World} (h : Loc F F' u v) (hd : ∀ k, F k → ¬ G k) (hG : ∀ k, G k → k < u.heap.size) : ∀ k, F' k → ¬ G k := fun k hk hg => by
  rcases h.own k hk with h1 | h1
  · exact hd k h1 hg
  · have := hG k hg; omega
/-- What lies in the blocks of another one is as it was. -/
theorem Loc.other {F F' G : Nat → Prop} {u v : World} (h : Loc F F' u v) (hd : ∀ k, F k → ¬ G k) (hG : ∀ k, G k → k < u.heap.size) : ∀ k, G k → v.heap[k]? = u.heap[k]? := fun k hk => h.block k (hG k hk) (fun hf => hd k hf hk)
theorem own_same {w w' : World} {base : Nat} {e : TypeId} {size n : Nat} {v : Value} {xs : List Value} (h : w.ownsRow base e size v n xs) (hb : ∀ g, v.ownBlock = some g → w'.heap[g]? = w.heap[g]?) : w'.ownsRow base e size v n xs := by
  refine ⟨h.1, ?_⟩
  rcases h.2 with h0 | ⟨g, cap, cur, rfl, h1, hg, hr⟩
  · exact Or.inl h0
  · exact Or.inr ⟨g, cap, cur, rfl, h1, (hb g rfl).trans hg, hr⟩
theorem own_lt {w : World} {base : Nat} {e : TypeId} {size n : Nat} {v : Value} {xs : List Value} (h : w.ownsRow base e size v n xs) {g : Nat} (hg : v.ownBlock = some g) : g < w.heap.size := (World.ownsRow.lt h g hg).2
end Go.Proofs.Ytmpabcojdkpiaaa
