/- Both nets beside each other, and the step in its box. -/
import Derived.Test.YtdfioggeiagihaaRef4
import Derived.Test.YtdfioggeiagihaaRef6
import Derived.Test.YtdfioggeiagihaaRef7
import Derived.Test.YtdfioggeiagihaaRef8
import Derived.Test.YtdfioggeiagihaaRef9
import Derived.Test.YtdfioggeiagihaaEqs
import Derived.Test.YtdfioggeiagihaaOnce1
namespace Go.Proofs.Ytdfioggeiagihaa
open Go Go.RowKit

/-- Both: the program's is st, the document's is sr. -/
structure Two (NAt : World → Nat → Nt → (Nat → Prop) → Prop) (B : Nat) (W u : World) (p q k : Nat) (st sr : Nt) (F : Nat → Prop) (vL vC : Value) (cuts : List (Int × Int)) : Prop where
  net : NAt u p st F
  ok : st.Ok k
  own : ∀ i, F i → B ≤ i
  below : Below B W u
  base : B ≤ W.heap.size
  ref : RAt u q vL vC sr cuts
  okr : sr.Ok k
  few : cuts.length ≤ k
  apart : ∀ i, F i → ¬ RF q vL vC i
  behind : ∀ i, RF q vL vC i → B ≤ i
theorem Two.size {NAt : World → Nat → Nt → (Nat → Prop) → Prop} {B : Nat} {W u : World} {p q k : Nat} {st sr : Nt} {F : Nat → Prop} {vL vC : Value} {cuts : List (Int × Int)} (h : Two NAt B W u p q k st sr F vL vC cuts) : B ≤ u.heap.size := Nat.le_trans h.base h.below.size
theorem Two.old {NAt : World → Nat → Nt → (Nat → Prop) → Prop} (C : Con NAt) {B : Nat} {W u v : World} {p q k : Nat} {st sr : Nt} {F : Nat → Prop} {vL vC : Value} {cuts : List (Int × Int)} (h : Two NAt B W u p q k st sr F vL vC cuts) (hb : Below u.heap.size u v) : Two NAt B W v p q k st sr F vL vC cuts :=
  ⟨C.below h.net hb, h.ok, h.own, h.below.trans (hb.mono h.size), h.base, h.ref.below hb, h.okr, h.few, h.apart, h.behind⟩
theorem Two.more {NAt : World → Nat → Nt → (Nat → Prop) → Prop} {B : Nat} {W u : World} {p q k k' : Nat} {st sr : Nt} {F : Nat → Prop} {vL vC : Value} {cuts : List (Int × Int)} (h : Two NAt B W u p q k st sr F vL vC cuts) (hk : k ≤ k') : Two NAt B W u p q k' st sr F vL vC cuts :=
  ⟨h.net, h.ok.more hk, h.own, h.below, h.base, h.ref, h.okr.more hk, Nat.le_trans h.few hk, h.apart, h.behind⟩
/-- The program's net has answered. -/
theorem Two.call {NAt : World → Nat → Nt → (Nat → Prop) → Prop} {B : Nat} {W u v : World} {p q k k' : Nat} {st st' sr : Nt} {F F' : Nat → Prop} {vL vC : Value} {cuts : List (Int × Int)} (h : Two NAt B W u p q k st sr F vL vC cuts) (hn : NAt v p st' F') (hl : Loc F F' u v) (hok : st'.Ok k') (hk : k ≤ k') : Two NAt B W v p q k' st' sr F' vL vC cuts :=
  ⟨hn, hok, hl.beyond h.own h.size, h.below.trans (hl.below h.own h.size), h.base, h.ref.same (hl.other h.apart h.ref.lt), h.okr.more hk, Nat.le_trans h.few hk, hl.apart h.apart h.ref.lt, h.behind⟩
/-- The document's net has answered. -/
theorem Two.turn {NAt : World → Nat → Nt → (Nat → Prop) → Prop} (C : Con NAt) {B : Nat} {W u v : World} {p q k : Nat} {st sr sr' : Nt} {F : Nat → Prop} {vL vC vL' vC' : Value} {cuts cuts' : List (Int × Int)} (h : Two NAt B W u p q k st sr F vL vC cuts) (hr : RAt v q vL' vC' sr' cuts') (hl : Loc (RF q vL vC) (RF q vL' vC') u v) (hok : sr'.Ok k) (hf : cuts'.length ≤ k) : Two NAt B W v p q k st sr' F vL' vC' cuts' :=
  ⟨C.same h.net (hl.other (fun i hi hF => h.apart i hF hi) (C.lt h.net)), h.ok, h.own, h.below.trans (hl.below h.behind h.size), h.base, hr, hok, hf, fun i hi hR => hl.apart (fun j hj hF => h.apart j hF hj) (C.lt h.net) i hR hi, hl.beyond h.behind h.size⟩
/-- In a round: both, the step in its box. -/
structure Tw (NAt : World → Nat → Nt → (Nat → Prop) → Prop) (B : Nat) (W u : World) (p q k : Nat) (st sr : Nt) (F : Nat → Prop) (vL vC : Value) (cuts : List (Int × Int)) (X : Nat) (cs : Array Value) : Prop where
  on : Two NAt B W u p q k st sr F vL vC cuts
  box : Box u X cs 34
  nF : ¬ F X
  nR : ¬ RF q vL vC X
theorem Tw.start {NAt : World → Nat → Nt → (Nat → Prop) → Prop} (C : Con NAt) {B : Nat} {W u : World} {p q k : Nat} {st sr : Nt} {F : Nat → Prop} {vL vC : Value} {cuts : List (Int × Int)} (h : Two NAt B W u p q k st sr F vL vC cuts) (cs : Array Value) : Tw NAt B W (u.alloc (.cells cs 34)) p q k st sr F vL vC cuts u.heap.size cs :=
  ⟨h.old C (one_below _ _), Box.new _ _ _, fun hf => (by have := C.lt h.net _ hf; omega), fun hf => (by have := h.ref.lt _ hf; omega)⟩
theorem Tw.old {NAt : World → Nat → Nt → (Nat → Prop) → Prop} (C : Con NAt) {B : Nat} {W u v : World} {p q k : Nat} {st sr : Nt} {F : Nat → Prop} {vL vC : Value} {cuts : List (Int × Int)} {X : Nat} {cs : Array Value} (h : Tw NAt B W u p q k st sr F vL vC cuts X cs) (hb : Below u.heap.size u v) : Tw NAt B W v p q k st sr F vL vC cuts X cs :=
  ⟨h.on.old C hb, h.box.below hb, h.nF, h.nR⟩
theorem Tw.more {NAt : World → Nat → Nt → (Nat → Prop) → Prop} {B : Nat} {W u : World} {p q k k' : Nat} {st sr : Nt} {F : Nat → Prop} {vL vC : Value} {cuts : List (Int × Int)} {X : Nat} {cs : Array Value} (h : Tw NAt B W u p q k st sr F vL vC cuts X cs) (hk : k ≤ k') : Tw NAt B W u p q k' st sr F vL vC cuts X cs :=
  ⟨h.on.more hk, h.box, h.nF, h.nR⟩
theorem Tw.call {NAt : World → Nat → Nt → (Nat → Prop) → Prop} {B : Nat} {W u v : World} {p q k k' : Nat} {st st' sr : Nt} {F F' : Nat → Prop} {vL vC : Value} {cuts : List (Int × Int)} {X : Nat} {cs : Array Value} (h : Tw NAt B W u p q k st sr F vL vC cuts X cs) (hn : NAt v p st' F') (hl : Loc F F' u v) (hok : st'.Ok k') (hk : k ≤ k') : Tw NAt B W v p q k' st' sr F' vL vC cuts X cs :=
  ⟨h.on.call hn hl hok hk, h.box.loc hl h.nF, fun hf => (by
    rcases hl.own X hf with h1 | h1
    · exact h.nF h1
    · have := h.box.lt; omega), h.nR⟩
theorem Tw.turn {NAt : World → Nat → Nt → (Nat → Prop) → Prop} (C : Con NAt) {B : Nat} {W u v : World} {p q k : Nat} {st sr sr' : Nt} {F : Nat → Prop} {vL vC vL' vC' : Value} {cuts cuts' : List (Int × Int)} {X : Nat} {cs : Array Value} (h : Tw NAt B W u p q k st sr F vL vC cuts X cs) (hr : RAt v q vL' vC' sr' cuts') (hl : Loc (RF q vL vC) (RF q vL' vC') u v) (hok : sr'.Ok k) (hf : cuts'.length ≤ k) : Tw NAt B W v p q k st sr' F vL' vC' cuts' X cs :=
  ⟨h.on.turn C hr hl hok hf, h.box.loc hl h.nR, h.nF, fun hf => (by
    rcases hl.own X hf with h1 | h1
    · exact h.nR h1
    · have := h.box.lt; omega)⟩
end Go.Proofs.Ytdfioggeiagihaa
