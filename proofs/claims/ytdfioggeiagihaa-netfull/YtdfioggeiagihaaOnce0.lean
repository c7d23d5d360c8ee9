/- The law NetOnce: the net, and the map of what was sent. -/
import Derived.Test.YtdfioggeiagihaaSteps
import Derived.Test.YtdfioggeiagihaaMapKit
namespace Go.Proofs.Ytdfioggeiagihaa
open Go Go.RowKit
open Go.Maps (Keyed)

theorem keyedU : Keyed Try.prog 29 := Maps.int_keyed Try.underlying29
theorem wf_u64 {n : Nat} (h : n < 18446744073709551616) : (Lit.int .u64 (n : Int)).wf = true := by
  simp [Lit.wf, IntKind.min, IntKind.max, IntKind.signed, IntKind.bits]
  omega
theorem key_u64 {n : Nat} (h : n < 18446744073709551616) : keyOf Try.prog 29 (.int .u64 (n : Int)) = some (.int .u64 (n : Int)) := Maps.keyOf_int_mk Try.underlying29 (wf_u64 h)
/-- f at a number. -/
def atN (f : Lit → Option Value) (n : Nat) : Option Value := f (.int .u64 (n : Int))
theorem atN_put (f : Lit → Option Value) (n m : Nat) (v : Value) : atN (putF f (.int .u64 (n : Int)) v) m = if m = n then some v else atN f m := by
  unfold atN putF
  by_cases e : m = n
  · subst e
    rw [if_pos (WideAt.sameKey_self (show WideAt.IsKeyLit (.int .u64 (m : Int)) from True.intro)), if_pos rfl]
  · rw [if_neg (fun hh => e (by have := WideAt.sameKey_eq hh; injection this with _ h2; omega)), if_neg e]
theorem atN_del (f : Lit → Option Value) (n m : Nat) : atN (delF f (.int .u64 (n : Int))) m = if m = n then none else atN f m := by
  unfold atN delF
  by_cases e : m = n
  · subst e
    rw [if_pos (WideAt.sameKey_self (show WideAt.IsKeyLit (.int .u64 (m : Int)) from True.intro)), if_pos rfl]
  · rw [if_neg (fun hh => e (by have := WideAt.sameKey_eq hh; injection this with _ h2; omega)), if_neg e]
/-- What the map has of a letter. -/
def Lt.bare (x : Lt) : Lt := ⟨0, x.a, x.b, x.s, 0⟩
theorem zeroLt (w : World) : (zeroValue 41).run Try.prog w = .ok noLt.val w := by kernel_rfl
/-- The map has just the letters that are on their way. -/
def Sent (st : Nt) (f : Lit → Option Value) : Prop := ∀ n : Nat, atN f n = (st.find n).map (fun x => x.bare.val)
theorem Sent.new : Sent Nt.new (fun _ => none) := fun _ => rfl
theorem find_push (st : Nt) (x : Lt) (n : Nat) (h : ∀ y ∈ st.l, y.id ≠ x.id) : Nt.find ⟨st.l ++ [x], st.n + 1, st.p⟩ n = if n = x.id then some x else st.find n := by
  unfold Nt.find
  rw [List.find?_append]
  by_cases e : n = x.id
  · rw [if_pos e]
    have h0 : List.find? (fun y => decide (y.id = n)) st.l = none := List.find?_eq_none.2 (fun y hy => by simpa [e] using h y hy)
    rw [h0]
    simp [List.find?, e]
  · rw [if_neg e]
    have h1 : List.find? (fun y => decide (y.id = n)) [x] = none := by simp [List.find?, Ne.symm e]
    rw [h1]
    simp
theorem find_drop (st : Nt) (n m : Nat) : (dropN st n).find m = if m = n then none else st.find m := by
  unfold dropN Nt.find
  rw [List.find?_filter]
  by_cases e : m = n
  · subst e
    rw [if_pos rfl]
    refine List.find?_eq_none.2 (fun y _ => ?_)
    simp
  · rw [if_neg e]
    congr 1
    funext y
    by_cases h : y.id = m
    · have : ¬ y.id = n := by omega
      simp [h, e]
    · simp [h]
theorem Nt.Ok.fresh {m : Nat} {st : Nt} (h : st.Ok m) : ∀ y ∈ st.l, y.id ≠ st.n + 1 := fun y hy => by
  have := (h.ids y hy).2
  omega
theorem Nt.Ok.find_fresh {m : Nat} {st : Nt} (h : st.Ok m) : st.find (st.n + 1) = none := List.find?_eq_none.2 (fun y hy => by simpa using h.fresh y hy)
theorem Sent.send {m : Nat} {st : Nt} {f : Lit → Option Value} (h : Sent st f) (hok : st.Ok m) (a b : Int) (s : ByteArray) : Sent (sendN st a b s) (putF f (.int .u64 ((st.n + 1 : Nat) : Int)) (Lt.val ⟨0, a, b, s, 0⟩)) := fun n => by
  rw [atN_put]
  have e := find_push st ⟨st.n + 1, a, b, s, 0⟩ n hok.fresh
  show _ = Option.map _ (Nt.find ⟨st.l ++ [⟨st.n + 1, a, b, s, 0⟩], st.n + 1, st.p⟩ n)
  rw [e]
  by_cases hn : n = st.n + 1
  · rw [if_pos hn, if_pos hn]; rfl
  · rw [if_neg hn, if_neg hn]; exact h n
theorem Sent.double {m : Nat} {st : Nt} {f : Lit → Option Value} (h : Sent st f) (hok : st.Ok m) (x : Lt) : Sent (doubleN st x) (putF f (.int .u64 ((st.n + 1 : Nat) : Int)) x.bare.val) := fun n => by
  rw [atN_put]
  have e := find_push st (x.as (st.n + 1)) n hok.fresh
  show _ = Option.map _ (Nt.find ⟨st.l ++ [x.as (st.n + 1)], st.n + 1, st.p⟩ n)
  rw [e]
  by_cases hn : n = st.n + 1
  · rw [if_pos hn, if_pos (show n = (x.as (st.n + 1)).id from hn)]; rfl
  · rw [if_neg hn, if_neg (show ¬ n = (x.as (st.n + 1)).id from hn)]; exact h n
theorem Sent.drop {st : Nt} {f : Lit → Option Value} (h : Sent st f) (k : Nat) : Sent (dropN st k) (delF f (.int .u64 (k : Int))) := fun n => by
  rw [atN_del, find_drop]
  by_cases hn : n = k
  · rw [if_pos hn, if_pos hn]; rfl
  · rw [if_neg hn, if_neg hn]; exact h n
theorem Sent.at_ {st : Nt} {f : Lit → Option Value} (h : Sent st f) (n : Nat) : f (.int .u64 (n : Int)) = (st.find n).map (fun x => x.bare.val) := h n
/-- One fewer behind a drop. -/
theorem len_drop {m : Nat} {st : Nt} (h : st.Ok m) {n : Nat} {x : Lt} (hx : st.find n = some x) : (dropN st n).l.length + 1 = st.l.length := by
  have hm := Nt.find_some hx
  unfold dropN
  have key : ∀ (l : List Lt), l.Pairwise (fun x y => x.id < y.id) → x ∈ l → (l.filter (fun y => !decide (y.id = n))).length + 1 = l.length := by
    intro l
    induction l with
    | nil => intro _ h; cases h
    | cons y l ih =>
      intro hp hx
      have h1 := (List.pairwise_cons.1 hp).1
      rcases List.mem_cons.1 hx with e | h2
      · have e1 : l.filter (fun y => !decide (y.id = n)) = l := List.filter_eq_self.2 (fun z hz => by
          have := h1 z hz
          rw [← e, hm.2] at this
          simp
          omega)
        rw [List.filter_cons, ← e, hm.2]
        simp [e1]
      · have h3 := h1 x h2
        have e2 : ¬ y.id = n := by rw [← hm.2]; omega
        rw [List.filter_cons]
        simp [e2]
        have := ih (List.Pairwise.of_cons hp) h2
        omega
  exact key st.l h.rise hm.1
/-- The net and the map, in a world. -/
structure On (NAt : World → Nat → Nt → (Nat → Prop) → Prop) (B : Nat) (W u : World) (p q k : Nat) (st : Nt) (F : Nat → Prop) (f : Lit → Option Value) : Prop where
  net : NAt u p st F
  ok : st.Ok k
  own : ∀ i, F i → B ≤ i
  below : Below B W u
  base : B ≤ W.heap.size
  map : MAt u 29 q k f
  apart : ∀ i, F i → i ≠ q
  behind : B ≤ q
theorem On.size {NAt : World → Nat → Nt → (Nat → Prop) → Prop} {B : Nat} {W u : World} {p q k : Nat} {st : Nt} {F : Nat → Prop} {f : Lit → Option Value} (h : On NAt B W u p q k st F f) : B ≤ u.heap.size := Nat.le_trans h.base h.below.size
theorem On.old {NAt : World → Nat → Nt → (Nat → Prop) → Prop} (C : Con NAt) {B : Nat} {W u v : World} {p q k : Nat} {st : Nt} {F : Nat → Prop} {f : Lit → Option Value} (h : On NAt B W u p q k st F f) (hb : Below u.heap.size u v) : On NAt B W v p q k st F f :=
  ⟨C.below h.net hb, h.ok, h.own, h.below.trans (hb.mono h.size), h.base, h.map.below hb, h.apart, h.behind⟩
theorem On.call {NAt : World → Nat → Nt → (Nat → Prop) → Prop} {B : Nat} {W u v : World} {p q k k' : Nat} {st st' : Nt} {F F' : Nat → Prop} {f : Lit → Option Value} (h : On NAt B W u p q k st F f) (hn : NAt v p st' F') (hl : Loc F F' u v) (hok : st'.Ok k') (hk : k ≤ k') : On NAt B W v p q k' st' F' f :=
  ⟨hn, hok, hl.beyond h.own h.size, h.below.trans (hl.below h.own h.size), h.base, (h.map.same (hl.block q h.map.lt (fun hF => h.apart q hF rfl))).mono hk, fun i hi e => (by
    rcases hl.own i hi with h1 | h1
    · exact h.apart i h1 e
    · have := h.map.lt; omega), h.behind⟩
theorem On.turned {NAt : World → Nat → Nt → (Nat → Prop) → Prop} (C : Con NAt) {B : Nat} {W u v : World} {p q k k' : Nat} {st : Nt} {F : Nat → Prop} {f f' : Lit → Option Value} (h : On NAt B W u p q k st F f) (hm : MAt v 29 q k' f') (ht : u.mapTurned v q) (hk : k ≤ k') : On NAt B W v p q k' st F f' :=
  have hl : Loc (fun i => i = q) (fun i => i = q) u v := turned_loc ht rfl
  ⟨C.same h.net (hl.other (fun i hi hF => h.apart i hF hi) (C.lt h.net)), h.ok.more hk, h.own, h.below.trans (hl.below (fun i hi => by rw [hi]; exact h.behind) h.size), h.base, hm, h.apart, h.behind⟩
end Go.Proofs.Ytdfioggeiagihaa
