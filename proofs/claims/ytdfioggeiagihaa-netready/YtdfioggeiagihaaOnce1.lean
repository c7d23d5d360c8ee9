/- The law NetOnce: a round's worlds; the ways of each call. -/
import Derived.Test.YtdfioggeiagihaaAlive
import Derived.Test.YtdfioggeiagihaaOnce0
namespace Go.Proofs.Ytdfioggeiagihaa
open Go Go.RowKit

theorem fine150 {m : Nat} (h : m ≤ 150) : Fine m := by unfold Fine; omega
theorem valIs (x : Lt) : x.val = .agg #[.int .u64 (x.id : Int), .int .i64 x.a, .int .i64 x.b, .string x.s, .int .i64 (x.g : Int)] := rfl
theorem bareIs (x : Lt) : x.bare.val = .agg #[.int .u64 0, .int .i64 x.a, .int .i64 x.b, .string x.s, .int .i64 0] := rfl
/-- In a round: the net, the map, the step in its box. -/
structure Rd (NAt : World → Nat → Nt → (Nat → Prop) → Prop) (B : Nat) (W u : World) (p q k : Nat) (st : Nt) (F : Nat → Prop) (f : Lit → Option Value) (X : Nat) (cs : Array Value) : Prop where
  on : On NAt B W u p q k st F f
  box : Box u X cs 34
  nF : ¬ F X
  nq : X ≠ q
theorem Rd.start {NAt : World → Nat → Nt → (Nat → Prop) → Prop} (C : Con NAt) {B : Nat} {W u : World} {p q k : Nat} {st : Nt} {F : Nat → Prop} {f : Lit → Option Value} (h : On NAt B W u p q k st F f) (cs : Array Value) : Rd NAt B W (u.alloc (.cells cs 34)) p q k st F f u.heap.size cs :=
  ⟨h.old C (one_below _ _), Box.new _ _ _, fun hf => (by have := C.lt h.net _ hf; omega), fun e => (by have := h.map.lt; omega)⟩
theorem Rd.old {NAt : World → Nat → Nt → (Nat → Prop) → Prop} (C : Con NAt) {B : Nat} {W u v : World} {p q k : Nat} {st : Nt} {F : Nat → Prop} {f : Lit → Option Value} {X : Nat} {cs : Array Value} (h : Rd NAt B W u p q k st F f X cs) (hb : Below u.heap.size u v) : Rd NAt B W v p q k st F f X cs :=
  ⟨h.on.old C hb, h.box.below hb, h.nF, h.nq⟩
theorem Rd.call {NAt : World → Nat → Nt → (Nat → Prop) → Prop} {B : Nat} {W u v : World} {p q k k' : Nat} {st st' : Nt} {F F' : Nat → Prop} {f : Lit → Option Value} {X : Nat} {cs : Array Value} (h : Rd NAt B W u p q k st F f X cs) (hn : NAt v p st' F') (hl : Loc F F' u v) (hok : st'.Ok k') (hk : k ≤ k') : Rd NAt B W v p q k' st' F' f X cs :=
  ⟨h.on.call hn hl hok hk, h.box.loc hl h.nF, fun hf => (by
    rcases hl.own X hf with h1 | h1
    · exact h.nF h1
    · have := h.box.lt; omega), h.nq⟩
theorem Rd.turned {NAt : World → Nat → Nt → (Nat → Prop) → Prop} (C : Con NAt) {B : Nat} {W u v : World} {p q k k' : Nat} {st : Nt} {F : Nat → Prop} {f f' : Lit → Option Value} {X : Nat} {cs : Array Value} (h : Rd NAt B W u p q k st F f X cs) (hm : MAt v 29 q k' f') (ht : u.mapTurned v q) (hk : k ≤ k') : Rd NAt B W v p q k' st F f' X cs :=
  have hl : Loc (fun i => i = q) (fun i => i = q) u v := turned_loc ht rfl
  ⟨h.on.turned C hm ht hk, h.box.loc hl h.nq, h.nF, h.nq⟩
/-- The ways of each call. -/
theorem send_ways (st : Nt) (a b : Int) (s : ByteArray) : (∃ e : Nat, e ≠ 0 ∧ st.send a b s = (0, e, st)) ∨ st.send a b s = (st.n + 1, 0, sendN st a b s) :=
  Nt.send_cases (q := fun r => (∃ e : Nat, e ≠ 0 ∧ r = (0, e, st)) ∨ r = (st.n + 1, 0, sendN st a b s)) st a b s (fun _ => Or.inl ⟨2, by decide, rfl⟩) (fun _ _ _ => Or.inl ⟨4, by decide, rfl⟩) (fun _ _ _ _ => Or.inl ⟨6, by decide, rfl⟩) (fun _ _ _ _ => Or.inr rfl)
theorem double_ways (st : Nt) (id : Nat) : (∃ e : Nat, e ≠ 0 ∧ st.double id = (0, e, st)) ∨ ∃ x, st.find id = some x ∧ st.double id = (st.n + 1, 0, doubleN st x) :=
  Nt.double_cases (q := fun r => (∃ e : Nat, e ≠ 0 ∧ r = (0, e, st)) ∨ ∃ x, st.find id = some x ∧ r = (st.n + 1, 0, doubleN st x)) st id (fun _ => Or.inl ⟨5, by decide, rfl⟩) (fun _ _ _ => Or.inl ⟨6, by decide, rfl⟩) (fun x hx _ => Or.inr ⟨x, hx, rfl⟩)
theorem drop_ways (st : Nt) (id : Nat) : (∃ e : Nat, e ≠ 0 ∧ st.drop id = (e, st)) ∨ ∃ x, st.find id = some x ∧ st.drop id = (0, dropN st id) :=
  Nt.drop_cases (q := fun r => (∃ e : Nat, e ≠ 0 ∧ r = (e, st)) ∨ ∃ x, st.find id = some x ∧ r = (0, dropN st id)) st id (fun _ => Or.inl ⟨5, by decide, rfl⟩) (fun x hx => Or.inr ⟨x, hx, rfl⟩)
theorem take_ways (st : Nt) (id : Nat) : (∃ e : Nat, e ≠ 0 ∧ st.take id = (noLt, e, st)) ∨ ∃ x, st.find id = some x ∧ st.p x.a x.b = false ∧ st.take id = (x, 0, dropN st id) :=
  Nt.take_cases (q := fun r => (∃ e : Nat, e ≠ 0 ∧ r = (noLt, e, st)) ∨ ∃ x, st.find id = some x ∧ st.p x.a x.b = false ∧ r = (x, 0, dropN st id)) st id (fun _ => Or.inl ⟨5, by decide, rfl⟩) (fun _ _ _ => Or.inl ⟨100, by decide, rfl⟩) (fun x hx hp => Or.inr ⟨x, hx, hp, rfl⟩)
theorem find_zero {m : Nat} {st : Nt} (h : st.Ok m) : st.find 0 = none := List.find?_eq_none.2 (fun y hy => by
  have := (h.ids y hy).1
  simp
  omega)
/-- Whatever lies there is a letter. -/
theorem Sent.any {st : Nt} {f : Lit → Option Value} (h : Sent st f) (n : Nat) : ∃ y : Lt, (f (.int .u64 (n : Int))).getD noLt.val = y.bare.val := by
  rw [h.at_ n]
  cases st.find n with
  | none => exact ⟨noLt, rfl⟩
  | some x => exact ⟨x, rfl⟩
theorem len_send (st : Nt) (a b : Int) (s : ByteArray) : (sendN st a b s).l.length = st.l.length + 1 := by unfold sendN; rw [List.length_append]; rfl
theorem len_double (st : Nt) (x : Lt) : (doubleN st x).l.length = st.l.length + 1 := by unfold doubleN; rw [List.length_append]; rfl
theorem part_same (st : Nt) (a b : Int) : (st.part a b).2.l = st.l ∧ (st.part a b).2.n = st.n := Nt.part_cases (q := fun r => r.2.l = st.l ∧ r.2.n = st.n) st a b (fun _ => ⟨rfl, rfl⟩) (fun _ _ _ => ⟨rfl, rfl⟩)
theorem join_same (st : Nt) (a b : Int) : (st.join a b).2.l = st.l ∧ (st.join a b).2.n = st.n := Nt.join_cases (q := fun r => r.2.l = st.l ∧ r.2.n = st.n) st a b (fun _ => ⟨rfl, rfl⟩) (fun _ _ _ => ⟨rfl, rfl⟩)
theorem Sent.same {st st' : Nt} {f : Lit → Option Value} (h : Sent st f) (e : st'.l = st.l) : Sent st' f := fun n => by
  have h0 := h n
  unfold Nt.find at h0 ⊢
  rw [e]
  exact h0
theorem Sent.age {st : Nt} {f : Lit → Option Value} (h : Sent st f) : Sent (ageN st) f := fun n => by
  rw [h n]
  unfold Nt.find ageN
  rw [List.find?_map, Option.map_map]
  rfl
theorem len_age (st : Nt) : (ageN st).l.length = st.l.length := by unfold ageN; simp
theorem Nt.find_lt {st : Nt} {id : Nat} {x : Lt} (hx : st.find id = some x) : 1 ≤ st.l.length := by
  have := (Nt.find_some hx).1
  cases hl : st.l with
  | nil => rw [hl] at this; cases this
  | cons y l => simp
end Go.Proofs.Ytdfioggeiagihaa
