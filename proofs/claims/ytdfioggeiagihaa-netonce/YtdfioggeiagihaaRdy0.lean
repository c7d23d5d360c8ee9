/- The law NetReady: since when a letter is there. -/
import Derived.Test.YtdfioggeiagihaaOnce1
import Derived.Test.YtdfioggeiagihaaHand
namespace Go.Proofs.Ytdfioggeiagihaa
open Go Go.RowKit
open Go.Maps (Keyed)

theorem zeroI (w : World) : (zeroValue 2).run Try.prog w = .ok (.int .i64 0) w := by kernel_rfl
/-- The map tells of each letter since when it, or the one that it is like, is there. -/
def Born (st : Nt) (f : Lit → Option Value) (now : Nat) : Prop := ∀ x ∈ st.l, x.g ≤ now ∧ f (.int .u64 (x.id : Int)) = some (.int .i64 ((now : Int) - (x.g : Int)))
theorem Born.new : Born Nt.new (fun _ => none) 0 := fun _ h => by cases h
theorem Born.push {m : Nat} {st : Nt} {f : Lit → Option Value} {now : Nat} (h : Born st f now) (hok : st.Ok m) (x : Lt) (hid : x.id = st.n + 1) (hg : x.g ≤ now) (st' : Nt) (hl : st'.l = st.l ++ [x]) : Born st' (putF f (.int .u64 ((st.n + 1 : Nat) : Int)) (.int .i64 ((now : Int) - (x.g : Int)))) now := fun y hy => by
  rw [hl] at hy
  rcases List.mem_append.1 hy with h1 | h1
  · refine ⟨(h y h1).1, ?_⟩
    have e := atN_put f (st.n + 1) y.id (.int .i64 ((now : Int) - (x.g : Int)))
    rw [if_neg (hok.fresh y h1)] at e
    exact e.trans (h y h1).2
  · obtain rfl := List.mem_singleton.1 h1
    refine ⟨hg, ?_⟩
    have e := atN_put f (st.n + 1) y.id (.int .i64 ((now : Int) - (y.g : Int)))
    rw [if_pos hid] at e
    exact e
theorem Born.less {st st' : Nt} {f : Lit → Option Value} {now : Nat} (h : Born st f now) (hs : ∀ x ∈ st'.l, x ∈ st.l) : Born st' f now := fun x hx => h x (hs x hx)
theorem Born.age {st : Nt} {f : Lit → Option Value} {now : Nat} (h : Born st f now) : Born (ageN st) f (now + 1) := fun x hx => by
  obtain ⟨y, hy, rfl⟩ := List.mem_map.1 hx
  have h0 := h y hy
  refine ⟨Nat.succ_le_succ h0.1, h0.2.trans ?_⟩
  show some (Value.int .i64 ((now : Int) - (y.g : Int))) = some (Value.int .i64 (((now + 1 : Nat) : Int) - ((y.g + 1 : Nat) : Int)))
  congr 2
  omega
theorem take_sub (st : Nt) (id : Nat) : ∀ x ∈ (st.take id).2.2.l, x ∈ st.l := Nt.take_cases (q := fun r => ∀ x ∈ r.2.2.l, x ∈ st.l) st id (fun _ _ h => h) (fun _ _ _ _ h => h) (fun _ _ _ _ h => (List.mem_filter.1 h).1)
theorem drop_sub (st : Nt) (id : Nat) : ∀ x ∈ (st.drop id).2.l, x ∈ st.l := Nt.drop_cases (q := fun r => ∀ x ∈ r.2.l, x ∈ st.l) st id (fun _ _ h => h) (fun _ _ _ h => (List.mem_filter.1 h).1)
/-- How many of the first ones are ready. -/
def freeOf (st : Nt) (k : Nat) : Nat := ((st.l.take k).filter (fun x => !st.p x.a x.b)).length
theorem freeOf_next (st : Nt) (k : Nat) (h : k < st.l.length) : freeOf st (k + 1) = freeOf st k + if st.p st.l[k].a st.l[k].b = true then 0 else 1 := by
  unfold freeOf
  rw [List.take_succ_eq_append_getElem h, List.filter_append, List.length_append, List.filter_cons, List.filter_nil]
  cases hp : st.p st.l[k].a st.l[k].b <;> simp
theorem freeOf_all (st : Nt) : freeOf st st.l.length = st.ready.length := by
  unfold freeOf
  rw [List.take_length, ready_len, readyL_len]
theorem freeOf_le (st : Nt) (k : Nat) : freeOf st k ≤ st.l.length := by
  unfold freeOf
  exact Nat.le_trans (List.length_filter_le _ _) (by rw [List.length_take]; omega)
theorem ready_at (st : Nt) (i : Nat) (h : i < st.ready.length) : ∃ x, x ∈ st.l ∧ st.ready[i] = x.id ∧ (readyL st)[i]? = some x := by
  have h2 : i < (readyL st).length := by rw [← ready_len]; exact h
  refine ⟨(readyL st)[i], (mem_readyL.1 (List.getElem_mem h2)).1, ?_, List.getElem?_eq_getElem h2⟩
  have e : st.ready[i]? = (readyL st)[i]?.map (·.id) := List.getElem?_map ..
  rw [List.getElem?_eq_getElem h, List.getElem?_eq_getElem h2] at e
  exact Option.some.inj e
theorem rise_at {st : Nt} {m : Nat} (h : st.Ok m) (i : Nat) (hi : i + 1 < st.l.length) : st.l[i].id < st.l[i + 1].id := List.pairwise_iff_getElem.1 h.rise i (i + 1) (by omega) hi (by omega)
theorem ahead_at {st : Nt} {m : Nat} (h : st.Ok m) (i : Nat) {x y : Lt} (hx : (readyL st)[i]? = some x) (hy : (readyL st)[i + 1]? = some y) : ahead x y := by
  obtain ⟨h1, rfl⟩ := List.getElem?_eq_some_iff.1 hx
  obtain ⟨h2, rfl⟩ := List.getElem?_eq_some_iff.1 hy
  exact List.pairwise_iff_getElem.1 (readyL_ahead h.rise) i (i + 1) h1 h2 (by omega)
/-- In the two loops: the net, the map, both lists. -/
structure Ls (NAt : World → Nat → Nt → (Nat → Prop) → Prop) (B : Nat) (W u : World) (p q k : Nat) (st : Nt) (F : Nat → Prop) (f : Lit → Option Value) (la ra : Option Addr) : Prop where
  on : On NAt B W u p q k st F f
  ls : LettersAt u la st.l
  ids : IdsAt u ra st.ready
theorem Ls.old {NAt : World → Nat → Nt → (Nat → Prop) → Prop} (C : Con NAt) {B : Nat} {W u v : World} {p q k : Nat} {st : Nt} {F : Nat → Prop} {f : Lit → Option Value} {la ra : Option Addr} (h : Ls NAt B W u p q k st F f la ra) (hb : Below u.heap.size u v) : Ls NAt B W v p q k st F f la ra :=
  ⟨h.on.old C hb, h.ls.old hb, h.ids.old hb⟩
/-- What a look-up of a letter yields. -/
theorem Born.run {u : World} {q k : Nat} {st : Nt} {f : Lit → Option Value} {now : Nat} (h : Born st f now) (hm : MAt u 29 q k f) {x : Lt} (hx : x ∈ st.l) (hid : x.id < 18446744073709551616) :
    (Instr.lookup 56 (.map (some q)) (.int .u64 (x.id : Int)) false).run Try.prog u = .ok (.int .i64 ((now : Int) - (x.g : Int))) u :=
  look_run keyedU Try.underlying56 zeroI hm (key_u64 hid) (congrArg (fun o => Option.getD o (Value.int .i64 0)) (h x hx).2)
end Go.Proofs.Ytdfioggeiagihaa
