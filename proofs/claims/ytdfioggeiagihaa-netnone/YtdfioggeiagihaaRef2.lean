/- The document's own net: its head set; a letter taken out. -/
import Derived.Test.YtdfioggeiagihaaRef1
namespace Go.Proofs.Ytdfioggeiagihaa
open Go Go.RowKit

theorem RAt.setL {u : World} {q : Nat} {vL vL' vC : Value} {n : Nat} {p : Int → Int → Bool} {l' : List Lt} {cuts : List (Int × Int)} (hq : u.heap[q]? = some (.cells #[vL, .int .u64 (n : Int), vC] 32 (0, 0)))
    (hl : Recs u 41 5 letC vL' l') (hc : Recs u 72 2 cutC vC cuts) (hp : ∀ x y, p x y = cutsOf cuts x y) : RAt (u.setCell ⟨q, 0, none⟩ vL') q vL' vC ⟨l', n, p⟩ cuts := by
  have nL : vL'.ownBlock ≠ some q := fun e => by
    obtain ⟨cur, h⟩ := row_type hl e
    rw [hq] at h
    cases h
  have nC : vC.ownBlock ≠ some q := fun e => by
    obtain ⟨cur, h⟩ := row_type hc e
    rw [hq] at h
    cases h
  exact ⟨by rw [heap_setAt hq]; rfl, hl.same (fun g hg => Below.heap_setCell u ⟨q, 0, none⟩ vL' g (fun e => nL (by rw [← show g = q from e]; exact hg))), hc.same (fun g hg => Below.heap_setCell u ⟨q, 0, none⟩ vL' g (fun e => nC (by rw [← show g = q from e]; exact hg))), hp⟩
theorem RAt.setC {u : World} {q : Nat} {vL vC vC' : Value} {n : Nat} {p : Int → Int → Bool} {l : List Lt} {cuts' : List (Int × Int)} (hq : u.heap[q]? = some (.cells #[vL, .int .u64 (n : Int), vC] 32 (0, 0)))
    (hl : Recs u 41 5 letC vL l) (hc : Recs u 72 2 cutC vC' cuts') (hp : ∀ x y, p x y = cutsOf cuts' x y) : RAt (u.setCell ⟨q, 2, none⟩ vC') q vL vC' ⟨l, n, p⟩ cuts' := by
  have nL : vL.ownBlock ≠ some q := fun e => by
    obtain ⟨cur, h⟩ := row_type hl e
    rw [hq] at h
    cases h
  have nC : vC'.ownBlock ≠ some q := fun e => by
    obtain ⟨cur, h⟩ := row_type hc e
    rw [hq] at h
    cases h
  exact ⟨by rw [heap_setAt hq]; rfl, hl.same (fun g hg => Below.heap_setCell u ⟨q, 2, none⟩ vC' g (fun e => nL (by rw [← show g = q from e]; exact hg))), hc.same (fun g hg => Below.heap_setCell u ⟨q, 2, none⟩ vC' g (fun e => nC (by rw [← show g = q from e]; exact hg))), hp⟩
theorem RAt.setN {u : World} {q : Nat} {vL vC : Value} {st : Nt} {cuts : List (Int × Int)} (h : RAt u q vL vC st cuts) (n : Nat) : RAt (u.setCell ⟨q, 1, none⟩ (.int .u64 (n : Int))) q vL vC ⟨st.l, n, st.p⟩ cuts :=
  ⟨by rw [heap_setAt h.head]; rfl, h.ls.same (fun g hg => Below.heap_setCell u ⟨q, 1, none⟩ _ g (fun e => h.neL (by rw [← show g = q from e]; exact hg))), h.cs.same (fun g hg => Below.heap_setCell u ⟨q, 1, none⟩ _ g (fun e => h.neC (by rw [← show g = q from e]; exact hg))), h.cut⟩
/-- The letters are replaced by a row that is new. -/
theorem RAt.replL {w w2 : World} {q : Nat} {vL vC v2 : Value} {st : Nt} {cuts : List (Int × Int)} {l' : List Lt} (h : RAt w q vL vC st cuts) (hb : Below w.heap.size w w2) (hl : Recs w2 41 5 letC v2 l') (hnew : ∀ g, v2.ownBlock = some g → w.heap.size ≤ g) :
    RAt (w2.setCell ⟨q, 0, none⟩ v2) q v2 vC ⟨l', st.n, st.p⟩ cuts ∧ Loc (RF q vL vC) (RF q v2 vC) w (w2.setCell ⟨q, 0, none⟩ v2) := by
  have h2 := h.below hb
  refine ⟨RAt.setL h2.head hl h2.cs h.cut, ?_⟩
  have l1 : Loc (RF q vL vC) (RF q v2 vC) w w2 := ⟨hb.os, hb.tape, hb.output, hb.size, fun k hk _ => hb.block k hk, fun k hk => by
    rcases hk with h3 | h3 | h3
    · exact Or.inl (Or.inl h3)
    · exact Or.inr (hnew k h3)
    · exact Or.inl (Or.inr (Or.inr h3))⟩
  exact l1.trans (Loc.setCell w2 ⟨q, 0, none⟩ v2 (Or.inl rfl))
/-- The pairs are replaced by a row that is new. -/
theorem RAt.replC {w w2 : World} {q : Nat} {vL vC v2 : Value} {st : Nt} {cuts cuts' : List (Int × Int)} {p' : Int → Int → Bool} (h : RAt w q vL vC st cuts) (hb : Below w.heap.size w w2) (hl : Recs w2 72 2 cutC v2 cuts') (hnew : ∀ g, v2.ownBlock = some g → w.heap.size ≤ g) (hp : ∀ x y, p' x y = cutsOf cuts' x y) :
    RAt (w2.setCell ⟨q, 2, none⟩ v2) q vL v2 ⟨st.l, st.n, p'⟩ cuts' ∧ Loc (RF q vL vC) (RF q vL v2) w (w2.setCell ⟨q, 2, none⟩ v2) := by
  have h2 := h.below hb
  refine ⟨RAt.setC h2.head h2.ls hl hp, ?_⟩
  have l1 : Loc (RF q vL vC) (RF q vL v2) w w2 := ⟨hb.os, hb.tape, hb.output, hb.size, fun k hk _ => hb.block k hk, fun k hk => by
    rcases hk with h3 | h3 | h3
    · exact Or.inl (Or.inl h3)
    · exact Or.inl (Or.inr (Or.inl h3))
    · exact Or.inr (hnew k h3)⟩
  exact l1.trans (Loc.setCell w2 ⟨q, 2, none⟩ v2 (Or.inl rfl))
theorem drop_take {m : Nat} {st : Nt} (h : st.Ok m) (k : Nat) (hk : k < st.l.length) : (dropN st st.l[k].id).l = st.l.take k ++ st.l.drop (k + 1) := by
  have hp := List.pairwise_iff_getElem.1 h.rise
  have e : st.l = st.l.take k ++ (st.l[k] :: st.l.drop (k + 1)) := by
    rw [← List.drop_eq_getElem_cons hk, List.take_append_drop]
  have h1 : ∀ x ∈ st.l.take k, x.id ≠ st.l[k].id := fun x hx => by
    obtain ⟨i, hi, rfl⟩ := List.getElem_of_mem hx
    rw [List.length_take] at hi
    rw [List.getElem_take]
    have := hp i k (by omega) hk (by omega)
    omega
  have h2 : ∀ x ∈ st.l.drop (k + 1), x.id ≠ st.l[k].id := fun x hx => by
    obtain ⟨i, hi, rfl⟩ := List.getElem_of_mem hx
    rw [List.length_drop] at hi
    rw [List.getElem_drop]
    have := hp k (k + 1 + i) hk (by omega) (by omega)
    omega
  have f1 : (st.l.take k).filter (fun x => !decide (x.id = st.l[k].id)) = st.l.take k := List.filter_eq_self.2 (fun x hx => by simpa using h1 x hx)
  have f2 : (st.l.drop (k + 1)).filter (fun x => !decide (x.id = st.l[k].id)) = st.l.drop (k + 1) := List.filter_eq_self.2 (fun x hx => by simpa using h2 x hx)
  have f3 : st.l.filter (fun x => !decide (x.id = st.l[k].id)) = (st.l.take k ++ (st.l[k] :: st.l.drop (k + 1))).filter (fun x => !decide (x.id = st.l[k].id)) := congrArg (List.filter _) e
  show st.l.filter (fun x => !decide (x.id = st.l[k].id)) = _
  rw [f3, List.filter_append, List.filter_cons, f1, f2]
  simp
theorem infoL : (Try.prog.info? 41).map (fun i => (i.zero, i.size, i.bytes)) = some (some (.agg #[.int .u64 0, .int .i64 0, .int .i64 0, .string ⟨#[]⟩, .int .i64 0]), 5, 48) := by kernel_rfl
theorem infoC : (Try.prog.info? 72).map (fun i => (i.zero, i.size, i.bytes)) = some (some (.agg #[.int .i64 0, .int .i64 0]), 2, 16) := by kernel_rfl
theorem one_letC (l : List Lt) : ∀ u ∈ l.flatMap letC, u.oneCell' = true := fun u hu => by
  obtain ⟨x, _, hx⟩ := List.mem_flatMap.1 hu
  unfold letC at hx
  simp at hx
  rcases hx with rfl | rfl | rfl | rfl | rfl <;> rfl
theorem one_cutC (l : List (Int × Int)) : ∀ u ∈ l.flatMap cutC, u.oneCell' = true := fun u hu => by
  obtain ⟨x, _, hx⟩ := List.mem_flatMap.1 hu
  unfold cutC at hx
  simp at hx
  rcases hx with rfl | rfl <;> rfl
/-- The cells of some of a row's records, one behind the other. -/
theorem news_of {α : Type} {u : World} {s g : Nat} {f : α → List Value} (hs : 0 < s) (hf : ∀ x, (f x).length = s) (l : List α) (o : Nat) (h : ∀ k i (hk : k < l.length), i < s → u.cell? ⟨g, o + (k * s + i), none⟩ = (f l[k])[i]?) :
    ∀ j v, (l.flatMap f)[j]? = some v → u.cell? ((⟨g, o, none⟩ : Addr).add j) = some v := fun j v hv => by
  have hj : j < l.length * s := by
    have := (List.getElem?_eq_some_iff.1 hv).1
    rw [flat_len hf] at this
    exact this
  have hk : j / s < l.length := Nat.div_lt_of_lt_mul (by rw [Nat.mul_comm]; exact hj)
  have hi : j % s < s := Nat.mod_lt _ hs
  have e : j / s * s + j % s = j := by rw [Nat.mul_comm]; exact Nat.div_add_mod j s
  have h1 := flat_at hf l (j / s) (j % s) hk hi
  rw [e] at h1
  have h2 := h (j / s) (j % s) hk hi
  rw [e] at h2
  rw [show (⟨g, o, none⟩ : Addr).add j = ⟨g, o + j, none⟩ from by unfold Addr.add; split <;> simp_all, h2, ← h1]
  exact hv
end Go.Proofs.Ytdfioggeiagihaa
