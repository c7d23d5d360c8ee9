/- The program's net: how it lies in memory; who is parted, as a map tells it. -/
import Derived.Test.YtdfioggeiagihaaRef9
import Derived.Test.YtdfioggeiagihaaPairKey
namespace Go.Proofs.Ytdfioggeiagihaa
open Go Go.RowKit
open Go.Maps (Keyed)

theorem len_le {α : Type} : ∀ (l s : List α), l.Pairwise (fun a b => a ≠ b) → (∀ x ∈ l, x ∈ s) → l.length ≤ s.length
  | [], _, _, _ => Nat.zero_le _
  | x :: l, s, hp, hs => by
    obtain ⟨a, b, rfl⟩ := List.append_of_mem (hs x (List.mem_cons_self ..))
    have h1 := List.pairwise_cons.1 hp
    have := len_le l (a ++ b) h1.2 (fun y hy => by
      have hne := h1.1 y hy
      rcases List.mem_append.1 (hs y (List.mem_cons_of_mem _ hy)) with h2 | h2
      · exact List.mem_append_left _ h2
      · rcases List.mem_cons.1 h2 with h3 | h3
        · exact absurd h3.symm hne
        · exact List.mem_append_right _ h3)
    simp only [List.length_append, List.length_cons] at this ⊢
    omega
/-- The keys that there may be. -/
def pairKeys : List Lit := (List.range 256).flatMap (fun (x : Nat) => (List.range 256).map (fun (y : Nat) => kP (x : Int) (y : Int)))
theorem pairKeys_len : pairKeys.length ≤ 65536 := by
  have h : ∀ l : List Nat, (l.flatMap (fun (x : Nat) => (List.range 256).map (fun (y : Nat) => kP (x : Int) (y : Int)))).length = l.length * 256 := fun l => by
    induction l with
    | nil => rfl
    | cons x l ih => rw [List.flatMap_cons, List.length_append, ih, List.length_map, List.length_range, List.length_cons]; omega
  unfold pairKeys
  rw [h, List.length_range]
  exact Nat.le_refl _
theorem mem_pairKeys {x y : Nat} (hx : x < 256) (hy : y < 256) : kP (x : Int) (y : Int) ∈ pairKeys :=
  List.mem_flatMap.2 ⟨x, List.mem_range.2 hx, List.mem_map.2 ⟨y, List.mem_range.2 hy, rfl⟩⟩
/-- f says who is parted: the lower one first. -/
structure Cuts (f : Lit → Option Value) (p : Int → Int → Bool) : Prop where
  at_ : ∀ x y, I64 x → I64 y → x ≤ y → f (kP x y) = if p x y = true then some (.agg #[]) else none
  of_ : ∀ k v, f k = some v → ∃ x y : Nat, x < 256 ∧ y < 256 ∧ k = kP (x : Int) (y : Int)
theorem isKey_P (a b : Int) : WideAt.IsKeyLit (kP a b) := trivial
theorem MAt.few {u : World} {b n : Nat} {f : Lit → Option Value} (h : MAt u 70 b n f) (hf : ∀ k v, f k = some v → ∃ x y : Nat, x < 256 ∧ y < 256 ∧ k = kP (x : Int) (y : Int)) : MAt u 70 b 65536 f := by
  obtain ⟨D, h1, h2⟩ := h
  obtain ⟨es, clock, hb, F, hs, hD⟩ := h1
  refine ⟨D, ⟨es, clock, hb, F, ?_, hD⟩, h2⟩
  have hap := Maps.fit_apart keyedP F
  have hkeys : ∀ k ∈ es.toList.map (fun x => (WideElems.rg Try.prog 70 anyElem x).1), k ∈ pairKeys := fun k hk => by
    obtain ⟨x, hx, rfl⟩ := List.mem_map.1 hk
    obtain ⟨y, hy⟩ := F.reads x hx
    have hkl := keyedP.key (WideElems.rd_key hy)
    have hrg := WideElems.rg_of hy
    rw [hrg]
    have hin : Maps.has D y.1 = true := by
      rw [hD, Maps.has_eq, List.any_eq_true]
      refine ⟨y, ?_, WideAt.sameKey_self hkl⟩
      have hp : y ∈ es.toList.map (WideElems.rg Try.prog 70 anyElem) := List.mem_map.2 ⟨x, hx, hrg⟩
      exact (WideShapes.sorted_perm _).mem_iff.2 hp
    rw [(h2 y.1).1] at hin
    obtain ⟨v, hv⟩ := Option.isSome_iff_exists.1 hin
    obtain ⟨a, c, ha, hc, e⟩ := hf _ _ hv
    rw [e]
    exact mem_pairKeys ha hc
  have h3 := len_le (es.toList.map (fun x => (WideElems.rg Try.prog 70 anyElem x).1)) pairKeys (by
    have := List.pairwise_map.1 hap
    exact List.pairwise_map.2 this) hkeys
  rw [List.length_map, Array.length_toList] at h3
  exact Nat.le_trans h3 pairKeys_len
theorem kP_same {a b c d : Int} (ha : I64 a) (hb : I64 b) (hc : I64 c) (hd : I64 d) (h : (kP a b).sameKey (kP c d) = true) : a = c ∧ b = d := kP_inj ha hb hc hd (WideAt.sameKey_eq h)
theorem i64_of {a : Int} (h : 0 ≤ a ∧ a < 256) : I64 a := ⟨by omega, by omega⟩
theorem Cuts.new : Cuts (fun _ => none) (fun _ _ => false) := ⟨fun _ _ _ _ _ => rfl, fun _ _ h => by cases h⟩
theorem Cuts.part {f : Lit → Option Value} {p : Int → Int → Bool} (h : Cuts f p) {a b : Int} (ha : 0 ≤ a ∧ a < 256) (hb : 0 ≤ b ∧ b < 256) : Cuts (putF f (kP (min a b) (max a b)) (.agg #[])) (fun x y => p x y || pair a b x y) := by
  have hmn : 0 ≤ min a b ∧ min a b < 256 := by omega
  have hmx : 0 ≤ max a b ∧ max a b < 256 := by omega
  refine ⟨fun x y hx hy hxy => ?_, fun k v hk => ?_⟩
  · unfold putF
    by_cases e : x = min a b ∧ y = max a b
    · rw [e.1, e.2, if_pos (WideAt.sameKey_self (isKey_P _ _))]
      have : pair a b (min a b) (max a b) = true := by unfold pair; rw [decide_eq_true_eq]; omega
      rw [this, Bool.or_true, if_pos rfl]
    · rw [if_neg (fun hh => e (kP_same hx hy (i64_of hmn) (i64_of hmx) hh)), h.at_ x y hx hy hxy]
      have : pair a b x y = false := by unfold pair; rw [decide_eq_false_iff_not]; omega
      rw [this, Bool.or_false]
  · unfold putF at hk
    split at hk
    · rename_i hs
      refine ⟨(min a b).toNat, (max a b).toNat, by omega, by omega, ?_⟩
      rw [WideAt.sameKey_eq hs, Int.toNat_of_nonneg hmn.1, Int.toNat_of_nonneg hmx.1]
    · exact h.of_ k v hk
theorem Cuts.join {f : Lit → Option Value} {p : Int → Int → Bool} (h : Cuts f p) {a b : Int} (ha : 0 ≤ a ∧ a < 256) (hb : 0 ≤ b ∧ b < 256) : Cuts (delF f (kP (min a b) (max a b))) (fun x y => p x y && !pair a b x y) := by
  have hmn : 0 ≤ min a b ∧ min a b < 256 := by omega
  have hmx : 0 ≤ max a b ∧ max a b < 256 := by omega
  refine ⟨fun x y hx hy hxy => ?_, fun k v hk => ?_⟩
  · unfold delF
    by_cases e : x = min a b ∧ y = max a b
    · rw [e.1, e.2, if_pos (WideAt.sameKey_self (isKey_P _ _))]
      have : pair a b (min a b) (max a b) = true := by unfold pair; rw [decide_eq_true_eq]; omega
      rw [this]
      simp
    · rw [if_neg (fun hh => e (kP_same hx hy (i64_of hmn) (i64_of hmx) hh)), h.at_ x y hx hy hxy]
      have : pair a b x y = false := by unfold pair; rw [decide_eq_false_iff_not]; omega
      rw [this]
      simp
  · unfold delF at hk
    split at hk
    · cases hk
    · exact h.of_ k v hk
/-- The program's net lies at block p: its letters in a row, who is parted in the map at block b. -/
structure PAt (u : World) (p b : Nat) (vL : Value) (st : Nt) : Prop where
  head : u.heap[p]? = some (.cells #[vL, .int .u64 (st.n : Int), .map (some b)] 59 (0, 0))
  ls : Recs u 41 5 letC vL st.l
  mp : ∃ f, MAt u 70 b 65536 f ∧ Cuts f st.p
def PF (p b : Nat) (vL : Value) (k : Nat) : Prop := k = p ∨ k = b ∨ vL.ownBlock = some k
theorem MAt.block {u : World} {k : TypeId} {b n : Nat} {f : Lit → Option Value} (h : MAt u k b n f) : ∃ es c, u.heap[b]? = some (.map es c) := by
  obtain ⟨D, ⟨es, clock, h1, h2⟩, h3⟩ := h
  exact ⟨es, clock, h1⟩
theorem PAt.lt {u : World} {p b : Nat} {vL : Value} {st : Nt} (h : PAt u p b vL st) : ∀ k, PF p b vL k → k < u.heap.size := fun k hk => by
  rcases hk with rfl | rfl | h1
  · exact (Array.getElem?_eq_some_iff.1 h.head).1
  · obtain ⟨f, h1, _⟩ := h.mp
    exact h1.lt
  · exact h.ls.lt h1
theorem PAt.same {u v : World} {p b : Nat} {vL : Value} {st : Nt} (h : PAt u p b vL st) (hb : ∀ k, PF p b vL k → v.heap[k]? = u.heap[k]?) : PAt v p b vL st := by
  obtain ⟨f, h1, h2⟩ := h.mp
  exact ⟨(hb p (Or.inl rfl)).trans h.head, h.ls.same (fun g hg => hb g (Or.inr (Or.inr hg))), ⟨f, h1.same (hb b (Or.inr (Or.inl rfl))), h2⟩⟩
theorem PAt.below {u v : World} {p b : Nat} {vL : Value} {st : Nt} (h : PAt u p b vL st) (hb : Below u.heap.size u v) : PAt v p b vL st := h.same (fun k hk => hb.block k (h.lt k hk))
theorem PAt.far {u v : World} {p b : Nat} {vL : Value} {st : Nt} {X : Nat} (h : PAt u p b vL st) (hl : Loc (fun k => k = X) (fun k => k = X) u v) (hX : ¬ PF p b vL X) : PAt v p b vL st := h.same (fun k hk => hl.block k (h.lt k hk) (fun e => hX (e ▸ hk)))
theorem PAt.cells {u : World} {p b : Nat} {vL : Value} {st : Nt} (h : PAt u p b vL st) : u.cell? ⟨p, 0, none⟩ = some vL ∧ u.cell? ⟨p, 1, none⟩ = some (.int .u64 (st.n : Int)) ∧ u.cell? ⟨p, 2, none⟩ = some (.map (some b)) := by
  refine ⟨?_, ?_, ?_⟩ <;> simp [World.cell?, h.head]
theorem PAt.free {u : World} {p b : Nat} {vL : Value} {st : Nt} (h : PAt u p b vL st) (i : Nat) : u.frozen? ⟨p, i, none⟩ = false := by simp [World.frozen?, h.head]
theorem PAt.neL {u : World} {p b : Nat} {vL : Value} {st : Nt} (h : PAt u p b vL st) : vL.ownBlock ≠ some p := fun e => by
  obtain ⟨cur, hc⟩ := row_type h.ls e
  rw [h.head] at hc
  cases hc
theorem PAt.neB {u : World} {p b : Nat} {vL : Value} {st : Nt} (h : PAt u p b vL st) : b ≠ p := fun e => by
  obtain ⟨f, h1, _⟩ := h.mp
  obtain ⟨es, c, h2⟩ := h1.block
  rw [e, h.head] at h2
  cases h2
theorem PAt.neLB {u : World} {p b : Nat} {vL : Value} {st : Nt} (h : PAt u p b vL st) : vL.ownBlock ≠ some b := fun e => by
  obtain ⟨cur, hc⟩ := row_type h.ls e
  obtain ⟨f, h1, _⟩ := h.mp
  obtain ⟨es, c, h2⟩ := h1.block
  rw [hc] at h2
  cases h2
theorem PAt.letter {u : World} {p b : Nat} {vL : Value} {st : Nt} (h : PAt u p b vL st) (hl : 0 < st.l.length) : ∃ g c, vL = .slice (some ⟨g, 0, none⟩) st.l.length c ∧ st.l.length ≤ c ∧ vL.ownBlock = some g ∧ (∀ k (hk : k < st.l.length), LetterAt u g (k * 5) st.l[k]) ∧ ∀ i, u.frozen? ⟨g, i, none⟩ = false := by
  obtain ⟨g, c, h1, h2, h3, h4, h5⟩ := Recs.there h.ls letC_len hl
  exact ⟨g, c, h1, h2, h3, fun k hk => ⟨h4 k 0 hk (by decide), h4 k 1 hk (by decide), h4 k 2 hk (by decide), h4 k 3 hk (by decide), h4 k 4 hk (by decide)⟩, h5⟩
/-- Its head is set. -/
theorem PAt.setL {u : World} {p b : Nat} {vL vL' : Value} {n : Nat} {pp : Int → Int → Bool} {l' : List Lt} (hq : u.heap[p]? = some (.cells #[vL, .int .u64 (n : Int), .map (some b)] 59 (0, 0)))
    (hl : Recs u 41 5 letC vL' l') (hm : ∃ f, MAt u 70 b 65536 f ∧ Cuts f pp) (hbp : b ≠ p) : PAt (u.setCell ⟨p, 0, none⟩ vL') p b vL' ⟨l', n, pp⟩ := by
  have nL : vL'.ownBlock ≠ some p := fun e => by
    obtain ⟨cur, h⟩ := row_type hl e
    rw [hq] at h
    cases h
  obtain ⟨f, h1, h2⟩ := hm
  exact ⟨by rw [heap_setAt hq]; rfl, hl.same (fun g hg => Below.heap_setCell u ⟨p, 0, none⟩ vL' g (fun e => nL (by rw [← show g = p from e]; exact hg))), ⟨f, h1.same (Below.heap_setCell u ⟨p, 0, none⟩ vL' b hbp), h2⟩⟩
theorem PAt.setN {u : World} {p b : Nat} {vL : Value} {st : Nt} (h : PAt u p b vL st) (n : Nat) : PAt (u.setCell ⟨p, 1, none⟩ (.int .u64 (n : Int))) p b vL ⟨st.l, n, st.p⟩ := by
  obtain ⟨f, h1, h2⟩ := h.mp
  exact ⟨by rw [heap_setAt h.head]; rfl, h.ls.same (fun g hg => Below.heap_setCell u ⟨p, 1, none⟩ _ g (fun e => h.neL (by rw [← show g = p from e]; exact hg))), ⟨f, h1.same (Below.heap_setCell u ⟨p, 1, none⟩ _ b h.neB), h2⟩⟩
/-- A letter is appended. -/
theorem PAt.grew {u V w1 : World} {p b : Nat} {vL v' : Value} {st : Nt} {x : Lt} (h : PAt u p b vL st) (hV : Below u.heap.size u V) (hg : V.grownBy w1 vL.ownBlock)
    (hown : w1.ownsRow 0 41 5 v' (st.l.length + 1) (st.l.flatMap letC ++ letC x)) (hat : v'.ownBlock = vL.ownBlock ∨ ∃ j, u.heap.size ≤ j ∧ v'.ownBlock = some j) :
    w1.heap[p]? = u.heap[p]? ∧ PAt (w1.setCell ⟨p, 0, none⟩ v') p b v' ⟨st.l ++ [x], st.n, st.p⟩ ∧ Loc (PF p b vL) (PF p b v') u (w1.setCell ⟨p, 0, none⟩ v') := by
  have hq := h.lt p (Or.inl rfl)
  have hqb := h.lt b (Or.inr (Or.inl rfl))
  have e1 : w1.heap[p]? = u.heap[p]? := (hg.block p (Nat.lt_of_lt_of_le hq hV.size) (fun e => h.neL e.symm)).trans (hV.block p hq)
  have e2 : w1.heap[b]? = u.heap[b]? := (hg.block b (Nat.lt_of_lt_of_le hqb hV.size) (fun e => h.neLB e.symm)).trans (hV.block b hqb)
  have hL : Recs w1 41 5 letC v' (st.l ++ [x]) := by
    unfold Recs
    rw [List.length_append, List.flatMap_append]
    simp only [List.flatMap_cons, List.flatMap_nil, List.append_nil, List.length_cons, List.length_nil]
    exact hown
  obtain ⟨f, h1, h2⟩ := h.mp
  refine ⟨e1, PAt.setL (e1.trans h.head) hL ⟨f, h1.same e2, h2⟩ h.neB, ?_⟩
  have l2 : Loc (PF p b vL) (PF p b v') u w1 := ⟨hg.os.trans hV.os, hg.tape.trans hV.tape, hg.output.trans hV.output, Nat.le_trans hV.size hg.size, fun k hk hF => (hg.block k (Nat.lt_of_lt_of_le hk hV.size) (fun e => hF (Or.inr (Or.inr e.symm)))).trans (hV.block k hk), fun k hk => by
    rcases hk with h3 | h3 | h3
    · exact Or.inl (Or.inl h3)
    · exact Or.inl (Or.inr (Or.inl h3))
    · rcases hat with h4 | ⟨j, hj, h4⟩
      · exact Or.inl (Or.inr (Or.inr (h4 ▸ h3)))
      · rw [h4] at h3; cases h3; exact Or.inr hj⟩
  exact l2.trans (Loc.setCell w1 ⟨p, 0, none⟩ v' (Or.inl rfl))
/-- Who is parted is turned. -/
theorem PAt.turned {u v : World} {p b : Nat} {vL : Value} {st : Nt} {f : Lit → Option Value} {n : Nat} {pp : Int → Int → Bool} (h : PAt u p b vL st) (ht : u.mapTurned v b) (hm : MAt v 70 b n f) (hc : Cuts f pp) :
    PAt v p b vL ⟨st.l, st.n, pp⟩ ∧ Loc (PF p b vL) (PF p b vL) u v := by
  have hl := turned_loc ht (F := fun k => k = b) rfl
  have far : ∀ k, k < u.heap.size → k ≠ b → v.heap[k]? = u.heap[k]? := fun k hk hne => hl.block k hk hne
  refine ⟨⟨(far p (h.lt p (Or.inl rfl)) (Ne.symm h.neB)).trans h.head, h.ls.same (fun g hg => far g (h.ls.lt hg) (fun e => h.neLB (e ▸ hg))), ⟨f, hm.few hc.of_, hc⟩⟩, turned_loc ht (Or.inr (Or.inl rfl))⟩
/-- Five cells of a record are written. -/
theorem PAt.putLetter {u : World} {p b g c : Nat} {l : List Lt} {n : Nat} {pp : Int → Int → Bool} (h : PAt u p b (.slice (some ⟨g, 0, none⟩) l.length c) ⟨l, n, pp⟩) (k : Nat) (hk : k < l.length) :
    PAt (u.setCell ⟨g, k * 5 + 4, none⟩ (.int .i64 ((l[k].g : Int) + 1))) p b (.slice (some ⟨g, 0, none⟩) l.length c) ⟨l.set k l[k].older, n, pp⟩ := by
  have h0 : u.ownsRow 0 41 5 (.slice (some ⟨g, 0, none⟩) l.length c) l.length (l.flatMap letC) := h.ls
  have h5 := (World.ownsRow.stored h0 (k * 5 + 4) (.int .i64 ((l[k].g : Int) + 1))).1
  have e5 : (l.flatMap letC).set (k * 5 + 4) (.int .i64 ((l[k].g : Int) + 1)) = (l.set k l[k].older).flatMap letC := by
    rw [← flat_set5 l[k].older _ _ _ _ _ rfl l k hk]
    have hs : ∀ i (hi : i < 5), (l.flatMap letC).set (k * 5 + i) ((letC l[k])[i]'hi) = l.flatMap letC := fun i hi => by
      have := flat_at letC_len l k i hk hi
      refine List.ext_getElem? (fun j => ?_)
      rw [List.getElem?_set]
      split
      · rename_i ej
        subst ej
        rw [if_pos (List.getElem?_eq_some_iff.1 (this.trans (List.getElem?_eq_getElem hi))).1, this, List.getElem?_eq_getElem hi]
      · rfl
    have s0 := hs 0 (by decide)
    have s1 := hs 1 (by decide)
    have s2 := hs 2 (by decide)
    have s3 := hs 3 (by decide)
    simp only [Nat.add_zero] at s0
    change (l.flatMap letC).set (k * 5) (.int .u64 (l[k].id : Int)) = _ at s0
    change (l.flatMap letC).set (k * 5 + 1) (.int .i64 l[k].a) = _ at s1
    change (l.flatMap letC).set (k * 5 + 2) (.int .i64 l[k].b) = _ at s2
    change (l.flatMap letC).set (k * 5 + 3) (.string l[k].s) = _ at s3
    show _ = (((((l.flatMap letC).set (k * 5) (.int .u64 (l[k].id : Int))).set (k * 5 + 1) (.int .i64 l[k].a)).set (k * 5 + 2) (.int .i64 l[k].b)).set (k * 5 + 3) (.string l[k].s)).set (k * 5 + 4) _
    rw [s0, s1, s2, s3]
    rfl
  rw [e5] at h5
  have hq : p ≠ g := fun e => h.neL (by rw [e]; rfl)
  have hB : b ≠ g := fun e => h.neLB (by rw [e]; rfl)
  obtain ⟨f, h1, h2⟩ := h.mp
  refine ⟨(Below.heap_setCell u ⟨g, k * 5 + 4, none⟩ _ p hq).trans h.head, ?_, ⟨f, h1.same (Below.heap_setCell u ⟨g, k * 5 + 4, none⟩ _ b hB), h2⟩⟩
  unfold Recs
  rw [List.length_set]
  exact h5
end Go.Proofs.Ytdfioggeiagihaa
