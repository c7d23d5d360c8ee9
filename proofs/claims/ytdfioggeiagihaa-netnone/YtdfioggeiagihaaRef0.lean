/- The document's own net: what it is in memory; addr, Find, Parted. -/
import Derived.Test.YtdfioggeiagihaaRecs
import Derived.Test.YtdfioggeiagihaaBox
import Derived.Test.YtdfioggeiagihaaOnce1
namespace Go.Proofs.Ytdfioggeiagihaa
open Go Go.RowKit

def letC (x : Lt) : List Value := [.int .u64 (x.id : Int), .int .i64 x.a, .int .i64 x.b, .string x.s, .int .i64 (x.g : Int)]
theorem letC_len (x : Lt) : (letC x).length = 5 := rfl
def cutC (c : Int × Int) : List Value := [.int .i64 c.1, .int .i64 c.2]
theorem cutC_len (c : Int × Int) : (cutC c).length = 2 := rfl
def cutsOf (cuts : List (Int × Int)) (x y : Int) : Bool := cuts.any (fun c => pair c.1 c.2 x y)
/-- The document's net lies at block q. -/
structure RAt (u : World) (q : Nat) (vL vC : Value) (st : Nt) (cuts : List (Int × Int)) : Prop where
  head : u.heap[q]? = some (.cells #[vL, .int .u64 (st.n : Int), vC] 32 (0, 0))
  ls : Recs u 41 5 letC vL st.l
  cs : Recs u 72 2 cutC vC cuts
  cut : ∀ x y, st.p x y = cutsOf cuts x y
/-- Its blocks. -/
def RF (q : Nat) (vL vC : Value) (k : Nat) : Prop := k = q ∨ vL.ownBlock = some k ∨ vC.ownBlock = some k
theorem RAt.lt {u : World} {q : Nat} {vL vC : Value} {st : Nt} {cuts : List (Int × Int)} (h : RAt u q vL vC st cuts) : ∀ k, RF q vL vC k → k < u.heap.size := fun k hk => by
  rcases hk with rfl | h1 | h1
  · exact (Array.getElem?_eq_some_iff.1 h.head).1
  · exact h.ls.lt h1
  · exact h.cs.lt h1
theorem RAt.same {u v : World} {q : Nat} {vL vC : Value} {st : Nt} {cuts : List (Int × Int)} (h : RAt u q vL vC st cuts) (hb : ∀ k, RF q vL vC k → v.heap[k]? = u.heap[k]?) : RAt v q vL vC st cuts :=
  ⟨(hb q (Or.inl rfl)).trans h.head, h.ls.same (fun g hg => hb g (Or.inr (Or.inl hg))), h.cs.same (fun g hg => hb g (Or.inr (Or.inr hg))), h.cut⟩
theorem RAt.below {u v : World} {q : Nat} {vL vC : Value} {st : Nt} {cuts : List (Int × Int)} (h : RAt u q vL vC st cuts) (hb : Below u.heap.size u v) : RAt v q vL vC st cuts := h.same (fun k hk => hb.block k (h.lt k hk))
theorem RAt.cells {u : World} {q : Nat} {vL vC : Value} {st : Nt} {cuts : List (Int × Int)} (h : RAt u q vL vC st cuts) : u.cell? ⟨q, 0, none⟩ = some vL ∧ u.cell? ⟨q, 1, none⟩ = some (.int .u64 (st.n : Int)) ∧ u.cell? ⟨q, 2, none⟩ = some vC := by
  refine ⟨?_, ?_, ?_⟩ <;> simp [World.cell?, h.head]
theorem RAt.free {u : World} {q : Nat} {vL vC : Value} {st : Nt} {cuts : List (Int × Int)} (h : RAt u q vL vC st cuts) (i : Nat) : u.frozen? ⟨q, i, none⟩ = false := by simp [World.frozen?, h.head]
theorem RAt.neL {u : World} {q : Nat} {vL vC : Value} {st : Nt} {cuts : List (Int × Int)} (h : RAt u q vL vC st cuts) : vL.ownBlock ≠ some q := fun e => by
  obtain ⟨cur, hc⟩ := row_type h.ls e
  rw [h.head] at hc
  cases hc
theorem RAt.neC {u : World} {q : Nat} {vL vC : Value} {st : Nt} {cuts : List (Int × Int)} (h : RAt u q vL vC st cuts) : vC.ownBlock ≠ some q := fun e => by
  obtain ⟨cur, hc⟩ := row_type h.cs e
  rw [h.head] at hc
  cases hc
theorem RAt.neLC {u : World} {q : Nat} {vL vC : Value} {st : Nt} {cuts : List (Int × Int)} (h : RAt u q vL vC st cuts) {g : Nat} (hg : vL.ownBlock = some g) : vC.ownBlock ≠ some g := fun e => by
  obtain ⟨cur, hc⟩ := row_type h.ls hg
  obtain ⟨cur2, hc2⟩ := row_type h.cs e
  rw [hc] at hc2
  cases hc2
/-- A letter's cells. -/
theorem RAt.letter {u : World} {q : Nat} {vL vC : Value} {st : Nt} {cuts : List (Int × Int)} (h : RAt u q vL vC st cuts) (hl : 0 < st.l.length) : ∃ g c, vL = .slice (some ⟨g, 0, none⟩) st.l.length c ∧ st.l.length ≤ c ∧ vL.ownBlock = some g ∧ (∀ k (hk : k < st.l.length), LetterAt u g (k * 5) st.l[k]) ∧ ∀ i, u.frozen? ⟨g, i, none⟩ = false := by
  obtain ⟨g, c, h1, h2, h3, h4, h5⟩ := Recs.there h.ls letC_len hl
  exact ⟨g, c, h1, h2, h3, fun k hk => ⟨h4 k 0 hk (by decide), h4 k 1 hk (by decide), h4 k 2 hk (by decide), h4 k 3 hk (by decide), h4 k 4 hk (by decide)⟩, h5⟩
theorem RAt.letters {u : World} {q : Nat} {vL vC : Value} {st : Nt} {cuts : List (Int × Int)} (h : RAt u q vL vC st cuts) : ∃ a c, vL = .slice a st.l.length c ∧ LettersAt u a st.l := by
  by_cases hl : 0 < st.l.length
  · obtain ⟨g, c, h1, _, _, h4, _⟩ := h.letter hl
    exact ⟨_, c, h1, Or.inr ⟨g, 0, rfl, fun k hk => by rw [Nat.zero_add]; exact h4 k hk⟩⟩
  · obtain ⟨a, c, h1, _⟩ := h.ls.slice
    exact ⟨a, c, h1, Or.inl (List.length_eq_zero_iff.1 (by omega))⟩
theorem rAddr (a : Int) (w : World) : Calls Try.prog 37 #[.int .i64 a] w fun e w' => e = .returned (.bool (adr a)) ∧ w' = w := by
  unfold adr
  by_cases h1 : 0 ≤ a
  · by_cases h2 : a < 256
    · rw [decide_eq_true ⟨h1, h2⟩]
      go_enter Try.func37, Try.ntmps37
      go_wp2
      go_ret
      exact ⟨rfl, rfl⟩
    · rw [decide_eq_false (fun h => h2 h.2)]
      go_enter Try.func37, Try.ntmps37
      go_wp2
      go_ret
      exact ⟨rfl, rfl⟩
  · rw [decide_eq_false (fun h => h1 h.1)]
    go_enter Try.func37, Try.ntmps37
    go_wp2
    go_ret
    exact ⟨rfl, rfl⟩
theorem find_at {m : Nat} {st : Nt} (h : st.Ok m) (k : Nat) (hk : k < st.l.length) : st.find st.l[k].id = some st.l[k] := by
  cases hf : st.find st.l[k].id with
  | none => exact absurd rfl (Nt.find_none hf _ (List.getElem_mem hk))
  | some x =>
    have := Nt.find_some hf
    rw [rise_one h.rise this.1 (List.getElem_mem hk) this.2]
set_option maxHeartbeats 1000000 in
theorem rFind (q : Nat) (vL vC : Value) (st : Nt) (cuts : List (Int × Int)) (m : Nat) (id : Nat) (w : World) (h : RAt w q vL vC st cuts) (hok : st.Ok m) :
    Calls Try.prog 41 #[.pointer (some ⟨q, 0, none⟩), .int .u64 (id : Int)] w fun e w' => w' = w ∧ ((st.find id = none ∧ e = .returned (.int .i64 (-1))) ∨ ∃ k, ∃ hk : k < st.l.length, st.find id = some st.l[k] ∧ st.l[k].id = id ∧ e = .returned (.int .i64 (k : Int))) := by
  obtain ⟨c0, c1, c2⟩ := h.cells
  have H := hide h
  have HOk := hide hok
  have hfew := hok.few
  clear h hok
  obtain ⟨a, c, rfl, -⟩ := H.out.ls.slice
  go_enter Try.func41, Try.ntmps41
  go_wp2_with fail
  go_loop [5] (fun i => ∃ k : Nat, k ≤ st.l.length ∧ i = .int .i64 (k : Int) ∧ ∀ j (hj : j < st.l.length), j < k → st.l[j].id ≠ id) (fun i => st.l.length - (intOf i).toNat)
  case atStart => exact ⟨0, Nat.zero_le _, rfl, fun _ _ h => by omega⟩
  case round =>
    obtain ⟨k, hk, rfl, hn⟩ := hrel
    have HN := hide hn
    clear hn
    by_cases hlt : k < st.l.length
    · obtain ⟨g, c', e', -, -, h4, -⟩ := H.out.letter (by omega)
      cases e'
      have e0 := (h4 k hlt).1
      have HF := hide (find_at HOk.out k hlt)
      by_cases he : st.l[k].id = id
      · have hz : ((st.l[k].id : Int) == (id : Int)) = true := by simp [he]
        have HE := hide he
        clear h4 he
        generalize ((st.l[k].id : Int)) = y at *
        go_wp2
        go_ret
        exact ⟨rfl, Or.inr ⟨k, hlt, by rw [← HE.out]; exact HF.out, HE.out, rfl⟩⟩
      · have hz : ((st.l[k].id : Int) == (id : Int)) = false := by simp; omega
        have HN2 : Hid (∀ j (hj : j < st.l.length), j < k + 1 → st.l[j].id ≠ id) := fun j hj hjk => by
          by_cases e : j = k
          · subst e; exact he
          · exact HN.out j hj (by omega)
        clear h4 he
        generalize ((st.l[k].id : Int)) = y at *
        go_wp2
        go_round
        case rel => exact ⟨k + 1, hlt, by go_num, HN2.out⟩
        case measure => simp [intOf]; omega
    · have HF : Hid (st.find id = none) := List.find?_eq_none.2 (fun y hy => by
        obtain ⟨j, hj, rfl⟩ := List.getElem_of_mem hy
        have := HN.out j hj (by omega)
        simpa using this)
      go_wp2
      go_ret
      exact ⟨rfl, Or.inl ⟨HF.out, rfl⟩⟩
end Go.Proofs.Ytdfioggeiagihaa
