/- Laying, plain and in memory: writes that are made one by one. Package wal's lay: what the three walks share. -/
import Derived.Test.YtelkccfjeinlcaaG1Diff
import Derived.Test.YtelkccfjeinlcaaG1Touch
namespace Go.Proofs.Ytelkccfjeinlcaa
open Go Go.RowKit Frm Go.Shelf
/-- Writes are made, up to the first error. -/
def pw (o : Nat) : List (Nat × ByteArray) → St → Nat × St
  | [], st => (0, st)
  | x :: l, st => if (st.write (wrap64 ((o : Int) + (x.1 : Int))) x.2).1 = 0 then pw o l (st.write (wrap64 ((o : Int) + (x.1 : Int))) x.2).2 else st.write (wrap64 ((o : Int) + (x.1 : Int))) x.2
theorem pw_cons (o : Nat) (x : Nat × ByteArray) (l : List (Nat × ByteArray)) (st : St) : pw o (x :: l) st = if (st.write (wrap64 ((o : Int) + (x.1 : Int))) x.2).1 = 0 then pw o l (st.write (wrap64 ((o : Int) + (x.1 : Int))) x.2).2 else st.write (wrap64 ((o : Int) + (x.1 : Int))) x.2 := rfl
theorem pw_append (o : Nat) : ∀ (l m : List (Nat × ByteArray)) (st : St), pw o (l ++ m) st = if (pw o l st).1 = 0 then pw o m (pw o l st).2 else pw o l st
  | [], m, st => by simp [pw]
  | x :: l, m, st => by
    rw [List.cons_append, pw_cons, pw_cons]
    by_cases h : (st.write (wrap64 ((o : Int) + (x.1 : Int))) x.2).1 = 0
    · rw [if_pos h, if_pos h]; exact pw_append o l m _
    · rw [if_neg h, if_neg h, if_neg h]
theorem pw_one (o : Nat) (x : Nat × ByteArray) (st : St) : pw o [x] st = st.write (wrap64 ((o : Int) + (x.1 : Int))) x.2 := by
  rw [pw_cons]
  split
  · rename_i h
    show (0, _) = _
    rw [← h]
  · rfl
theorem pw_snoc {o : Nat} {l : List (Nat × ByteArray)} {st : St} (h : (pw o l st).1 = 0) (x : Nat × ByteArray) : pw o (l ++ [x]) st = (pw o l st).2.write (wrap64 ((o : Int) + (x.1 : Int))) x.2 := by rw [pw_append, if_pos h, pw_one]
theorem pw_err {o : Nat} {l m : List (Nat × ByteArray)} {st : St} (h : (pw o l st).1 ≠ 0) : pw o (l ++ m) st = pw o l st := by rw [pw_append, if_neg h]
theorem write_loose (st : St) (b : Int) (d : ByteArray) : (st.write b d).2.loose.length ≤ st.loose.length + 1 := by
  unfold St.write
  split
  · simp
  · split
    · simp
    · split
      · simp
      · simp
theorem write_sure (st : St) (b : Int) (d : ByteArray) : (st.write b d).2.sure = st.sure := by
  unfold St.write
  split
  · rfl
  · split
    · rfl
    · split
      · rfl
      · rfl
theorem pw_loose (o : Nat) : ∀ (l : List (Nat × ByteArray)) (st : St), (pw o l st).2.loose.length ≤ st.loose.length + l.length
  | [], st => by simp [pw]
  | x :: l, st => by
    rw [pw_cons]
    have h1 := write_loose st (wrap64 ((o : Int) + (x.1 : Int))) x.2
    split
    · have := pw_loose o l (st.write (wrap64 ((o : Int) + (x.1 : Int))) x.2).2
      rw [List.length_cons]
      omega
    · rw [List.length_cons]
      omega
theorem pw_sure (o : Nat) : ∀ (l : List (Nat × ByteArray)) (st : St), (pw o l st).2.sure = st.sure
  | [], _ => rfl
  | x :: l, st => by
    rw [pw_cons]
    split
    · rw [pw_sure o l, write_sure]
    · exact write_sure _ _ _
theorem pw_ok (o : Nat) : ∀ (l : List (Nat × ByteArray)) (st : St), st.Ok → (pw o l st).2.Ok
  | [], _, h => h
  | x :: l, st, h => by
    rw [pw_cons]
    split
    · exact pw_ok o l _ (h.write _ _)
    · exact h.write _ _
theorem puts_pw (o : Nat) : ∀ (l : List (ByteArray × ByteArray)) (i : Nat) (st : St), o + i + l.length ≤ 1000000 → puts o l i st = pw o (wl 0 l i) st
  | [], _, _, _ => rfl
  | x :: l, i, st, h => by
    rw [List.length_cons] at h
    have e1 : wl 0 (x :: l) i = if x.1 = x.2 then wl 0 l (i + 1) else (0 + i, x.2) :: wl 0 l (i + 1) := rfl
    have e2 : puts o (x :: l) i st = if x.1 = x.2 then puts o l (i + 1) st else if (st.write ((o + i : Nat) : Int) x.2).1 = 0 then puts o l (i + 1) (st.write ((o + i : Nat) : Int) x.2).2 else st.write ((o + i : Nat) : Int) x.2 := rfl
    rw [e1, e2]
    split
    · exact puts_pw o l (i + 1) st (by omega)
    · have hw : wrap64 ((o : Int) + ((0 + i : Nat) : Int)) = ((o + i : Nat) : Int) := by unfold wrap64; omega
      rw [pw_cons]
      simp only [hw]
      split
      · exact puts_pw o l (i + 1) _ (by omega)
      · rfl
theorem DAt.cells {u : World} {p : Nat} {st : St} {F : Nat → Prop} (h : DAt u p st F) {k : Nat} (hk : F k) : ∃ o, u.heap[k]? = some o ∧ o.isCells = true := by
  obtain ⟨vS, vL, x, rfl, h⟩ := h
  rcases hk with rfl | h1 | h1
  · exact ⟨_, h.head, rfl⟩
  · obtain ⟨cur, hc⟩ := row_type h.sure h1
    exact ⟨_, hc, rfl⟩
  · obtain ⟨cur, hc⟩ := row_type h.loose h1
    exact ⟨_, hc, rfl⟩
theorem DAt.head {u : World} {p : Nat} {st : St} {F : Nat → Prop} (h : DAt u p st F) : F p := by
  obtain ⟨vS, vL, x, rfl, h⟩ := h
  exact Or.inl rfl
/-- A Write, with whatever number and bytes. -/
theorem write_any (p : Nat) (st : St) (F : Nat → Prop) (b : Int) (d : ByteArray) (u : World) (h : DAt u p st F) (hok : st.Ok) (hl : st.loose.length ≤ 10000) :
    Calls Try.prog 31 #[.pointer (some ⟨p, 0, none⟩), .int .i64 b, .string d] u fun e v => e = .returned (.int .i64 (((st.write b d).1 : Nat) : Int)) ∧ ∃ F', DAt v p (st.write b d).2 F' ∧ Loc F F' u v := by
  obtain ⟨vS, vL, x, rfl, h⟩ := h
  refine (pWrite p vS vL x st b d u h hok hl).mono ?_
  rintro e v ⟨rfl, vL', y, h2, l2⟩
  exact ⟨rfl, _, ⟨vS, vL', y, rfl, h2⟩, l2⟩
theorem Loc.keeps {F F' : Nat → Prop} {W W' : World} {p : Nat} {st : St} (h : Loc F F' W W') (hD : DAt W p st F) (B : Nat) : KeepsFrom B W W' :=
  ⟨h.size, fun k o _ hk ho => (h.block k (Array.getElem?_eq_some_iff.1 hk).1 (fun hF => by
    obtain ⟨o', ho', hc⟩ := hD.cells hF
    rw [hk] at ho'
    cases ho'
    rw [ho] at hc
    cases hc)).trans hk⟩
/-- Between two rounds of laying: n is the caller's heap's size. -/
structure LayIn (w : World) (q o N : Nat) (st : St) (F : Nat → Prop) (K0 : Nat → Prop) (pre : List (Nat × ByteArray)) (W : World) (F' : Nat → Prop) (vB vE vW : Value) : Prop where
  size : w.heap.size + 7 ≤ W.heap.size
  disk : DAt W q (pw o pre st).2 F'
  loc : Loc F F' w W
  own : ∀ k, F' k → F k ∨ w.heap.size + 7 ≤ k
  old : ∀ k, K0 k → W.heap[k]? = w.heap[k]?
  area : W.heap[w.heap.size]? = some (.cells #[.pointer (some ⟨q, 0, none⟩), .int .i64 (o : Int), .int .i64 (N : Int)] 87 (0, 0))
  b : Boxed W (w.heap.size + 1) 4 vB
  e : Boxed W (w.heap.size + 1 + 1) 26 vE
  w : Boxed W (w.heap.size + 1 + 1 + 1) 4 vW
theorem LayIn.grown {w : World} {q o N : Nat} {st : St} {F K0 : Nat → Prop} {pre : List (Nat × ByteArray)} {W W' : World} {F' : Nat → Prop} {vB vE vW : Value} {row : Option Nat} (h : LayIn w q o N st F K0 pre W F' vB vE vW) (hK0 : ∀ k, K0 k → k < w.heap.size) (hg : W.grownBy W' row)
    (hr : ∀ r, row = some r → w.heap.size + 7 ≤ r ∧ ∃ ob : Obj, W.heap[r]? = some ob ∧ ob.isCells = false) : LayIn w q o N st F K0 pre W' F' vB vE vW := by
  have hlow : ∀ k, k < w.heap.size + 7 → k < W.heap.size → W'.heap[k]? = W.heap[k]? := fun k hk hs => hg.block k hs (fun e => by have := (hr k e.symm).1; omega)
  have hlt := h.size
  refine ⟨Nat.le_trans h.size hg.size, con.same h.disk (fun k hk => hg.block k (con.lt h.disk k hk) (fun e => ?_)), ?_, h.own, fun k hk => (hlow k (by have := hK0 k hk; omega) (by have := hK0 k hk; omega)).trans (h.old k hk), (hlow _ (by omega) (by omega)).trans h.area, (hlow _ (by omega) (by omega)).trans h.b, (hlow _ (by omega) (by omega)).trans h.e, (hlow _ (by omega) (by omega)).trans h.w⟩
  · obtain ⟨_, ob, ho, hc⟩ := hr k e.symm
    obtain ⟨o', ho', hc'⟩ := h.disk.cells hk
    rw [ho] at ho'
    cases ho'
    rw [hc] at hc'
    cases hc'
  · exact ⟨hg.os.trans h.loc.os, hg.tape.trans h.loc.tape, hg.output.trans h.loc.output, Nat.le_trans h.loc.size hg.size, fun k hk hF => (hlow k (by omega) (Nat.lt_of_lt_of_le hk h.loc.size)).trans (h.loc.block k hk hF), h.loc.own⟩
/-- A Write on the disk. -/
theorem LayIn.write {w : World} {q o N : Nat} {st : St} {F K0 : Nat → Prop} {pre : List (Nat × ByteArray)} {x : Nat × ByteArray} {W W' : World} {F' F'' : Nat → Prop} {vB vE vW : Value} (h : LayIn w q o N st F K0 pre W F' vB vE vW) (hF : ∀ k, F k → k < w.heap.size) (hK0 : ∀ k, K0 k → k < w.heap.size ∧ ¬ F k) (h0 : (pw o pre st).1 = 0)
    (hd : DAt W' q ((pw o pre st).2.write (wrap64 ((o : Int) + (x.1 : Int))) x.2).2 F'') (hl : Loc F' F'' W W') : LayIn w q o N st F K0 (pre ++ [x]) W' F'' vB vE vW := by
  have hlt := h.size
  have hsz := h.loc.size
  have keep : ∀ k, k < w.heap.size + 7 → k < W.heap.size → ¬ F k → W'.heap[k]? = W.heap[k]? := fun k hk hs hn => hl.block k hs (fun hF' => by
    rcases h.own k hF' with h1 | h1
    · exact hn h1
    · omega)
  refine ⟨Nat.le_trans h.size hl.size, by rw [pw_snoc h0]; exact hd, h.loc.trans hl, fun k hk => ?_, fun k hk => (keep k (by have := hK0 k hk; omega) (by have := hK0 k hk; omega) (hK0 k hk).2).trans (h.old k hk), (keep _ (by omega) (by omega) (fun hh => by have := hF _ hh; omega)).trans h.area,
    (keep _ (by omega) (by omega) (fun hh => by have := hF _ hh; omega)).trans h.b, (keep _ (by omega) (by omega) (fun hh => by have := hF _ hh; omega)).trans h.e, (keep _ (by omega) (by omega) (fun hh => by have := hF _ hh; omega)).trans h.w⟩
  rcases hl.own k hk with h1 | h1
  · exact h.own k h1
  · exact Or.inr (Nat.le_trans h.size h1)
theorem LayIn.set {w : World} {q o N : Nat} {st : St} {F K0 : Nat → Prop} {pre : List (Nat × ByteArray)} {W : World} {F' : Nat → Prop} {vB vE vW : Value} (h : LayIn w q o N st F K0 pre W F' vB vE vW) (hF : ∀ k, F k → k < w.heap.size) (hK0 : ∀ k, K0 k → k < w.heap.size) (B : Nat) (hB : w.heap.size < B) (hB2 : B < w.heap.size + 7) (v : Value) {vB' vE' vW' : Value}
    (h1 : Boxed (W.setCell ⟨B, 0, none⟩ v) (w.heap.size + 1) 4 vB') (h2 : Boxed (W.setCell ⟨B, 0, none⟩ v) (w.heap.size + 1 + 1) 26 vE') (h3 : Boxed (W.setCell ⟨B, 0, none⟩ v) (w.heap.size + 1 + 1 + 1) 4 vW') : LayIn w q o N st F K0 pre (W.setCell ⟨B, 0, none⟩ v) F' vB' vE' vW' := by
  have ne : ∀ k, k ≠ B → (W.setCell ⟨B, 0, none⟩ v).heap[k]? = W.heap[k]? := fun k hk => Below.heap_setCell W ⟨B, 0, none⟩ v k hk
  have nF : ∀ k, F' k → k ≠ B := fun k hk e => by
    rcases h.own k hk with h1 | h1
    · have := hF k h1; omega
    · omega
  refine ⟨by simpa [World.setCell] using h.size, con.same h.disk (fun k hk => ne k (nF k hk)), ⟨h.loc.os, h.loc.tape, h.loc.output, by simpa [World.setCell] using h.loc.size, fun k hk hn => (ne k (by omega)).trans (h.loc.block k hk hn), h.loc.own⟩, h.own, fun k hk => (ne k (by have := hK0 k hk; omega)).trans (h.old k hk), (ne _ (by omega)).trans h.area, h1, h2, h3⟩
theorem LayIn.setB {w : World} {q o N : Nat} {st : St} {F K0 : Nat → Prop} {pre : List (Nat × ByteArray)} {W : World} {F' : Nat → Prop} {vB vE vW : Value} (h : LayIn w q o N st F K0 pre W F' vB vE vW) (hF : ∀ k, F k → k < w.heap.size) (hK0 : ∀ k, K0 k → k < w.heap.size) (v : Value) : LayIn w q o N st F K0 pre (W.setCell ⟨w.heap.size + 1, 0, none⟩ v) F' v vE vW :=
  h.set hF hK0 _ (by omega) (by omega) v (h.b.set v) (h.e.other (by omega) v) (h.w.other (by omega) v)
theorem LayIn.setE {w : World} {q o N : Nat} {st : St} {F K0 : Nat → Prop} {pre : List (Nat × ByteArray)} {W : World} {F' : Nat → Prop} {vB vE vW : Value} (h : LayIn w q o N st F K0 pre W F' vB vE vW) (hF : ∀ k, F k → k < w.heap.size) (hK0 : ∀ k, K0 k → k < w.heap.size) (v : Value) : LayIn w q o N st F K0 pre (W.setCell ⟨w.heap.size + 1 + 1, 0, none⟩ v) F' vB v vW :=
  h.set hF hK0 _ (by omega) (by omega) v (h.b.other (by omega) v) (h.e.set v) (h.w.other (by omega) v)
theorem LayIn.setW {w : World} {q o N : Nat} {st : St} {F K0 : Nat → Prop} {pre : List (Nat × ByteArray)} {W : World} {F' : Nat → Prop} {vB vE vW : Value} (h : LayIn w q o N st F K0 pre W F' vB vE vW) (hF : ∀ k, F k → k < w.heap.size) (hK0 : ∀ k, K0 k → k < w.heap.size) (v : Value) : LayIn w q o N st F K0 pre (W.setCell ⟨w.heap.size + 1 + 1 + 1, 0, none⟩ v) F' vB vE v :=
  h.set hF hK0 _ (by omega) (by omega) v (h.b.other (by omega) v) (h.e.other (by omega) v) (h.w.set v)
/-- What the closures and the iterator read. -/
def KL (n : Nat) (K0 : Nat → Prop) (k : Nat) : Prop := K0 k ∨ k = n + 1 + 1 + 1 + 1 ∨ k = n + 1 + 1 + 1 + 1 + 1 ∨ k = n + 1 + 1 + 1 + 1 + 1 + 1
theorem KL.lt {n : Nat} {K0 : Nat → Prop} (h : ∀ k, K0 k → k < n) : ∀ k, KL n K0 k → k < n + 7 := fun k hk => by
  rcases hk with h1 | h1 | h1 | h1
  · have := h k h1; omega
  · omega
  · omega
  · omega
/-- A round keeps what the iterator reads. -/
theorem LayIn.kpt {w : World} {q o N : Nat} {st : St} {F K0 : Nat → Prop} {pre : List (Nat × ByteArray)} {W W' : World} {F' F'' : Nat → Prop} {vB vE vW : Value} (h : LayIn w q o N st F K0 pre W F' vB vE vW) (hF : ∀ k, F k → k < w.heap.size) (hK0 : ∀ k, K0 k → k < w.heap.size ∧ ¬ F k) (hl : Loc F' F'' W W') : Kpt (KL w.heap.size K0) W W' := fun k hk => by
  have hs := h.size
  have hlt := KL.lt (fun k hk => (hK0 k hk).1) k hk
  refine hl.block k (by omega) (fun hF' => ?_)
  rcases h.own k hF' with h1 | h1
  · rcases hk with h2 | h2 | h2 | h2
    · exact (hK0 k h2).2 h1
    · have := hF k h1; omega
    · have := hF k h1; omega
    · have := hF k h1; omega
  · omega
theorem kpt_set {w W : World} {K0 : Nat → Prop} (hK0 : ∀ k, K0 k → k < w.heap.size) (v : Value) : Kpt (KL w.heap.size K0) W (W.setCell ⟨w.heap.size + 1 + 1 + 1, 0, none⟩ v) := fun k hk => Below.heap_setCell W _ v k (fun e => by
  have e2 : k = w.heap.size + 1 + 1 + 1 := e
  rcases hk with h1 | h1 | h1 | h1
  · have := hK0 k h1; omega
  · omega
  · omega
  · omega)
end Go.Proofs.Ytelkccfjeinlcaa
namespace Go.Proofs.Ytelkccfjeinlcaa
open Go Go.RowKit Frm Go.Shelf
theorem heap7 (w : World) (o0 o1 o2 o3 o4 o5 o6 : Obj) (j : Nat) : (((((((w.alloc o0).alloc o1).alloc o2).alloc o3).alloc o4).alloc o5).alloc o6).heap[w.heap.size + j]? = [o0, o1, o2, o3, o4, o5, o6][j]? := by
  have e : (((((((w.alloc o0).alloc o1).alloc o2).alloc o3).alloc o4).alloc o5).alloc o6).heap = w.heap ++ #[o0, o1, o2, o3, o4, o5, o6] := by
    show ((((((w.heap.push o0).push o1).push o2).push o3).push o4).push o5).push o6 = _
    apply Array.ext'
    simp
  rw [e, Array.getElem?_append_right (by omega), Nat.add_sub_cancel_left]
  simp
/-- What lay answers, and leaves. -/
def LaidOut (q o N : Nat) (a b : Nat → ByteArray) (st : St) (F : Nat → Prop) (w : World) (e : Ending) (w' : World) : Prop :=
  e = .returned (.tuple #[.bool (decide ((puts o (prs N a b) 0 st).1 = 0 ∧ df a b N ≠ [])), .int .i64 (((puts o (prs N a b) 0 st).1 : Nat) : Int)]) ∧ ∃ F', DAt w' q (puts o (prs N a b) 0 st).2 F' ∧ Loc F F' w w'
/-- Between two rounds. -/
def LIn (w : World) (q o N : Nat) (st : St) (F K0 : Nat → Prop) (pre : List (Nat × ByteArray)) (W : World) : Prop :=
  ∃ F', LayIn w q o N st F K0 pre W F' (.bool false) (.int .i64 0) (.bool (!pre.isEmpty)) ∧ (pw o pre st).1 = 0
/-- Where a round has left. -/
def LOut (w : World) (q o N : Nat) (st : St) (F K0 : Nat → Prop) (c : Code) (pre : List (Nat × ByteArray)) (W : World) : Prop :=
  c = .ret ∧ (pw o pre st).1 ≠ 0 ∧ ∃ F' vW, LayIn w q o N st F K0 pre W F' (.bool false) (.int .i64 (((pw o pre st).1 : Nat) : Int)) vW
theorem LIn.own {w : World} {q o N : Nat} {st : St} {F K0 : Nat → Prop} {B : Nat} (hK0 : ∀ k, K0 k → k < w.heap.size) (hB : w.heap.size + 7 ≤ B) : OwnFrom B (LIn w q o N st F K0) := fun pre W W' row h hg hr => by
  obtain ⟨F', h1, h2⟩ := h
  exact ⟨F', h1.grown hK0 hg (fun r e => ⟨Nat.le_trans hB (hr r e).1, (hr r e).2⟩), h2⟩
theorem LOut.own {w : World} {q o N : Nat} {st : St} {F K0 : Nat → Prop} {B : Nat} (hK0 : ∀ k, K0 k → k < w.heap.size) (hB : w.heap.size + 7 ≤ B) (c : Code) : OwnFrom B (LOut w q o N st F K0 c) := fun pre W W' row h hg hr => by
  obtain ⟨h1, h2, F', vW, h3⟩ := h
  exact ⟨h1, h2, F', vW, h3.grown hK0 hg (fun r e => ⟨Nat.le_trans hB (hr r e).1, (hr r e).2⟩)⟩
theorem kp_put {W : World} {n l : Nat} {K0 : Nat → Prop} {ob' : Obj} (hK0 : ∀ k, K0 k → k < n) (hl : n + 7 ≤ l) : W.heap.size ≤ (W.putObj l ob').heap.size ∧ Kpt (KL n K0) W (W.putObj l ob') :=
  ⟨by simp, fun k hk => World.putObj_heap_other (fun e => by have := KL.lt hK0 k hk; omega)⟩
theorem lay_start (q o N : Nat) (st : St) (F K0 : Nat → Prop) (w : World) (hD : DAt w q st F) (hK0 : ∀ k, K0 k → k < w.heap.size ∧ ¬ F k) (vw vn : Value) (W0 : World)
    (hW0 : (((((((w.alloc (.cells #[.pointer (some ⟨q, 0, none⟩), .int .i64 (o : Int), .int .i64 (N : Int)] 87)).alloc (.cells #[.bool false] 4)).alloc (.cells #[.int .i64 0] 26)).alloc (.cells #[.bool false] 4)).alloc (.cells #[.pointer (some ⟨q, 0, none⟩), .int .i64 (o : Int), .int .i64 (N : Int)] 87)).alloc (.cells #[vw] 91)).alloc (.cells #[vn] 91)) = W0) :
    LIn w q o N st F K0 [] W0 ∧ W0.heap.size = w.heap.size + 7 ∧ W0.cell? ⟨w.heap.size + 1 + 1 + 1 + 1, 2, none⟩ = some (.int .i64 (N : Int)) ∧ W0.cell? ⟨w.heap.size + 1 + 1 + 1 + 1 + 1 + 1, 0, none⟩ = some vn ∧ W0.cell? ⟨w.heap.size + 1 + 1 + 1 + 1 + 1, 0, none⟩ = some vw ∧ (∀ k, K0 k → W0.heap[k]? = w.heap[k]?) := by
  have hsz : W0.heap.size = w.heap.size + 7 := by rw [← hW0]; simp
  have hb : Below w.heap.size w W0 := by
    rw [← hW0]
    exact (((((((Below.refl _ w).alloc (Nat.le_refl _) _).alloc (by simp) _).alloc (by simp; omega) _).alloc (by simp; omega) _).alloc (by simp; omega) _).alloc (by simp; omega) _).alloc (by simp; omega) _
  have g : ∀ (j : Nat), W0.heap[w.heap.size + j]? = [Obj.cells #[.pointer (some ⟨q, 0, none⟩), .int .i64 (o : Int), .int .i64 (N : Int)] 87 (0, 0), .cells #[.bool false] 4 (0, 0), .cells #[.int .i64 0] 26 (0, 0), .cells #[.bool false] 4 (0, 0), .cells #[.pointer (some ⟨q, 0, none⟩), .int .i64 (o : Int), .int .i64 (N : Int)] 87 (0, 0), .cells #[vw] 91 (0, 0), .cells #[vn] 91 (0, 0)][j]? := fun j => by
    rw [← hW0]
    exact heap7 w _ _ _ _ _ _ _ j
  have g4 : W0.heap[w.heap.size + 1 + 1 + 1 + 1]? = some (.cells #[.pointer (some ⟨q, 0, none⟩), .int .i64 (o : Int), .int .i64 (N : Int)] 87 (0, 0)) := g 4
  have g5 : W0.heap[w.heap.size + 1 + 1 + 1 + 1 + 1]? = some (.cells #[vw] 91 (0, 0)) := g 5
  have g6 : W0.heap[w.heap.size + 1 + 1 + 1 + 1 + 1 + 1]? = some (.cells #[vn] 91 (0, 0)) := g 6
  refine ⟨⟨F, ⟨by omega, con.below hD hb, Loc.of_below F hb, fun k hk => Or.inl hk, fun k hk => hb.block k (hK0 k hk).1, g 0, g 1, g 2, g 3⟩, rfl⟩, hsz, by simp [World.cell?, g4], by simp [World.cell?, g6], by simp [World.cell?, g5], fun k hk => hb.block k (hK0 k hk).1⟩
theorem LayIn.state {w : World} {q o N : Nat} {st : St} {F K0 : Nat → Prop} {pre : List (Nat × ByteArray)} {W : World} {F' : Nat → Prop} {vB vE vW : Value} (_h : LayIn w q o N st F K0 pre W F' vB vE vW) (hok : st.Ok) (hlo : st.loose.length + N ≤ 10000) (hp : pre.length ≤ N) : (pw o pre st).2.Ok ∧ (pw o pre st).2.loose.length ≤ 10000 :=
  ⟨pw_ok o pre st hok, by have := pw_loose o pre st; omega⟩
theorem LayIn.c0 {w : World} {q o N : Nat} {st : St} {F K0 : Nat → Prop} {pre : List (Nat × ByteArray)} {W : World} {F' : Nat → Prop} {vB vE vW : Value} (h : LayIn w q o N st F K0 pre W F' vB vE vW) : W.cell? ⟨w.heap.size, 0, none⟩ = some (.pointer (some ⟨q, 0, none⟩)) := by simp [World.cell?, h.area]
theorem LayIn.c1 {w : World} {q o N : Nat} {st : St} {F K0 : Nat → Prop} {pre : List (Nat × ByteArray)} {W : World} {F' : Nat → Prop} {vB vE vW : Value} (h : LayIn w q o N st F K0 pre W F' vB vE vW) : W.cell? ⟨w.heap.size, 1, none⟩ = some (.int .i64 (o : Int)) := by simp [World.cell?, h.area]
/-- A round goes on. -/
theorem lay_go {w : World} {q o N B : Nat} {st : St} {F K0 : Nat → Prop} {pre : List (Nat × ByteArray)} {x : Nat × ByteArray} {W W1 : World} {F' F2 : Nat → Prop} {vW : Value} (hi : LayIn w q o N st F K0 pre W F' (.bool false) (.int .i64 0) vW) (h1 : LayIn w q o N st F K0 (pre ++ [x]) W1 F2 (.bool false) (.int .i64 0) vW) (hl : Loc F' F2 W W1) (hF : ∀ k, F k → k < w.heap.size) (hK0 : ∀ k, K0 k → k < w.heap.size ∧ ¬ F k) (h0 : (pw o pre st).1 = 0)
    (he : ((pw o pre st).2.write (wrap64 ((o : Int) + (x.1 : Int))) x.2).1 = 0) :
    KeepsFrom B W (W1.setCell ⟨w.heap.size + 1 + 1 + 1, 0, none⟩ (.bool true)) ∧ (W.heap.size ≤ (W1.setCell ⟨w.heap.size + 1 + 1 + 1, 0, none⟩ (.bool true)).heap.size ∧ Kpt (KL w.heap.size K0) W (W1.setCell ⟨w.heap.size + 1 + 1 + 1, 0, none⟩ (.bool true))) ∧ LIn w q o N st F K0 (pre ++ [x]) (W1.setCell ⟨w.heap.size + 1 + 1 + 1, 0, none⟩ (.bool true)) := by
  have hK1 : ∀ k, K0 k → k < w.heap.size := fun k hk => (hK0 k hk).1
  refine ⟨(hl.keeps hi.disk B).trans ((KeepsOthers.setCell _ _ _).from _), ⟨by have := hl.size; simpa [World.setCell] using this, (hi.kpt hF hK0 hl).trans (kpt_set hK1 _)⟩, ⟨F2, ?_, ?_⟩⟩
  · have e : (!(pre ++ [x]).isEmpty) = true := by cases pre <;> rfl
    rw [e]
    exact h1.setW hF hK1 (.bool true)
  · rw [pw_snoc h0]; exact he
/-- A round leaves. -/
theorem lay_no {w : World} {q o N B en : Nat} {st : St} {F K0 : Nat → Prop} {pre : List (Nat × ByteArray)} {x : Nat × ByteArray} {W W1 : World} {F' F2 : Nat → Prop} {vW : Value} (hi : LayIn w q o N st F K0 pre W F' (.bool false) (.int .i64 0) vW) (h1 : LayIn w q o N st F K0 (pre ++ [x]) W1 F2 (.bool false) (.int .i64 0) vW) (hl : Loc F' F2 W W1) (hF : ∀ k, F k → k < w.heap.size) (hK1 : ∀ k, K0 k → k < w.heap.size) (h0 : (pw o pre st).1 = 0)
    (he : ¬ ((pw o pre st).2.write (wrap64 ((o : Int) + (x.1 : Int))) x.2).1 = 0) (hen : ((pw o pre st).2.write (wrap64 ((o : Int) + (x.1 : Int))) x.2).1 = en) :
    KeepsFrom B W ((W1.setCell ⟨w.heap.size + 1, 0, none⟩ (.bool false)).setCell ⟨w.heap.size + 1 + 1, 0, none⟩ (.int .i64 (en : Int))) ∧ LOut w q o N st F K0 .ret (pre ++ [x]) ((W1.setCell ⟨w.heap.size + 1, 0, none⟩ (.bool false)).setCell ⟨w.heap.size + 1 + 1, 0, none⟩ (.int .i64 (en : Int))) := by
  refine ⟨((hl.keeps hi.disk B).trans ((KeepsOthers.setCell _ _ _).from _)).trans ((KeepsOthers.setCell _ _ _).from _), rfl, ?_, F2, vW, ?_⟩
  · rw [pw_snoc h0]; exact he
  · rw [pw_snoc h0, hen]
    exact (h1.setB hF hK1 (.bool false)).setE hF hK1 _
theorem lay_done {w : World} {q o N D : Nat} {st : St} {F K0 : Nat → Prop} (a b : Nat → ByteArray) {W : World} {F' : Nat → Prop} {vW : Value} (ho : o ≤ 4096) (hN : N ≤ 4096) (hi : LayIn w q o N st F K0 (df a b N) W F' (.bool false) (.int .i64 0) vW) (hF : ∀ k, F k → k < w.heap.size) (hK1 : ∀ k, K0 k → k < w.heap.size) (h0 : (pw o (df a b N) st).1 = 0) (hK : W.heap[D]? = some (.deferred (some []))) (hD : w.heap.size + 7 ≤ D) :
    ((W.setCell ⟨w.heap.size + 1, 0, none⟩ (.bool (!(df a b N).isEmpty))).setCell ⟨w.heap.size + 1 + 1, 0, none⟩ (.int .i64 0)).heap[D]? = some (.deferred (some [])) ∧
    (((W.setCell ⟨w.heap.size + 1, 0, none⟩ (.bool (!(df a b N).isEmpty))).setCell ⟨w.heap.size + 1 + 1, 0, none⟩ (.int .i64 0)).putObj D (.deferred none)).cell? ⟨w.heap.size + 1, 0, none⟩ = some (.bool (!(df a b N).isEmpty)) ∧
    (((W.setCell ⟨w.heap.size + 1, 0, none⟩ (.bool (!(df a b N).isEmpty))).setCell ⟨w.heap.size + 1 + 1, 0, none⟩ (.int .i64 0)).putObj D (.deferred none)).cell? ⟨w.heap.size + 1 + 1, 0, none⟩ = some (.int .i64 0) ∧
    LaidOut q o N a b st F w (.returned (.tuple #[.bool (!(df a b N).isEmpty), .int .i64 0])) (((W.setCell ⟨w.heap.size + 1, 0, none⟩ (.bool (!(df a b N).isEmpty))).setCell ⟨w.heap.size + 1 + 1, 0, none⟩ (.int .i64 0)).putObj D (.deferred none)) := by
  have hX := (hi.setB hF hK1 (.bool (!(df a b N).isEmpty))).setE hF hK1 (.int .i64 0)
  have hKX : ((W.setCell ⟨w.heap.size + 1, 0, none⟩ (.bool (!(df a b N).isEmpty))).setCell ⟨w.heap.size + 1 + 1, 0, none⟩ (.int .i64 0)).heap[D]? = some (.deferred (some [])) := by
    rw [Below.heap_setCell _ _ _ D (by show D ≠ w.heap.size + 1 + 1; omega), Below.heap_setCell _ _ _ D (by show D ≠ w.heap.size + 1; omega)]; exact hK
  generalize ((W.setCell ⟨w.heap.size + 1, 0, none⟩ (.bool (!(df a b N).isEmpty))).setCell ⟨w.heap.size + 1 + 1, 0, none⟩ (.int .i64 0)) = X at *
  have hY := hX.grown hK1 (grownBy_putObj' X D (.deferred none)) (fun r e => by cases e; exact ⟨hD, _, hKX, rfl⟩)
  have hp := puts_pw o (prs N a b) 0 st (by rw [prs_length]; omega)
  refine ⟨hKX, hY.b.cell, hY.e.cell, ?_, F', ?_, hY.loc⟩
  · rw [hp]
    have e0 : (pw o (wl 0 (prs N a b) 0) st).1 = 0 := h0
    rw [e0]
    congr 4
    cases hdf : df a b N with
    | nil => simp
    | cons y l => simp
  · rw [hp]; exact hY.disk
theorem lay_stop {w : World} {q o N D : Nat} {st : St} {F K0 : Nat → Prop} {pre : List (Nat × ByteArray)} (a b : Nat → ByteArray) {W : World} {F' : Nat → Prop} {vW : Value} (ho : o ≤ 4096) (hN : N ≤ 4096) (hi : LayIn w q o N st F K0 pre W F' (.bool false) (.int .i64 (((pw o pre st).1 : Nat) : Int)) vW) (hK1 : ∀ k, K0 k → k < w.heap.size) (h0 : (pw o pre st).1 ≠ 0) (hpre : pre <+: df a b N) (hK : W.heap[D]? = some (.deferred (some []))) (hD : w.heap.size + 7 ≤ D) :
    W.heap[D]? = some (.deferred (some [])) ∧ (W.putObj D (.deferred none)).cell? ⟨w.heap.size + 1, 0, none⟩ = some (.bool false) ∧ (W.putObj D (.deferred none)).cell? ⟨w.heap.size + 1 + 1, 0, none⟩ = some (.int .i64 (((pw o pre st).1 : Nat) : Int)) ∧
    LaidOut q o N a b st F w (.returned (.tuple #[.bool false, .int .i64 (((pw o pre st).1 : Nat) : Int)])) (W.putObj D (.deferred none)) := by
  have hY := hi.grown hK1 (grownBy_putObj' W D (.deferred none)) (fun r e => by cases e; exact ⟨hD, _, hK, rfl⟩)
  have hp := puts_pw o (prs N a b) 0 st (by rw [prs_length]; omega)
  obtain ⟨rest, hrest⟩ := hpre
  have hdf : wl 0 (prs N a b) 0 = pre ++ rest := hrest.symm
  rw [hdf, pw_err h0] at hp
  refine ⟨hK, hY.b.cell, hY.e.cell, ?_, F', ?_, hY.loc⟩
  · rw [hp]
    congr 4
    simp [h0]
  · rw [hp]; exact hY.disk
end Go.Proofs.Ytelkccfjeinlcaa
