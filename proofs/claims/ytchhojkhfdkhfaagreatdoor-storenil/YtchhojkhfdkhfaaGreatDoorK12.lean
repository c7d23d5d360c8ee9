/- Package wal's lay: what the three walks share. Package wal's lay, over the closures 84 and 72. The iterator of package wal, over the closures 185 and 66. Package wal's lay, over the closures 185 and 66. Package wal's laySure. Blocks up to the last of a stream, plain. -/
import Derived.Test.YtchhojkhfdkhfaaGreatDoorK11
import Derived.Test.YtchhojkhfdkhfaaGreatDoorK01
namespace Go.Proofs.YtchhojkhfdkhfaaGreatDoor
open Go Go.RowKit Frm Go.Shelf
theorem heap7 (w : World) (o0 o1 o2 o3 o4 o5 o6 : Obj) (j : Nat) : (((((((w.alloc o0).alloc o1).alloc o2).alloc o3).alloc o4).alloc o5).alloc o6).heap[w.heap.size + j]? = [o0, o1, o2, o3, o4, o5, o6][j]? := by
  have e : (((((((w.alloc o0).alloc o1).alloc o2).alloc o3).alloc o4).alloc o5).alloc o6).heap = w.heap ++ #[o0, o1, o2, o3, o4, o5, o6] := by
    show ((((((w.heap.push o0).push o1).push o2).push o3).push o4).push o5).push o6 = _
    apply Array.ext'
    simp
  rw [e, Array.getElem?_append_right (by omega), Nat.add_sub_cancel_left]
  simp
/-- What lay answers, and leaves. -/
def LaidOut (q o N : Nat) (a b : Nat → ByteArray) (st : St) (F : Nat → Prop) (w : World) (e : Ending) (w' : World) : Prop :=
  e = .returned (.tuple #[.bool (decide ((puts o (prs N a b) 0 st).1 = 0 ∧ df a b N ≠ [])), .int .i64 (((puts o (prs N a b) 0 st).1 : Nat) : Int)]) ∧ ∃ F', DAt w' q (puts o (prs N a b) 0 st).2 F' ∧ Loc F F' w w'
/-- Between two rounds. -/
def LIn (w : World) (q o N : Nat) (st : St) (F K0 : Nat → Prop) (pre : List (Nat × ByteArray)) (W : World) : Prop :=
  ∃ F', LayIn w q o N st F K0 pre W F' (.bool false) (.int .i64 0) (.bool (!pre.isEmpty)) ∧ (pw o pre st).1 = 0
/-- Where a round has left. -/
def LOut (w : World) (q o N : Nat) (st : St) (F K0 : Nat → Prop) (c : Code) (pre : List (Nat × ByteArray)) (W : World) : Prop :=
  c = .ret ∧ (pw o pre st).1 ≠ 0 ∧ ∃ F' vW, LayIn w q o N st F K0 pre W F' (.bool false) (.int .i64 (((pw o pre st).1 : Nat) : Int)) vW
theorem LIn.own {w : World} {q o N : Nat} {st : St} {F K0 : Nat → Prop} {B : Nat} (hK0 : ∀ k, K0 k → k < w.heap.size) (hB : w.heap.size + 7 ≤ B) : OwnFrom B (LIn w q o N st F K0) := fun pre W W' row h hg hr => by
  obtain ⟨F', h1, h2⟩ := h
  exact ⟨F', h1.grown hK0 hg (fun r e => ⟨Nat.le_trans hB (hr r e).1, (hr r e).2⟩), h2⟩
theorem LOut.own {w : World} {q o N : Nat} {st : St} {F K0 : Nat → Prop} {B : Nat} (hK0 : ∀ k, K0 k → k < w.heap.size) (hB : w.heap.size + 7 ≤ B) (c : Code) : OwnFrom B (LOut w q o N st F K0 c) := fun pre W W' row h hg hr => by
  obtain ⟨h1, h2, F', vW, h3⟩ := h
  exact ⟨h1, h2, F', vW, h3.grown hK0 hg (fun r e => ⟨Nat.le_trans hB (hr r e).1, (hr r e).2⟩)⟩
theorem kp_put {W : World} {n l : Nat} {K0 : Nat → Prop} {ob' : Obj} (hK0 : ∀ k, K0 k → k < n) (hl : n + 7 ≤ l) : W.heap.size ≤ (W.putObj l ob').heap.size ∧ Kpt (KL n K0) W (W.putObj l ob') :=
  ⟨by simp, fun k hk => World.putObj_heap_other (fun e => by have := KL.lt hK0 k hk; omega)⟩
theorem lay_start (q o N : Nat) (st : St) (F K0 : Nat → Prop) (w : World) (hD : DAt w q st F) (hK0 : ∀ k, K0 k → k < w.heap.size ∧ ¬ F k) (vw vn : Value) (W0 : World)
    (hW0 : (((((((w.alloc (.cells #[.pointer (some ⟨q, 0, none⟩), .int .i64 (o : Int), .int .i64 (N : Int)] 163)).alloc (.cells #[.bool false] 4)).alloc (.cells #[.int .i64 0] 29)).alloc (.cells #[.bool false] 4)).alloc (.cells #[.pointer (some ⟨q, 0, none⟩), .int .i64 (o : Int), .int .i64 (N : Int)] 163)).alloc (.cells #[vw] 165)).alloc (.cells #[vn] 165)) = W0) :
    LIn w q o N st F K0 [] W0 ∧ W0.heap.size = w.heap.size + 7 ∧ W0.cell? ⟨w.heap.size + 1 + 1 + 1 + 1, 2, none⟩ = some (.int .i64 (N : Int)) ∧ W0.cell? ⟨w.heap.size + 1 + 1 + 1 + 1 + 1 + 1, 0, none⟩ = some vn ∧ W0.cell? ⟨w.heap.size + 1 + 1 + 1 + 1 + 1, 0, none⟩ = some vw ∧ (∀ k, K0 k → W0.heap[k]? = w.heap[k]?) := by
  have hsz : W0.heap.size = w.heap.size + 7 := by rw [← hW0]; simp
  have hb : Below w.heap.size w W0 := by
    rw [← hW0]
    exact (((((((Below.refl _ w).alloc (Nat.le_refl _) _).alloc (by simp) _).alloc (by simp; omega) _).alloc (by simp; omega) _).alloc (by simp; omega) _).alloc (by simp; omega) _).alloc (by simp; omega) _
  have g : ∀ (j : Nat), W0.heap[w.heap.size + j]? = [Obj.cells #[.pointer (some ⟨q, 0, none⟩), .int .i64 (o : Int), .int .i64 (N : Int)] 163 (0, 0), .cells #[.bool false] 4 (0, 0), .cells #[.int .i64 0] 29 (0, 0), .cells #[.bool false] 4 (0, 0), .cells #[.pointer (some ⟨q, 0, none⟩), .int .i64 (o : Int), .int .i64 (N : Int)] 163 (0, 0), .cells #[vw] 165 (0, 0), .cells #[vn] 165 (0, 0)][j]? := fun j => by
    rw [← hW0]
    exact heap7 w _ _ _ _ _ _ _ j
  have g4 : W0.heap[w.heap.size + 1 + 1 + 1 + 1]? = some (.cells #[.pointer (some ⟨q, 0, none⟩), .int .i64 (o : Int), .int .i64 (N : Int)] 163 (0, 0)) := g 4
  have g5 : W0.heap[w.heap.size + 1 + 1 + 1 + 1 + 1]? = some (.cells #[vw] 165 (0, 0)) := g 5
  have g6 : W0.heap[w.heap.size + 1 + 1 + 1 + 1 + 1 + 1]? = some (.cells #[vn] 165 (0, 0)) := g 6
  refine ⟨⟨F, ⟨by omega, con.below hD hb, Loc.of_below F hb, fun k hk => Or.inl hk, fun k hk => hb.block k (hK0 k hk).1, g 0, g 1, g 2, g 3⟩, rfl⟩, hsz, by simp [World.cell?, g4], by simp [World.cell?, g6], by simp [World.cell?, g5], fun k hk => hb.block k (hK0 k hk).1⟩
theorem LayIn.state {w : World} {q o N : Nat} {st : St} {F K0 : Nat → Prop} {pre : List (Nat × ByteArray)} {W : World} {F' : Nat → Prop} {vB vE vW : Value} (_h : LayIn w q o N st F K0 pre W F' vB vE vW) (hok : st.Ok) (hlo : st.loose.length + N ≤ 10000) (hp : pre.length ≤ N) : (pw o pre st).2.Ok ∧ (pw o pre st).2.loose.length ≤ 10000 :=
  ⟨pw_ok o pre st hok, by have := pw_loose o pre st; omega⟩
theorem LayIn.c0 {w : World} {q o N : Nat} {st : St} {F K0 : Nat → Prop} {pre : List (Nat × ByteArray)} {W : World} {F' : Nat → Prop} {vB vE vW : Value} (h : LayIn w q o N st F K0 pre W F' vB vE vW) : W.cell? ⟨w.heap.size, 0, none⟩ = some (.pointer (some ⟨q, 0, none⟩)) := by simp [World.cell?, h.area]
theorem LayIn.c1 {w : World} {q o N : Nat} {st : St} {F K0 : Nat → Prop} {pre : List (Nat × ByteArray)} {W : World} {F' : Nat → Prop} {vB vE vW : Value} (h : LayIn w q o N st F K0 pre W F' vB vE vW) : W.cell? ⟨w.heap.size, 1, none⟩ = some (.int .i64 (o : Int)) := by simp [World.cell?, h.area]
/-- A round goes on. -/
theorem lay_go {w : World} {q o N B : Nat} {st : St} {F K0 : Nat → Prop} {pre : List (Nat × ByteArray)} {x : Nat × ByteArray} {W W1 : World} {F' F2 : Nat → Prop} {vW : Value} (hi : LayIn w q o N st F K0 pre W F' (.bool false) (.int .i64 0) vW) (h1 : LayIn w q o N st F K0 (pre ++ [x]) W1 F2 (.bool false) (.int .i64 0) vW) (hl : Loc F' F2 W W1) (hF : ∀ k, F k → k < w.heap.size) (hK0 : ∀ k, K0 k → k < w.heap.size ∧ ¬ F k) (h0 : (pw o pre st).1 = 0)
    (he : ((pw o pre st).2.write (wrap64 ((o : Int) + (x.1 : Int))) x.2).1 = 0) :
    KeepsFrom B W (W1.setCell ⟨w.heap.size + 1 + 1 + 1, 0, none⟩ (.bool true)) ∧ (W.heap.size ≤ (W1.setCell ⟨w.heap.size + 1 + 1 + 1, 0, none⟩ (.bool true)).heap.size ∧ Kpt (KL w.heap.size K0) W (W1.setCell ⟨w.heap.size + 1 + 1 + 1, 0, none⟩ (.bool true))) ∧ LIn w q o N st F K0 (pre ++ [x]) (W1.setCell ⟨w.heap.size + 1 + 1 + 1, 0, none⟩ (.bool true)) := by
  have hK1 : ∀ k, K0 k → k < w.heap.size := fun k hk => (hK0 k hk).1
  refine ⟨(hl.keeps hi.disk B).trans ((KeepsOthers.setCell _ _ _).from _), ⟨by have := hl.size; simpa [World.setCell] using this, (hi.kpt hF hK0 hl).trans (kpt_set hK1 _)⟩, ⟨F2, ?_, ?_⟩⟩
  · have e : (!(pre ++ [x]).isEmpty) = true := by cases pre <;> rfl
    rw [e]
    exact h1.setW hF hK1 (.bool true)
  · rw [pw_snoc h0]; exact he
/-- A round leaves. -/
theorem lay_no {w : World} {q o N B en : Nat} {st : St} {F K0 : Nat → Prop} {pre : List (Nat × ByteArray)} {x : Nat × ByteArray} {W W1 : World} {F' F2 : Nat → Prop} {vW : Value} (hi : LayIn w q o N st F K0 pre W F' (.bool false) (.int .i64 0) vW) (h1 : LayIn w q o N st F K0 (pre ++ [x]) W1 F2 (.bool false) (.int .i64 0) vW) (hl : Loc F' F2 W W1) (hF : ∀ k, F k → k < w.heap.size) (hK1 : ∀ k, K0 k → k < w.heap.size) (h0 : (pw o pre st).1 = 0)
    (he : ¬ ((pw o pre st).2.write (wrap64 ((o : Int) + (x.1 : Int))) x.2).1 = 0) (hen : ((pw o pre st).2.write (wrap64 ((o : Int) + (x.1 : Int))) x.2).1 = en) :
    KeepsFrom B W ((W1.setCell ⟨w.heap.size + 1, 0, none⟩ (.bool false)).setCell ⟨w.heap.size + 1 + 1, 0, none⟩ (.int .i64 (en : Int))) ∧ LOut w q o N st F K0 .ret (pre ++ [x]) ((W1.setCell ⟨w.heap.size + 1, 0, none⟩ (.bool false)).setCell ⟨w.heap.size + 1 + 1, 0, none⟩ (.int .i64 (en : Int))) := by
  refine ⟨((hl.keeps hi.disk B).trans ((KeepsOthers.setCell _ _ _).from _)).trans ((KeepsOthers.setCell _ _ _).from _), rfl, ?_, F2, vW, ?_⟩
  · rw [pw_snoc h0]; exact he
  · rw [pw_snoc h0, hen]
    exact (h1.setB hF hK1 (.bool false)).setE hF hK1 _
theorem lay_done {w : World} {q o N D : Nat} {st : St} {F K0 : Nat → Prop} (a b : Nat → ByteArray) {W : World} {F' : Nat → Prop} {vW : Value} (ho : o ≤ 4096) (hN : N ≤ 4096) (hi : LayIn w q o N st F K0 (df a b N) W F' (.bool false) (.int .i64 0) vW) (hF : ∀ k, F k → k < w.heap.size) (hK1 : ∀ k, K0 k → k < w.heap.size) (h0 : (pw o (df a b N) st).1 = 0) (hK : W.heap[D]? = some (.deferred (some []))) (hD : w.heap.size + 7 ≤ D) :
    ((W.setCell ⟨w.heap.size + 1, 0, none⟩ (.bool (!(df a b N).isEmpty))).setCell ⟨w.heap.size + 1 + 1, 0, none⟩ (.int .i64 0)).heap[D]? = some (.deferred (some [])) ∧
    (((W.setCell ⟨w.heap.size + 1, 0, none⟩ (.bool (!(df a b N).isEmpty))).setCell ⟨w.heap.size + 1 + 1, 0, none⟩ (.int .i64 0)).putObj D (.deferred none)).cell? ⟨w.heap.size + 1, 0, none⟩ = some (.bool (!(df a b N).isEmpty)) ∧
    (((W.setCell ⟨w.heap.size + 1, 0, none⟩ (.bool (!(df a b N).isEmpty))).setCell ⟨w.heap.size + 1 + 1, 0, none⟩ (.int .i64 0)).putObj D (.deferred none)).cell? ⟨w.heap.size + 1 + 1, 0, none⟩ = some (.int .i64 0) ∧
    LaidOut q o N a b st F w (.returned (.tuple #[.bool (!(df a b N).isEmpty), .int .i64 0])) (((W.setCell ⟨w.heap.size + 1, 0, none⟩ (.bool (!(df a b N).isEmpty))).setCell ⟨w.heap.size + 1 + 1, 0, none⟩ (.int .i64 0)).putObj D (.deferred none)) := by
  have hX := (hi.setB hF hK1 (.bool (!(df a b N).isEmpty))).setE hF hK1 (.int .i64 0)
  have hKX : ((W.setCell ⟨w.heap.size + 1, 0, none⟩ (.bool (!(df a b N).isEmpty))).setCell ⟨w.heap.size + 1 + 1, 0, none⟩ (.int .i64 0)).heap[D]? = some (.deferred (some [])) := by
    rw [Below.heap_setCell _ _ _ D (by show D ≠ w.heap.size + 1 + 1; omega), Below.heap_setCell _ _ _ D (by show D ≠ w.heap.size + 1; omega)]; exact hK
  generalize ((W.setCell ⟨w.heap.size + 1, 0, none⟩ (.bool (!(df a b N).isEmpty))).setCell ⟨w.heap.size + 1 + 1, 0, none⟩ (.int .i64 0)) = X at *
  have hY := hX.grown hK1 (grownBy_putObj' X D (.deferred none)) (fun r e => by cases e; exact ⟨hD, _, hKX, rfl⟩)
  have hp := puts_pw o (prs N a b) 0 st (by rw [prs_length]; omega)
  refine ⟨hKX, hY.b.cell, hY.e.cell, ?_, F', ?_, hY.loc⟩
  · rw [hp]
    have e0 : (pw o (wl 0 (prs N a b) 0) st).1 = 0 := h0
    rw [e0]
    congr 4
    cases hdf : df a b N with
    | nil => simp
    | cons y l => simp
  · rw [hp]; exact hY.disk
theorem lay_stop {w : World} {q o N D : Nat} {st : St} {F K0 : Nat → Prop} {pre : List (Nat × ByteArray)} (a b : Nat → ByteArray) {W : World} {F' : Nat → Prop} {vW : Value} (ho : o ≤ 4096) (hN : N ≤ 4096) (hi : LayIn w q o N st F K0 pre W F' (.bool false) (.int .i64 (((pw o pre st).1 : Nat) : Int)) vW) (hK1 : ∀ k, K0 k → k < w.heap.size) (h0 : (pw o pre st).1 ≠ 0) (hpre : pre <+: df a b N) (hK : W.heap[D]? = some (.deferred (some []))) (hD : w.heap.size + 7 ≤ D) :
    W.heap[D]? = some (.deferred (some [])) ∧ (W.putObj D (.deferred none)).cell? ⟨w.heap.size + 1, 0, none⟩ = some (.bool false) ∧ (W.putObj D (.deferred none)).cell? ⟨w.heap.size + 1 + 1, 0, none⟩ = some (.int .i64 (((pw o pre st).1 : Nat) : Int)) ∧
    LaidOut q o N a b st F w (.returned (.tuple #[.bool false, .int .i64 (((pw o pre st).1 : Nat) : Int)])) (W.putObj D (.deferred none)) := by
  have hY := hi.grown hK1 (grownBy_putObj' W D (.deferred none)) (fun r e => by cases e; exact ⟨hD, _, hK, rfl⟩)
  have hp := puts_pw o (prs N a b) 0 st (by rw [prs_length]; omega)
  obtain ⟨rest, hrest⟩ := hpre
  have hdf : wl 0 (prs N a b) 0 = pre ++ rest := hrest.symm
  rw [hdf, pw_err h0] at hp
  refine ⟨hK, hY.b.cell, hY.e.cell, ?_, F', ?_, hY.loc⟩
  · rw [hp]
    congr 4
    simp [h0]
  · rw [hp]; exact hY.disk
end Go.Proofs.YtchhojkhfdkhfaaGreatDoor
namespace Go.Proofs.YtchhojkhfdkhfaaGreatDoor
open Go Go.RowKit Frm Go.Shelf
attribute [local go_sem] Oper.semAt_some
set_option maxRecDepth 100000 in
set_option maxHeartbeats 4000000 in
theorem lay_71_72 (q o N pw0 pn0 pn1 : Nat) (a b : Nat → ByteArray) (st : St) (F K0 : Nat → Prop) (w : World) (hD : DAt w q st F) (hok : st.Ok) (hlo : st.loose.length + N ≤ 10000) (hN : N ≤ 4096) (ho : o ≤ 4096) (hK0 : ∀ k, K0 k → k < w.heap.size ∧ ¬ F k)
    (hnow : ∀ u i, Kpt K0 w u → i < N → Calls Tryz.prog 146 #[.int .i64 (i : Int), .pointer (some ⟨pn0, 0, none⟩), .pointer (some ⟨pn1, 0, none⟩)] u fun e u' => e = .returned (.string (b i)) ∧ Below u.heap.size u u')
    (hwas : ∀ u i, Kpt K0 w u → i < N → Calls Tryz.prog 145 #[.int .i64 (i : Int), .pointer (some ⟨pw0, 0, none⟩)] u fun e u' => e = .returned (.string (a i)) ∧ Below u.heap.size u u') :
    Calls Tryz.prog 159 #[.agg #[.pointer (some ⟨q, 0, none⟩), .int .i64 (o : Int), .int .i64 (N : Int)], .func (.func 145) #[] #[.pointer (some ⟨pw0, 0, none⟩)], .func (.func 146) #[] #[.pointer (some ⟨pn0, 0, none⟩), .pointer (some ⟨pn1, 0, none⟩)]] w (LaidOut q o N a b st F w) := by
  have hF : ∀ k, F k → k < w.heap.size := con.lt hD
  have hK1 : ∀ k, K0 k → k < w.heap.size := fun k hk => (hK0 k hk).1
  obtain ⟨W0, hW0⟩ : ∃ W0, (((((((w.alloc (.cells #[.pointer (some ⟨q, 0, none⟩), .int .i64 (o : Int), .int .i64 (N : Int)] 163)).alloc (.cells #[.bool false] 4)).alloc (.cells #[.int .i64 0] 29)).alloc (.cells #[.bool false] 4)).alloc (.cells #[.pointer (some ⟨q, 0, none⟩), .int .i64 (o : Int), .int .i64 (N : Int)] 163)).alloc (.cells #[.func (.func 145) #[] #[.pointer (some ⟨pw0, 0, none⟩)]] 165)).alloc (.cells #[.func (.func 146) #[] #[.pointer (some ⟨pn0, 0, none⟩), .pointer (some ⟨pn1, 0, none⟩)]] 165)) = W0 := ⟨_, rfl⟩
  obtain ⟨hI0, hsz0, hA0, hNow0, hWas0, hkp0⟩ := lay_start q o N st F K0 w hD hK0 (.func (.func 145) #[] #[.pointer (some ⟨pw0, 0, none⟩)]) (.func (.func 146) #[] #[.pointer (some ⟨pn0, 0, none⟩), .pointer (some ⟨pn1, 0, none⟩)]) W0 hW0
  have HIT := hide (diff_71_72 5 (by decide) (w.heap.size + 1 + 1 + 1 + 1) (w.heap.size + 1 + 1 + 1 + 1 + 1 + 1) (w.heap.size + 1 + 1 + 1 + 1 + 1) N pw0 pn0 pn1 (KL w.heap.size K0) a b W0 hN (fun k hk => by rw [hsz0]; exact KL.lt hK1 k hk) (Or.inr (Or.inl rfl)) (Or.inr (Or.inr (Or.inr rfl))) (Or.inr (Or.inr (Or.inl rfl))) hA0 hNow0 hWas0
    (fun u i hu hi => hnow u i (fun k hk => (hu k (Or.inl hk)).trans (hkp0 k hk)) hi) (fun u i hu hi => hwas u i (fun k hk => (hu k (Or.inl hk)).trans (hkp0 k hk)) hi))
  have HNW := hide hnow
  have HI0 := hide hI0
  clear hI0 hnow hwas
  refine (callsIn_wide (n := 6)).1 ?_
  refine callsIn_of_wp_marks Tryz.func159 rfl trivial ?_ rfl
  simp only [Tryz.ntmps159, List.size_toArray, List.length_cons, List.length_nil, Nat.reduceAdd, Nat.reduceSub, Array.replicate_succ, Array.replicate_zero, List.push_toArray, List.append_toArray, List.nil_append, List.cons_append]
  gi_wp2_with (refine ⟨trivial, ?_⟩; gi_at_call 166; refine (differing_in _ q (o : Int) (N : Int) 145 146 _ _ _).mono ?_; rintro e w' ⟨rfl, rfl⟩)

  clear hW0 hA0 hNow0 hWas0 hkp0
  refine wpIn_rangeFunc_ownH rfl (by decide) (gf := 172) (lb := #[.pointer (some ⟨w.heap.size + 1 + 1 + 1 + 1, 0, none⟩), .pointer (some ⟨w.heap.size + 1 + 1 + 1 + 1 + 1 + 1, 0, none⟩), .pointer (some ⟨w.heap.size + 1 + 1 + 1 + 1 + 1, 0, none⟩)]) rfl trivial (enters_of Tryz.func172 (by kernel_rfl) rfl)
    HIT.out (fun h k => ⟨Nat.le_trans h.1 k.1, h.2.trans k.2⟩) (fun W l ob ob' hl hh _ _ => kp_put hK1 (by rw [← hsz0]; exact hl)) (Below.refl _ _) (fun _ => rfl)
    (LIn w q o N st F K0) (LOut w q o N st F K0) (LIn.own hK1 (by rw [hsz0]; exact Nat.le_refl _)) (LOut.own hK1 (by rw [hsz0]; exact Nat.le_refl _))
    HI0.out
    (fun x a' _ => a' = { tmps := #[.agg #[.pointer (some ⟨q, 0, none⟩), .int .i64 (o : Int), .int .i64 (N : Int)], .func (.func 145) #[] #[.pointer (some ⟨pw0, 0, none⟩)], .func (.func 146) #[] #[.pointer (some ⟨pn0, 0, none⟩), .pointer (some ⟨pn1, 0, none⟩)], .pointer (some ⟨w.heap.size, 0, none⟩), undef, undef, .pointer (some ⟨w.heap.size + 1, 0, none⟩), .pointer (some ⟨w.heap.size + 1 + 1, 0, none⟩), .pointer (some ⟨w.heap.size + 1 + 1 + 1, 0, none⟩), .int .i64 (x.1 : Int), .string x.2, undef, .agg #[.pointer (some ⟨q, 0, none⟩), .int .i64 (o : Int), .int .i64 (N : Int)], .func (.func 145) #[] #[.pointer (some ⟨pw0, 0, none⟩)], .func (.func 146) #[] #[.pointer (some ⟨pn0, 0, none⟩), .pointer (some ⟨pn1, 0, none⟩)], .func (.func 172) #[] #[.pointer (some ⟨w.heap.size + 1 + 1 + 1 + 1, 0, none⟩), .pointer (some ⟨w.heap.size + 1 + 1 + 1 + 1 + 1 + 1, 0, none⟩), .pointer (some ⟨w.heap.size + 1 + 1 + 1 + 1 + 1, 0, none⟩)], .int .i64 (x.1 : Int), .string x.2, undef, undef, undef, undef, undef, undef, undef, undef, undef, undef, undef, undef], defers := [] }) (fun x a' _ X Y row hs hg hr => hs)
    ?assign ?body ?done ?stop
  case assign =>
    rintro l pre x W K hi hK
    dsimp only [encD]
    have HK := hide hK
    have HI := hide hi
    clear hK hi
    gi_wp2
    exact HK.out _ _ (KeepsFrom.refl _ _) ⟨Nat.le_refl _, fun _ _ => rfl⟩ HI.out rfl
  case body =>
    rintro l pre x a' W hl ⟨r, hr⟩ ⟨F', hi, h0⟩ rfl hlt
    have hst := LayIn.state hi hok hlo (Nat.le_trans (Nat.le_of_lt hlt) (df_length a b N))
    have hc0 := hi.c0
    have hc1 := hi.c1
    have KW := hide (write_any q _ F' (wrap64 ((o : Int) + (x.1 : Int))) x.2 W hi.disk hst.1 hst.2)
    have HI := hide hi
    have H0 := hide h0
    have HKK := hide hK0
    have HFF := hide hF
    have HK1 := hide hK1
    clear hi h0 hst hK0 hF hK1
    by_cases he : ((pw o pre st).2.write (wrap64 ((o : Int) + (x.1 : Int))) x.2).1 = 0
    · rw [he] at KW
      have HE := hide he
      clear he
      gi_wp2_with (fail)
      refine ⟨trivial, CallsIn.mono (F := Fence.wide) (callsIn_wide.2 KW.out) ?_⟩
      rintro e W1 ⟨rfl, F2, hd, hloc⟩
      have h1 := HI.out.write HFF.out HKK.out H0.out hd hloc
      have hfw := h1.w.frozen
      have hcw := h1.w.cell
      have H1 := hide h1
      have HL := hide hloc
      clear h1 hd hloc
      gi_wp2
      exact lay_go HI.out H1.out HL.out HFF.out HKK.out H0.out HE.out
    · have hez : ¬ (((((pw o pre st).2.write (wrap64 ((o : Int) + (x.1 : Int))) x.2).1 : Nat) : Int) = 0) := by omega
      have HE := hide he
      clear he
      generalize hen : ((pw o pre st).2.write (wrap64 ((o : Int) + (x.1 : Int))) x.2).1 = en at *
      have HEN := hide hen
      clear hen
      gi_wp2_with (fail)
      refine ⟨trivial, CallsIn.mono (F := Fence.wide) (callsIn_wide.2 KW.out) ?_⟩
      rintro e W1 ⟨rfl, F2, hd, hloc⟩
      have h1 := HI.out.write HFF.out HKK.out H0.out hd hloc
      have hfb := h1.b.frozen
      have hcb := h1.b.cell
      have hfe := h1.e.frozen
      have hce := h1.e.cell
      have H1 := hide h1
      have HL := hide hloc
      clear h1 hd hloc
      gi_wp2
      exact lay_no HI.out H1.out HL.out HFF.out HK1.out H0.out (HEN.out.symm ▸ HE.out) HEN.out
  case done =>
    rintro D ys W hD rfl ⟨F', hi, h0⟩ hK
    have hfb := hi.b.frozen
    have hcb := hi.b.cell
    have hfe := hi.e.frozen
    have hce := hi.e.cell
    have hcw := hi.w.cell
    have HI := hide hi
    have H0 := hide h0
    have HK := hide hK
    clear hi h0 hK
    gi_wp2
    obtain ⟨hK', k1, k2, hl⟩ := lay_done a b ho hN HI.out hF hK1 H0.out HK.out (by omega)
    refine ⟨by simp, .inl ⟨_, _, rfl, run_takeDeferred hK', ?_⟩⟩
    refine ⟨.tuple #[.bool (!(df a b N).isEmpty), .int .i64 0], ?_, hl⟩
    simp [results, Tryz.f159, go_sem, k1, k2]
  case stop =>
    rintro D c pre W hD hpre ⟨rfl, h0, F', vW, hi⟩ hK
    obtain ⟨hK', k1, k2, hl⟩ := lay_stop a b ho hN hi hK1 h0 hpre hK (by omega)
    gi_wp2
    refine ⟨by simp, .inl ⟨_, _, rfl, run_takeDeferred hK', ?_⟩⟩
    refine ⟨.tuple #[.bool false, .int .i64 (((pw o pre st).1 : Nat) : Int)], ?_, hl⟩
    simp [results, Tryz.f159, go_sem, k1, k2]
end Go.Proofs.YtchhojkhfdkhfaaGreatDoor
namespace Go.Proofs.YtchhojkhfdkhfaaGreatDoor
open Go Go.RowKit Frm Go.Shelf
attribute [local go_sem] Oper.semAt_some
set_option maxRecDepth 100000 in
set_option maxHeartbeats 2000000 in
theorem diff1_72_66 (n : Nat) (_hn : 1 ≤ n) (l Ba Bn Bw N pw0 pw1 pn0 : Nat) (K : Nat → Prop) (a b : Nat → ByteArray) (J Jx : List (Nat × ByteArray) → World → Prop) (W : World) (hN : N ≤ 4096) (hJ : AbidesFrom W.heap.size J)
    (hY : ∀ pre x W1, J pre W1 → pre.length < (df a b N).length → YieldAt Fence.wide (n - 1) Tryz.prog l (encD x) W1 fun e W' =>
      (e = .returned (.bool true) ∧ J (pre ++ [x]) W' ∧ (W1.heap.size ≤ W'.heap.size ∧ Kpt K W1 W')) ∨ (e = .returned (.bool false) ∧ Jx (pre ++ [x]) W'))
    (hK : ∀ k, K k → k < W.heap.size) (hKn : K Bn) (hKw : K Bw)
    (hA : W.cell? ⟨Ba, 2, none⟩ = some (.int .i64 (N : Int))) (hBn : W.cell? ⟨Bn, 0, none⟩ = some (.func (.func 129) #[] #[.pointer (some ⟨pn0, 0, none⟩)])) (hBw : W.cell? ⟨Bw, 0, none⟩ = some (.func (.func 146) #[] #[.pointer (some ⟨pw0, 0, none⟩), .pointer (some ⟨pw1, 0, none⟩)]))
    (hnow : ∀ u i, Kpt K W u → i < N → Calls Tryz.prog 129 #[.int .i64 (i : Int), .pointer (some ⟨pn0, 0, none⟩)] u fun e u' => e = .returned (.string (b i)) ∧ Below u.heap.size u u')
    (hwas : ∀ u i, Kpt K W u → i < N → Calls Tryz.prog 146 #[.int .i64 (i : Int), .pointer (some ⟨pw0, 0, none⟩), .pointer (some ⟨pw1, 0, none⟩)] u fun e u' => e = .returned (.string (a i)) ∧ Below u.heap.size u u')
    (h0 : J [] W) :
    CallsIn Fence.wide n Tryz.prog 172 #[.func (.yield l) #[] #[], .pointer (some ⟨Ba, 0, none⟩), .pointer (some ⟨Bn, 0, none⟩), .pointer (some ⟨Bw, 0, none⟩)] W fun e W' => (∃ v, e = .returned v) ∧
      ((∃ ys, ys = df a b N ∧ J ys W') ∨ (∃ pre, pre <+: df a b N ∧ Jx pre W')) := by
  refine callsIn_of_wp Tryz.func172 rfl trivial ?_ rfl
  simp only [Tryz.ntmps172, List.size_toArray, List.length_cons, List.length_nil, Nat.reduceAdd, Nat.reduceSub, Array.replicate_succ, Array.replicate_zero, List.push_toArray, List.append_toArray, List.nil_append, List.cons_append]
  gi_wp2
  gi_loopw [5, 6, 9] (fun _ _ c wr => ∃ k : Nat, k ≤ N ∧ c = .int .i64 (k : Int) ∧ J (df a b k) wr ∧ W.heap.size ≤ wr.heap.size ∧ Kpt K W wr) (fun _ _ c _ => N - (intOf c).toNat)
  case atStart => exact ⟨0, Nat.zero_le _, rfl, h0, Nat.le_refl _, fun _ _ => rfl⟩
  case round =>
    obtain ⟨k, hk, rfl, hJk, hsz, hkp⟩ := hrel
    have HJk := hide hJk
    have HJ := hide hJ
    have HY := hide hY
    have HKP := hide hkp
    have HNW := hide hnow
    have HWS := hide hwas
    have HN := hide hN
    have HK := hide hK
    have HA := hide hA
    have HBn := hide hBn
    have HBw := hide hBw
    have hcn := hkp.cell hKn hBn
    clear hJk hJ hY hkp hnow hwas h0 hN hK hA hBn hBw
    by_cases hlt : k < N
    · have hz : (k : Int) < (N : Int) := by omega
      have hkN : k ≤ 4096 := by have := HN.out; omega
      have hw : IntKind.i64.wrap ((k : Int) + 1) = (k : Int) + 1 := by rw [IntKind.wrap_i64]; omega
      by_cases hab : a k = b k
      · have HD : Hid (df a b (k + 1) = df a b k) := by show _ = _; rw [df_succ, if_pos hab, List.append_nil]
        gi_wp2_with (fail)
        refine ⟨trivial, (callsIn_wide.2 (HNW.out _ k HKP.out hlt)).mono ?_⟩
        rintro e w1 ⟨rfl, hb1⟩
        have HKP1 := hide (HKP.out.below HK.out hsz hb1)
        have hsz1 := Nat.le_trans hsz hb1.size
        have hcw := HKP1.out.cell hKw HBw.out
        have HJ1 := hide (HJ.out _ _ _ none HJk.out (grown_of_below hb1) (fun r e => by cases e))
        clear hb1
        gi_wp2_with (fail)
        refine ⟨trivial, (callsIn_wide.2 (HWS.out _ k HKP1.out hlt)).mono ?_⟩
        rintro e w2 ⟨rfl, hb2⟩
        have HKP2 := hide (HKP1.out.below HK.out hsz1 hb2)
        have hsz2 := Nat.le_trans hsz1 hb2.size
        have hJ2 := HJ.out _ _ _ none HJ1.out (grown_of_below hb2) (fun r e => by cases e)
        clear hb2
        rw [hab]
        have HJ2 := hide hJ2
        clear hJ2
        gi_wp2_with (refine ⟨fun _ h => (by cases h), ?_⟩)
        go_roundw
        case rel => exact ⟨k + 1, hlt, by go_num, by rw [HD.out]; exact HJ2.out, hsz2, HKP2.out⟩
        case measure => simp [intOf]; omega
      · gi_wp2_with (fail)
        refine ⟨trivial, (callsIn_wide.2 (HNW.out _ k HKP.out hlt)).mono ?_⟩
        rintro e w1 ⟨rfl, hb1⟩
        have HKP1 := hide (HKP.out.below HK.out hsz hb1)
        have hsz1 := Nat.le_trans hsz hb1.size
        have hcw := HKP1.out.cell hKw HBw.out
        have HJ1 := hide (HJ.out _ _ _ none HJk.out (grown_of_below hb1) (fun r e => by cases e))
        clear hb1
        gi_wp2_with (fail)
        refine ⟨trivial, (callsIn_wide.2 (HWS.out _ k HKP1.out hlt)).mono ?_⟩
        rintro e w2 ⟨rfl, hb2⟩
        have HKP2 := hide (HKP1.out.below HK.out hsz1 hb2)
        have hsz2 := Nat.le_trans hsz1 hb2.size
        have hJ2 := HJ.out _ _ _ none HJ1.out (grown_of_below hb2) (fun r e => by cases e)
        clear hb2
        have hne : ((b k).toList == (a k).toList) = false := toList_ne (fun e => hab e.symm)
        have hDs : df a b (k + 1) = df a b k ++ [(k, b k)] := by rw [df_succ, if_neg hab]
        have hpre : df a b k ++ [(k, b k)] <+: df a b N := by rw [← hDs, show N = k + 1 + (N - (k + 1)) from by omega]; exact df_prefix a b (k + 1) _
        have hlen : (df a b k).length < (df a b N).length := by
          have := hpre.length_le
          rw [List.length_append] at this
          simp at this
          omega
        obtain ⟨fn, tmps, assign, body, hy0, hR⟩ := HY.out (df a b k) (k, b k) w2 hJ2 hlen
        have hy : (Instr.yield l #[.int .i64 (k : Int), .string (b k)]).run Tryz.prog w2 = .ok (.round l fn tmps assign body) w2 := hy0
        have HD := hide hDs
        have HP := hide hpre
        clear hy0 hDs hpre hlen hJ2
        gi_wp2
        refine hR.mono ?_
        rintro e W3 (⟨rfl, hJ3, hs3, hk3⟩ | ⟨rfl, hJx3⟩)
        · have HJ3 := hide hJ3
          have HKP3 := hide (HKP2.out.trans hk3)
          clear hJ3 hk3
          gi_wp2
          go_roundw
          case rel => exact ⟨k + 1, hlt, by go_num, by rw [HD.out]; exact HJ3.out, Nat.le_trans hsz2 hs3, HKP3.out⟩
          case measure => simp [intOf]; omega
        · have HJx3 := hide hJx3
          clear hJx3
          gi_wp2
          refine bodyPost_ret (results_none rfl _ _ _) rfl ?_
          exact ⟨⟨_, rfl⟩, .inr ⟨_, HP.out, HJx3.out⟩⟩
    · have hkN : k = N := by omega
      subst hkN
      gi_wp2
      go_end0
      exact ⟨⟨_, rfl⟩, .inl ⟨_, rfl, HJk.out⟩⟩
/-- The iterator's contract. -/
theorem diff_72_66 (n : Nat) (hn : 1 ≤ n) (Ba Bn Bw N pw0 pw1 pn0 : Nat) (K : Nat → Prop) (a b : Nat → ByteArray) (w : World) (hN : N ≤ 4096)
    (hK : ∀ k, K k → k < w.heap.size) (hKa : K Ba) (hKn : K Bn) (hKw : K Bw)
    (hA : w.cell? ⟨Ba, 2, none⟩ = some (.int .i64 (N : Int))) (hBn : w.cell? ⟨Bn, 0, none⟩ = some (.func (.func 129) #[] #[.pointer (some ⟨pn0, 0, none⟩)])) (hBw : w.cell? ⟨Bw, 0, none⟩ = some (.func (.func 146) #[] #[.pointer (some ⟨pw0, 0, none⟩), .pointer (some ⟨pw1, 0, none⟩)]))
    (hnow : ∀ u i, Kpt K w u → i < N → Calls Tryz.prog 129 #[.int .i64 (i : Int), .pointer (some ⟨pn0, 0, none⟩)] u fun e u' => e = .returned (.string (b i)) ∧ Below u.heap.size u u')
    (hwas : ∀ u i, Kpt K w u → i < N → Calls Tryz.prog 146 #[.int .i64 (i : Int), .pointer (some ⟨pw0, 0, none⟩), .pointer (some ⟨pw1, 0, none⟩)] u fun e u' => e = .returned (.string (a i)) ∧ Below u.heap.size u u') :
    SeqStopsK Fence.wide n Tryz.prog 172 #[.pointer (some ⟨Ba, 0, none⟩), .pointer (some ⟨Bn, 0, none⟩), .pointer (some ⟨Bw, 0, none⟩)] encD (fun A B => A.heap.size ≤ B.heap.size ∧ Kpt K A B) (fun ys => ys = df a b N) (fun pre => pre <+: df a b N) (df a b N).length w := fun l J Jx W hW hJ _ hY h0 =>
  have hk : Kpt K w W := fun k hk => hW.block k (hK k hk)
  diff1_72_66 n hn l Ba Bn Bw N pw0 pw1 pn0 K a b J Jx W hN hJ hY (fun k h => Nat.lt_of_lt_of_le (hK k h) hW.size) hKn hKw (hk.cell hKa hA) (hk.cell hKn hBn) (hk.cell hKw hBw) (fun u i hu hi => hnow u i (hk.trans hu) hi) (fun u i hu hi => hwas u i (hk.trans hu) hi) h0
end Go.Proofs.YtchhojkhfdkhfaaGreatDoor
namespace Go.Proofs.YtchhojkhfdkhfaaGreatDoor
open Go Go.RowKit Frm Go.Shelf
attribute [local go_sem] Oper.semAt_some
set_option maxRecDepth 100000 in
set_option maxHeartbeats 4000000 in
theorem lay_72_66 (q o N pw0 pw1 pn0 : Nat) (a b : Nat → ByteArray) (st : St) (F K0 : Nat → Prop) (w : World) (hD : DAt w q st F) (hok : st.Ok) (hlo : st.loose.length + N ≤ 10000) (hN : N ≤ 4096) (ho : o ≤ 4096) (hK0 : ∀ k, K0 k → k < w.heap.size ∧ ¬ F k)
    (hnow : ∀ u i, Kpt K0 w u → i < N → Calls Tryz.prog 129 #[.int .i64 (i : Int), .pointer (some ⟨pn0, 0, none⟩)] u fun e u' => e = .returned (.string (b i)) ∧ Below u.heap.size u u')
    (hwas : ∀ u i, Kpt K0 w u → i < N → Calls Tryz.prog 146 #[.int .i64 (i : Int), .pointer (some ⟨pw0, 0, none⟩), .pointer (some ⟨pw1, 0, none⟩)] u fun e u' => e = .returned (.string (a i)) ∧ Below u.heap.size u u') :
    Calls Tryz.prog 159 #[.agg #[.pointer (some ⟨q, 0, none⟩), .int .i64 (o : Int), .int .i64 (N : Int)], .func (.func 146) #[] #[.pointer (some ⟨pw0, 0, none⟩), .pointer (some ⟨pw1, 0, none⟩)], .func (.func 129) #[] #[.pointer (some ⟨pn0, 0, none⟩)]] w (LaidOut q o N a b st F w) := by
  have hF : ∀ k, F k → k < w.heap.size := con.lt hD
  have hK1 : ∀ k, K0 k → k < w.heap.size := fun k hk => (hK0 k hk).1
  obtain ⟨W0, hW0⟩ : ∃ W0, (((((((w.alloc (.cells #[.pointer (some ⟨q, 0, none⟩), .int .i64 (o : Int), .int .i64 (N : Int)] 163)).alloc (.cells #[.bool false] 4)).alloc (.cells #[.int .i64 0] 29)).alloc (.cells #[.bool false] 4)).alloc (.cells #[.pointer (some ⟨q, 0, none⟩), .int .i64 (o : Int), .int .i64 (N : Int)] 163)).alloc (.cells #[.func (.func 146) #[] #[.pointer (some ⟨pw0, 0, none⟩), .pointer (some ⟨pw1, 0, none⟩)]] 165)).alloc (.cells #[.func (.func 129) #[] #[.pointer (some ⟨pn0, 0, none⟩)]] 165)) = W0 := ⟨_, rfl⟩
  obtain ⟨hI0, hsz0, hA0, hNow0, hWas0, hkp0⟩ := lay_start q o N st F K0 w hD hK0 (.func (.func 146) #[] #[.pointer (some ⟨pw0, 0, none⟩), .pointer (some ⟨pw1, 0, none⟩)]) (.func (.func 129) #[] #[.pointer (some ⟨pn0, 0, none⟩)]) W0 hW0
  have HIT := hide (diff_72_66 5 (by decide) (w.heap.size + 1 + 1 + 1 + 1) (w.heap.size + 1 + 1 + 1 + 1 + 1 + 1) (w.heap.size + 1 + 1 + 1 + 1 + 1) N pw0 pw1 pn0 (KL w.heap.size K0) a b W0 hN (fun k hk => by rw [hsz0]; exact KL.lt hK1 k hk) (Or.inr (Or.inl rfl)) (Or.inr (Or.inr (Or.inr rfl))) (Or.inr (Or.inr (Or.inl rfl))) hA0 hNow0 hWas0
    (fun u i hu hi => hnow u i (fun k hk => (hu k (Or.inl hk)).trans (hkp0 k hk)) hi) (fun u i hu hi => hwas u i (fun k hk => (hu k (Or.inl hk)).trans (hkp0 k hk)) hi))
  have HNW := hide hnow
  have HI0 := hide hI0
  clear hI0 hnow hwas
  refine (callsIn_wide (n := 6)).1 ?_
  refine callsIn_of_wp_marks Tryz.func159 rfl trivial ?_ rfl
  simp only [Tryz.ntmps159, List.size_toArray, List.length_cons, List.length_nil, Nat.reduceAdd, Nat.reduceSub, Array.replicate_succ, Array.replicate_zero, List.push_toArray, List.append_toArray, List.nil_append, List.cons_append]
  gi_wp2_with (refine ⟨trivial, ?_⟩; gi_at_call 166; refine (differing_in _ q (o : Int) (N : Int) 146 129 _ _ _).mono ?_; rintro e w' ⟨rfl, rfl⟩)

  clear hW0 hA0 hNow0 hWas0 hkp0
  refine wpIn_rangeFunc_ownH rfl (by decide) (gf := 172) (lb := #[.pointer (some ⟨w.heap.size + 1 + 1 + 1 + 1, 0, none⟩), .pointer (some ⟨w.heap.size + 1 + 1 + 1 + 1 + 1 + 1, 0, none⟩), .pointer (some ⟨w.heap.size + 1 + 1 + 1 + 1 + 1, 0, none⟩)]) rfl trivial (enters_of Tryz.func172 (by kernel_rfl) rfl)
    HIT.out (fun h k => ⟨Nat.le_trans h.1 k.1, h.2.trans k.2⟩) (fun W l ob ob' hl hh _ _ => kp_put hK1 (by rw [← hsz0]; exact hl)) (Below.refl _ _) (fun _ => rfl)
    (LIn w q o N st F K0) (LOut w q o N st F K0) (LIn.own hK1 (by rw [hsz0]; exact Nat.le_refl _)) (LOut.own hK1 (by rw [hsz0]; exact Nat.le_refl _))
    HI0.out
    (fun x a' _ => a' = { tmps := #[.agg #[.pointer (some ⟨q, 0, none⟩), .int .i64 (o : Int), .int .i64 (N : Int)], .func (.func 146) #[] #[.pointer (some ⟨pw0, 0, none⟩), .pointer (some ⟨pw1, 0, none⟩)], .func (.func 129) #[] #[.pointer (some ⟨pn0, 0, none⟩)], .pointer (some ⟨w.heap.size, 0, none⟩), undef, undef, .pointer (some ⟨w.heap.size + 1, 0, none⟩), .pointer (some ⟨w.heap.size + 1 + 1, 0, none⟩), .pointer (some ⟨w.heap.size + 1 + 1 + 1, 0, none⟩), .int .i64 (x.1 : Int), .string x.2, undef, .agg #[.pointer (some ⟨q, 0, none⟩), .int .i64 (o : Int), .int .i64 (N : Int)], .func (.func 146) #[] #[.pointer (some ⟨pw0, 0, none⟩), .pointer (some ⟨pw1, 0, none⟩)], .func (.func 129) #[] #[.pointer (some ⟨pn0, 0, none⟩)], .func (.func 172) #[] #[.pointer (some ⟨w.heap.size + 1 + 1 + 1 + 1, 0, none⟩), .pointer (some ⟨w.heap.size + 1 + 1 + 1 + 1 + 1 + 1, 0, none⟩), .pointer (some ⟨w.heap.size + 1 + 1 + 1 + 1 + 1, 0, none⟩)], .int .i64 (x.1 : Int), .string x.2, undef, undef, undef, undef, undef, undef, undef, undef, undef, undef, undef, undef], defers := [] }) (fun x a' _ X Y row hs hg hr => hs)
    ?assign ?body ?done ?stop
  case assign =>
    rintro l pre x W K hi hK
    dsimp only [encD]
    have HK := hide hK
    have HI := hide hi
    clear hK hi
    gi_wp2
    exact HK.out _ _ (KeepsFrom.refl _ _) ⟨Nat.le_refl _, fun _ _ => rfl⟩ HI.out rfl
  case body =>
    rintro l pre x a' W hl ⟨r, hr⟩ ⟨F', hi, h0⟩ rfl hlt
    have hst := LayIn.state hi hok hlo (Nat.le_trans (Nat.le_of_lt hlt) (df_length a b N))
    have hc0 := hi.c0
    have hc1 := hi.c1
    have KW := hide (write_any q _ F' (wrap64 ((o : Int) + (x.1 : Int))) x.2 W hi.disk hst.1 hst.2)
    have HI := hide hi
    have H0 := hide h0
    have HKK := hide hK0
    have HFF := hide hF
    have HK1 := hide hK1
    clear hi h0 hst hK0 hF hK1
    by_cases he : ((pw o pre st).2.write (wrap64 ((o : Int) + (x.1 : Int))) x.2).1 = 0
    · rw [he] at KW
      have HE := hide he
      clear he
      gi_wp2_with (fail)
      refine ⟨trivial, CallsIn.mono (F := Fence.wide) (callsIn_wide.2 KW.out) ?_⟩
      rintro e W1 ⟨rfl, F2, hd, hloc⟩
      have h1 := HI.out.write HFF.out HKK.out H0.out hd hloc
      have hfw := h1.w.frozen
      have hcw := h1.w.cell
      have H1 := hide h1
      have HL := hide hloc
      clear h1 hd hloc
      gi_wp2
      exact lay_go HI.out H1.out HL.out HFF.out HKK.out H0.out HE.out
    · have hez : ¬ (((((pw o pre st).2.write (wrap64 ((o : Int) + (x.1 : Int))) x.2).1 : Nat) : Int) = 0) := by omega
      have HE := hide he
      clear he
      generalize hen : ((pw o pre st).2.write (wrap64 ((o : Int) + (x.1 : Int))) x.2).1 = en at *
      have HEN := hide hen
      clear hen
      gi_wp2_with (fail)
      refine ⟨trivial, CallsIn.mono (F := Fence.wide) (callsIn_wide.2 KW.out) ?_⟩
      rintro e W1 ⟨rfl, F2, hd, hloc⟩
      have h1 := HI.out.write HFF.out HKK.out H0.out hd hloc
      have hfb := h1.b.frozen
      have hcb := h1.b.cell
      have hfe := h1.e.frozen
      have hce := h1.e.cell
      have H1 := hide h1
      have HL := hide hloc
      clear h1 hd hloc
      gi_wp2
      exact lay_no HI.out H1.out HL.out HFF.out HK1.out H0.out (HEN.out.symm ▸ HE.out) HEN.out
  case done =>
    rintro D ys W hD rfl ⟨F', hi, h0⟩ hK
    have hfb := hi.b.frozen
    have hcb := hi.b.cell
    have hfe := hi.e.frozen
    have hce := hi.e.cell
    have hcw := hi.w.cell
    have HI := hide hi
    have H0 := hide h0
    have HK := hide hK
    clear hi h0 hK
    gi_wp2
    obtain ⟨hK', k1, k2, hl⟩ := lay_done a b ho hN HI.out hF hK1 H0.out HK.out (by omega)
    refine ⟨by simp, .inl ⟨_, _, rfl, run_takeDeferred hK', ?_⟩⟩
    refine ⟨.tuple #[.bool (!(df a b N).isEmpty), .int .i64 0], ?_, hl⟩
    simp [results, Tryz.f159, go_sem, k1, k2]
  case stop =>
    rintro D c pre W hD hpre ⟨rfl, h0, F', vW, hi⟩ hK
    obtain ⟨hK', k1, k2, hl⟩ := lay_stop a b ho hN hi hK1 h0 hpre hK (by omega)
    gi_wp2
    refine ⟨by simp, .inl ⟨_, _, rfl, run_takeDeferred hK', ?_⟩⟩
    refine ⟨.tuple #[.bool false, .int .i64 (((pw o pre st).1 : Nat) : Int)], ?_, hl⟩
    simp [results, Tryz.f159, go_sem, k1, k2]
end Go.Proofs.YtchhojkhfdkhfaaGreatDoor
namespace Go.Proofs.YtchhojkhfdkhfaaGreatDoor
open Go Go.RowKit Frm Go.Shelf
theorem wl_none (o o' : Nat) : ∀ (l : List (ByteArray × ByteArray)) (i : Nat), wl o l i = [] → wl o' l i = []
  | [], _, _ => rfl
  | x :: l, i, h => by
    have e : ∀ m, wl m (x :: l) i = if x.1 = x.2 then wl m l (i + 1) else (m + i, x.2) :: wl m l (i + 1) := fun _ => rfl
    rw [e] at h ⊢
    split at h
    · rename_i hx; rw [if_pos hx]; exact wl_none o o' l (i + 1) h
    · cases h
theorem made_of (o N : Nat) (a b : Nat → ByteArray) (st : St) : ((puts o (prs N a b) 0 st).1 ≠ 0 → made o (prs N a b) st = puts o (prs N a b) 0 st) ∧ ((puts o (prs N a b) 0 st).1 = 0 → df a b N = [] → made o (prs N a b) st = (0, (puts o (prs N a b) 0 st).2)) ∧ ((puts o (prs N a b) 0 st).1 = 0 → df a b N ≠ [] → made o (prs N a b) st = (puts o (prs N a b) 0 st).2.sync) := by
  unfold made df
  refine ⟨fun h => by rw [if_pos h], fun h k => by rw [if_neg (by rw [h]; simp), if_pos (wl_none 0 o _ _ k)], fun h k => by rw [if_neg (by rw [h]; simp), if_neg (fun e => k (wl_none o 0 _ _ e))]⟩
theorem puts_ok (o : Nat) : ∀ (l : List (ByteArray × ByteArray)) (i : Nat) (st : St), st.Ok → (puts o l i st).2.Ok ∧ (puts o l i st).2.loose.length ≤ st.loose.length + l.length
  | [], _, st, h => ⟨h, by simp [puts]⟩
  | x :: l, i, st, h => by
    have e2 : puts o (x :: l) i st = if x.1 = x.2 then puts o l (i + 1) st else if (st.write ((o + i : Nat) : Int) x.2).1 = 0 then puts o l (i + 1) (st.write ((o + i : Nat) : Int) x.2).2 else st.write ((o + i : Nat) : Int) x.2 := rfl
    rw [e2, List.length_cons]
    have hw := write_loose st ((o + i : Nat) : Int) x.2
    split
    · have := puts_ok o l (i + 1) st h
      exact ⟨this.1, by omega⟩
    · split
      · have := puts_ok o l (i + 1) (st.write ((o + i : Nat) : Int) x.2).2 (h.write _ _)
        exact ⟨this.1, by omega⟩
      · exact ⟨h.write _ _, by omega⟩
theorem lay_len (o N : Nat) (a b : Nat → ByteArray) (st : St) (h : st.Ok) : (puts o (prs N a b) 0 st).2.Ok ∧ (puts o (prs N a b) 0 st).2.loose.length ≤ st.loose.length + N := by
  have := puts_ok o (prs N a b) 0 st h
  rw [prs_length] at this
  exact this
set_option maxRecDepth 10000 in
set_option maxHeartbeats 2000000 in
theorem sure_71_72 (q o N pw0 pn0 pn1 : Nat) (a b : Nat → ByteArray) (st : St) (F K0 : Nat → Prop) (w : World) (hD : DAt w q st F) (hok : st.Ok) (hlo : st.loose.length + N ≤ 10000) (hN : N ≤ 4096) (ho : o ≤ 4096) (hK0 : ∀ k, K0 k → k < w.heap.size ∧ ¬ F k)
    (hnow : ∀ u i, Kpt K0 w u → i < N → Calls Tryz.prog 146 #[.int .i64 (i : Int), .pointer (some ⟨pn0, 0, none⟩), .pointer (some ⟨pn1, 0, none⟩)] u fun e u' => e = .returned (.string (b i)) ∧ Below u.heap.size u u')
    (hwas : ∀ u i, Kpt K0 w u → i < N → Calls Tryz.prog 145 #[.int .i64 (i : Int), .pointer (some ⟨pw0, 0, none⟩)] u fun e u' => e = .returned (.string (a i)) ∧ Below u.heap.size u u') :
    Calls Tryz.prog 147 #[.agg #[.pointer (some ⟨q, 0, none⟩), .int .i64 (o : Int), .int .i64 (N : Int)], .func (.func 145) #[] #[.pointer (some ⟨pw0, 0, none⟩)], .func (.func 146) #[] #[.pointer (some ⟨pn0, 0, none⟩), .pointer (some ⟨pn1, 0, none⟩)]] w fun e w' => e = .returned (.int .i64 (((made o (prs N a b) st).1 : Nat) : Int)) ∧ ∃ F', DAt w' q (made o (prs N a b) st).2 F' ∧ Loc F F' w w' := by
  obtain ⟨W, hW⟩ : ∃ W, w.alloc (.cells #[.pointer (some ⟨q, 0, none⟩), .int .i64 (o : Int), .int .i64 (N : Int)] 163) = W := ⟨_, rfl⟩
  have hbW : Below w.heap.size w W := by rw [← hW]; exact (Below.refl _ _).alloc (Nat.le_refl _) _
  have hszW : W.heap.size = w.heap.size + 1 := by rw [← hW]; simp
  have harea : W.heap[w.heap.size]? = some (.cells #[.pointer (some ⟨q, 0, none⟩), .int .i64 (o : Int), .int .i64 (N : Int)] 163 (0, 0)) := by rw [← hW]; exact World.alloc_heap_new w _
  have hc0 : W.cell? ⟨w.heap.size, 0, none⟩ = some (.pointer (some ⟨q, 0, none⟩)) := by simp [World.cell?, harea]
  have hc1 : W.cell? ⟨w.heap.size, 1, none⟩ = some (.int .i64 (o : Int)) := by simp [World.cell?, harea]
  have hc2 : W.cell? ⟨w.heap.size, 2, none⟩ = some (.int .i64 (N : Int)) := by simp [World.cell?, harea]
  have hF := con.lt hD
  have hkp : Kpt K0 w W := fun k hk => hbW.block k (hK0 k hk).1
  have KL := hide (lay_71_72 q o N pw0 pn0 pn1 a b st F K0 W (con.below hD hbW) hok hlo hN ho (fun k hk => ⟨by have := (hK0 k hk).1; omega, (hK0 k hk).2⟩) (fun u i hu hi => hnow u i (hkp.trans hu) hi) (fun u i hu hi => hwas u i (hkp.trans hu) hi))
  have HM := hide (made_of o N a b st)
  have HL0 := hide (Loc.of_below F hbW)
  have HOK := hide hok
  have HNA : Hid (∀ F' u, Loc F F' W u → u.heap[w.heap.size]? = some (.cells #[.pointer (some ⟨q, 0, none⟩), .int .i64 (o : Int), .int .i64 (N : Int)] 163 (0, 0))) := fun F' u hl => (hl.block _ (by omega) (fun hf => by have := hF _ hf; omega)).trans harea
  have HLL := hide (lay_len o N a b st hok)
  have HN := hide hlo
  clear hok hnow hwas hbW harea hkp
  by_cases h0 : (puts o (prs N a b) 0 st).1 = 0
  · by_cases h1 : df a b N = []
    · have hdec : decide ((puts o (prs N a b) 0 st).1 = 0 ∧ df a b N ≠ []) = false := decide_eq_false (fun h => h.2 h1)
      have HA := hide (HM.out.2.1 h0 h1)
      clear hlo
      unfold LaidOut at KL
      rw [hdec, h0] at KL
      generalize made o (prs N a b) st = M at *
      generalize (puts o (prs N a b) 0 st).2 = S at *
      clear h0 h1 hdec
      go_enter Tryz.func147, Tryz.ntmps147
      go_wp2_with fail
      refine KL.out.mono ?_
      rintro e w1 ⟨rfl, F', hd, hloc⟩
      have HD := hide hd
      have HLoc := hide hloc
      clear hd hloc
      go_wp2
      go_ret
      exact ⟨by rw [HA.out]; rfl, F', by rw [HA.out]; exact HD.out, HL0.out.trans HLoc.out⟩
    · have hdec : decide ((puts o (prs N a b) 0 st).1 = 0 ∧ df a b N ≠ []) = true := decide_eq_true ⟨h0, h1⟩
      have HA := hide (HM.out.2.2 h0 h1)
      have HS := hide HLL.out
      clear hlo
      unfold LaidOut at KL
      rw [hdec, h0] at KL
      generalize made o (prs N a b) st = M at *
      generalize (puts o (prs N a b) 0 st).2 = S at *
      clear h0 h1 hdec
      go_enter Tryz.func147, Tryz.ntmps147
      go_wp2_with fail
      refine KL.out.mono ?_
      rintro e w1 ⟨rfl, F', hd, hloc⟩
      have HD := hide hd
      have HLoc := hide hloc
      have hq : w1.cell? ⟨w.heap.size, 0, none⟩ = some (.pointer (some ⟨q, 0, none⟩)) := by simp [World.cell?, HNA.out F' w1 hloc]
      have KS := hide (con.sync q S F' w1 hd HS.out.1 (by have := HS.out.2; have := HN.out; omega))
      clear hd hloc
      go_wp2_with fail
      refine KS.out.mono ?_
      rintro e w2 ⟨rfl, F2, hd2, hloc2⟩
      have HD2 := hide hd2
      have HLoc2 := hide hloc2
      clear hd2 hloc2
      go_wp2
      go_ret
      exact ⟨by rw [HA.out]; rfl, F2, by rw [HA.out]; exact HD2.out, (HL0.out.trans HLoc.out).trans HLoc2.out⟩
  · have hdec : decide ((puts o (prs N a b) 0 st).1 = 0 ∧ df a b N ≠ []) = false := decide_eq_false (fun h => h0 h.1)
    have HA := hide (HM.out.1 h0)
    have hez : ¬ ((((puts o (prs N a b) 0 st).1 : Nat) : Int) = 0) := by omega
    clear hlo
    unfold LaidOut at KL
    rw [hdec] at KL
    generalize made o (prs N a b) st = M at *
    generalize (puts o (prs N a b) 0 st) = S at *
    clear h0 hdec
    go_enter Tryz.func147, Tryz.ntmps147
    go_wp2_with fail
    refine KL.out.mono ?_
    rintro e w1 ⟨rfl, F', hd, hloc⟩
    have HD := hide hd
    have HLoc := hide hloc
    clear hd hloc
    go_wp2
    go_ret
    exact ⟨by rw [HA.out]; rfl, F', by rw [HA.out]; exact HD.out, HL0.out.trans HLoc.out⟩
set_option maxRecDepth 10000 in
set_option maxHeartbeats 2000000 in
theorem sure_72_66 (q o N pw0 pw1 pn0 : Nat) (a b : Nat → ByteArray) (st : St) (F K0 : Nat → Prop) (w : World) (hD : DAt w q st F) (hok : st.Ok) (hlo : st.loose.length + N ≤ 10000) (hN : N ≤ 4096) (ho : o ≤ 4096) (hK0 : ∀ k, K0 k → k < w.heap.size ∧ ¬ F k)
    (hnow : ∀ u i, Kpt K0 w u → i < N → Calls Tryz.prog 129 #[.int .i64 (i : Int), .pointer (some ⟨pn0, 0, none⟩)] u fun e u' => e = .returned (.string (b i)) ∧ Below u.heap.size u u')
    (hwas : ∀ u i, Kpt K0 w u → i < N → Calls Tryz.prog 146 #[.int .i64 (i : Int), .pointer (some ⟨pw0, 0, none⟩), .pointer (some ⟨pw1, 0, none⟩)] u fun e u' => e = .returned (.string (a i)) ∧ Below u.heap.size u u') :
    Calls Tryz.prog 147 #[.agg #[.pointer (some ⟨q, 0, none⟩), .int .i64 (o : Int), .int .i64 (N : Int)], .func (.func 146) #[] #[.pointer (some ⟨pw0, 0, none⟩), .pointer (some ⟨pw1, 0, none⟩)], .func (.func 129) #[] #[.pointer (some ⟨pn0, 0, none⟩)]] w fun e w' => e = .returned (.int .i64 (((made o (prs N a b) st).1 : Nat) : Int)) ∧ ∃ F', DAt w' q (made o (prs N a b) st).2 F' ∧ Loc F F' w w' := by
  obtain ⟨W, hW⟩ : ∃ W, w.alloc (.cells #[.pointer (some ⟨q, 0, none⟩), .int .i64 (o : Int), .int .i64 (N : Int)] 163) = W := ⟨_, rfl⟩
  have hbW : Below w.heap.size w W := by rw [← hW]; exact (Below.refl _ _).alloc (Nat.le_refl _) _
  have hszW : W.heap.size = w.heap.size + 1 := by rw [← hW]; simp
  have harea : W.heap[w.heap.size]? = some (.cells #[.pointer (some ⟨q, 0, none⟩), .int .i64 (o : Int), .int .i64 (N : Int)] 163 (0, 0)) := by rw [← hW]; exact World.alloc_heap_new w _
  have hc0 : W.cell? ⟨w.heap.size, 0, none⟩ = some (.pointer (some ⟨q, 0, none⟩)) := by simp [World.cell?, harea]
  have hc1 : W.cell? ⟨w.heap.size, 1, none⟩ = some (.int .i64 (o : Int)) := by simp [World.cell?, harea]
  have hc2 : W.cell? ⟨w.heap.size, 2, none⟩ = some (.int .i64 (N : Int)) := by simp [World.cell?, harea]
  have hF := con.lt hD
  have hkp : Kpt K0 w W := fun k hk => hbW.block k (hK0 k hk).1
  have KL := hide (lay_72_66 q o N pw0 pw1 pn0 a b st F K0 W (con.below hD hbW) hok hlo hN ho (fun k hk => ⟨by have := (hK0 k hk).1; omega, (hK0 k hk).2⟩) (fun u i hu hi => hnow u i (hkp.trans hu) hi) (fun u i hu hi => hwas u i (hkp.trans hu) hi))
  have HM := hide (made_of o N a b st)
  have HL0 := hide (Loc.of_below F hbW)
  have HOK := hide hok
  have HNA : Hid (∀ F' u, Loc F F' W u → u.heap[w.heap.size]? = some (.cells #[.pointer (some ⟨q, 0, none⟩), .int .i64 (o : Int), .int .i64 (N : Int)] 163 (0, 0))) := fun F' u hl => (hl.block _ (by omega) (fun hf => by have := hF _ hf; omega)).trans harea
  have HLL := hide (lay_len o N a b st hok)
  have HN := hide hlo
  clear hok hnow hwas hbW harea hkp
  by_cases h0 : (puts o (prs N a b) 0 st).1 = 0
  · by_cases h1 : df a b N = []
    · have hdec : decide ((puts o (prs N a b) 0 st).1 = 0 ∧ df a b N ≠ []) = false := decide_eq_false (fun h => h.2 h1)
      have HA := hide (HM.out.2.1 h0 h1)
      clear hlo
      unfold LaidOut at KL
      rw [hdec, h0] at KL
      generalize made o (prs N a b) st = M at *
      generalize (puts o (prs N a b) 0 st).2 = S at *
      clear h0 h1 hdec
      go_enter Tryz.func147, Tryz.ntmps147
      go_wp2_with fail
      refine KL.out.mono ?_
      rintro e w1 ⟨rfl, F', hd, hloc⟩
      have HD := hide hd
      have HLoc := hide hloc
      clear hd hloc
      go_wp2
      go_ret
      exact ⟨by rw [HA.out]; rfl, F', by rw [HA.out]; exact HD.out, HL0.out.trans HLoc.out⟩
    · have hdec : decide ((puts o (prs N a b) 0 st).1 = 0 ∧ df a b N ≠ []) = true := decide_eq_true ⟨h0, h1⟩
      have HA := hide (HM.out.2.2 h0 h1)
      have HS := hide HLL.out
      clear hlo
      unfold LaidOut at KL
      rw [hdec, h0] at KL
      generalize made o (prs N a b) st = M at *
      generalize (puts o (prs N a b) 0 st).2 = S at *
      clear h0 h1 hdec
      go_enter Tryz.func147, Tryz.ntmps147
      go_wp2_with fail
      refine KL.out.mono ?_
      rintro e w1 ⟨rfl, F', hd, hloc⟩
      have HD := hide hd
      have HLoc := hide hloc
      have hq : w1.cell? ⟨w.heap.size, 0, none⟩ = some (.pointer (some ⟨q, 0, none⟩)) := by simp [World.cell?, HNA.out F' w1 hloc]
      have KS := hide (con.sync q S F' w1 hd HS.out.1 (by have := HS.out.2; have := HN.out; omega))
      clear hd hloc
      go_wp2_with fail
      refine KS.out.mono ?_
      rintro e w2 ⟨rfl, F2, hd2, hloc2⟩
      have HD2 := hide hd2
      have HLoc2 := hide hloc2
      clear hd2 hloc2
      go_wp2
      go_ret
      exact ⟨by rw [HA.out]; rfl, F2, by rw [HA.out]; exact HD2.out, (HL0.out.trans HLoc.out).trans HLoc2.out⟩
  · have hdec : decide ((puts o (prs N a b) 0 st).1 = 0 ∧ df a b N ≠ []) = false := decide_eq_false (fun h => h0 h.1)
    have HA := hide (HM.out.1 h0)
    have hez : ¬ ((((puts o (prs N a b) 0 st).1 : Nat) : Int) = 0) := by omega
    clear hlo
    unfold LaidOut at KL
    rw [hdec] at KL
    generalize made o (prs N a b) st = M at *
    generalize (puts o (prs N a b) 0 st) = S at *
    clear h0 hdec
    go_enter Tryz.func147, Tryz.ntmps147
    go_wp2_with fail
    refine KL.out.mono ?_
    rintro e w1 ⟨rfl, F', hd, hloc⟩
    have HD := hide hd
    have HLoc := hide hloc
    clear hd hloc
    go_wp2
    go_ret
    exact ⟨by rw [HA.out]; rfl, F', by rw [HA.out]; exact HD.out, HL0.out.trans HLoc.out⟩
end Go.Proofs.YtchhojkhfdkhfaaGreatDoor
namespace Go.Proofs.YtchhojkhfdkhfaaGreatDoor
open Frm
/-- Blocks, up to the first whose count is short. -/
def upTo : List ByteArray → List ByteArray
  | [] => []
  | b :: l => if countOf b < 255 then [b] else b :: upTo l
/-- What counts in blocks, one behind the other. -/
def heads : List ByteArray → ByteArray
  | [] => noText
  | b :: l => b.extract 0 (countOf b) ++ heads l
theorem heads_upTo : ∀ (l : List ByteArray), heads (upTo l) = streamOf l
  | [] => rfl
  | b :: l => by
    unfold upTo streamOf
    split
    · show b.extract 0 (countOf b) ++ noText = _
      apply bytesOf_inj
      simp [bytesOf, noText]
    · show b.extract 0 (countOf b) ++ heads (upTo l) = _
      rw [heads_upTo l]
theorem heads_append : ∀ (l m : List ByteArray), heads (l ++ m) = heads l ++ heads m
  | [], m => by
    show heads m = noText ++ heads m
    apply ByteArray.ext
    simp [noText, ByteArray.data_append]
  | b :: l, m => by
    show b.extract 0 (countOf b) ++ heads (l ++ m) = b.extract 0 (countOf b) ++ heads l ++ heads m
    rw [heads_append l m, ByteArray.append_assoc]
theorem heads_size : ∀ (l : List ByteArray), (∀ b ∈ l, b.size = 256) → (heads l).size ≤ l.length * 255
  | [], _ => Nat.zero_le _
  | b :: l, h => by
    show (b.extract 0 (countOf b) ++ heads l).size ≤ _
    rw [ByteArray.size_append, ByteArray.size_extract, List.length_cons]
    have := heads_size l (fun x hx => h x (List.mem_cons_of_mem _ hx))
    have := countOf_le b
    omega
/-- Where it stops. -/
theorem upTo_at : ∀ (l : List ByteArray) (k : Nat) (h : k < l.length), (∀ j (hj : j < k), ¬ countOf (l[j]'(by omega)) < 255) → countOf l[k] < 255 → upTo l = l.take (k + 1)
  | [], _, h, _, _ => absurd h (by simp)
  | b :: l, 0, _, _, hc => by
    have hc' : countOf b < 255 := hc
    unfold upTo
    rw [if_pos hc']
    simp
  | b :: l, k + 1, h, hj, hc => by
    have h0 : ¬ countOf b < 255 := hj 0 (by omega)
    unfold upTo
    rw [if_neg h0, List.take_succ_cons, upTo_at l k (by simpa using h) (fun j hj' => hj (j + 1) (by omega)) hc]
theorem upTo_all : ∀ (l : List ByteArray), (∀ j (hj : j < l.length), ¬ countOf l[j] < 255) → upTo l = l
  | [], _ => rfl
  | b :: l, hj => by
    have h0 : ¬ countOf b < 255 := hj 0 (by simp)
    unfold upTo
    rw [if_neg h0, upTo_all l (fun j hj' => hj (j + 1) (by simpa using hj'))]
theorem upTo_prefix : ∀ (l : List ByteArray), upTo l = l.take (upTo l).length
  | [] => rfl
  | b :: l => by
    unfold upTo
    split
    · simp
    · rw [List.length_cons, List.take_succ_cons, ← upTo_prefix l]
theorem upTo_le : ∀ (l : List ByteArray), (upTo l).length ≤ l.length
  | [] => Nat.le_refl _
  | b :: l => by
    unfold upTo
    split
    · simp
    · have := upTo_le l; simp only [List.length_cons]; omega
theorem reads_length (st : St) (o n : Nat) : (reads st o n).length = n := by unfold reads; simp
theorem reads_at (st : St) (o n i : Nat) (h : i < (reads st o n).length) : (reads st o n)[i] = st.at (o + i) := by simp only [reads, List.getElem_map, List.getElem_range]
theorem at_size {st : St} (hok : st.Ok) (b : Nat) (hb : b < st.sure.length) : (st.at b).size = 256 := by
  unfold St.at
  have : ∀ (l : List (Nat × ByteArray)), (∀ w ∈ l, w.2.size = 256) → (stands st.sure b l).size = 256 := by
    intro l
    induction l with
    | nil => intro _; exact getD_size hok.full b hb
    | cons w l ih =>
      intro h
      unfold stands
      split
      · exact h w (by simp)
      · exact ih (fun x hx => h x (List.mem_cons_of_mem _ hx))
  exact this _ (fun w hw => (hok.there w (List.mem_reverse.1 hw)).2)
theorem read_in {st : St} (b : Nat) (hb : b < st.sure.length) (h0 : st.left ≠ 0) : st.read (b : Int) = (st.at b, 0) := by
  unfold St.read St.at
  rw [if_neg h0, if_neg (fun h => h ⟨by omega, by omega⟩), Int.toNat_natCast]
theorem read_down {st : St} (b : Int) (h0 : st.left = 0) : st.read b = (noText, 50) := by
  unfold St.read
  rw [if_pos h0]
end Go.Proofs.YtchhojkhfdkhfaaGreatDoor
