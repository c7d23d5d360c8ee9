/- Package wal's Open: what lies in memory on its way. Package wal's Open. -/
import Derived.Test.YtelkccfjeinlcaaG1Mend
import Derived.Test.YtelkccfjeinlcaaG1Stream
namespace Go.Proofs.Ytelkccfjeinlcaa
open Go Go.RowKit Frm Go.Shelf
theorem OB_nil (k : Nat) : ¬ OB (.slice none 0 0) k := fun h => by cases h
theorem loc_nil {v : Value} {u w : World} (h : Loc (OB (.slice none 0 0)) (OB v) u w) : Below u.heap.size u w := ⟨h.os, h.tape, h.output, h.size, fun k hk => h.block k hk (OB_nil k)⟩
set_option maxRecDepth 10000 in
set_option maxHeartbeats 1000000 in
/-- A disk that stands still is not read. -/
theorem readOn_down (q o N : Nat) (st : St) (F : Nat → Prop) (w : World) (hD : DAt w q st F) (hok : st.Ok) (hl : st.loose.length ≤ 10000) (hN : o + N ≤ st.sure.length) (h1 : 1 ≤ N) (h0 : st.left = 0) :
    Calls Try.prog 40 #[.agg #[.pointer (some ⟨q, 0, none⟩), .int .i64 (o : Int), .int .i64 (N : Int)], .slice none 0 0, .func (.func 41) #[] #[]] w fun e w' => e = .returned (.tuple #[.slice none 0 0, .int .i64 50]) ∧ Below w.heap.size w w' := by
  have hfew := hok.few
  have hb : Below w.heap.size w (w.alloc (.cells #[.pointer (some ⟨q, 0, none⟩), .int .i64 (o : Int), .int .i64 (N : Int)] 87)) := (Below.refl _ _).alloc (Nat.le_refl _) _
  have KR : Hid (Calls Try.prog 67 #[.pointer (some ⟨q, 0, none⟩), .int .i64 (o : Int)] (w.alloc (.cells #[.pointer (some ⟨q, 0, none⟩), .int .i64 (o : Int), .int .i64 (N : Int)] 87)) fun e v => e = .returned (.tuple #[.string noText, .int .i64 50]) ∧ Below (w.alloc (.cells #[.pointer (some ⟨q, 0, none⟩), .int .i64 (o : Int), .int .i64 (N : Int)] 87)).heap.size (w.alloc (.cells #[.pointer (some ⟨q, 0, none⟩), .int .i64 (o : Int), .int .i64 (N : Int)] 87)) v) := by
    have := con.read q st F (o : Int) _ (con.below hD hb) hok hl (by omega)
    rw [read_down _ h0] at this
    exact this
  have hz : (0 : Int) < (N : Int) := by omega
  have hw : wrap64 (o : Int) = (o : Int) := by unfold wrap64; omega
  have HB := hide hb
  generalize noText = nt at *
  clear hb hD hok hl h0 hN
  go_enter Try.func40, Try.ntmps40
  go_wp2_with fail
  go_loopw [1, 8, 9, 10] (fun bv i _ _ wr => bv = .slice none 0 0 ∧ i = .int .i64 0 ∧ wr = w.alloc (.cells #[.pointer (some ⟨q, 0, none⟩), .int .i64 (o : Int), .int .i64 (N : Int)] 87)) (fun _ _ _ _ _ => 0)
  case atStart => exact ⟨rfl, rfl, rfl⟩
  case round =>
    obtain ⟨rfl, rfl, rfl⟩ := hrel
    go_wp2_with fail
    refine KR.out.mono ?_
    rintro e w1 ⟨rfl, hb1⟩
    have HB1 := hide (HB.out.trans (hb1.mono (by simp)))
    clear hb1
    go_wp2
    go_ret2
    exact ⟨rfl, HB1.out⟩
/-- Behind the two readings: all blocks, and the records that were found. -/
structure Got (w : World) (q o N : Nat) (st : St) (F : Nat → Prop) (W : World) (v vR : Value) : Prop where
  disk : DAt W q st F
  below : Below w.heap.size w W
  area : W.heap[w.heap.size]? = some (.cells #[.pointer (some ⟨q, 0, none⟩), .int .i64 (o : Int), .int .i64 (N : Int)] 87 (0, 0))
  blocks : OwnL W 0 v (reads st o N)
  newB : ∀ k, OB v k → w.heap.size < k
  recs : OwnL W (w.heap.size + 1) vR (scn (streamOf (reads st o N))).1
theorem own_kept {w u : World} {b : Nat} {v : Value} {l : List ByteArray} (h : OwnL w b v l) (hb : ∀ k, OB v k → u.heap[k]? = w.heap[k]?) : OwnL u b v l := own_same h (fun g hg => hb g hg)
theorem own_up {w : World} {b b' : Nat} {v : Value} {l : List ByteArray} (h : OwnL w b v l) (hb : ∀ k, OB v k → b' ≤ k) : OwnL w b' v l := by
  refine ⟨h.1, ?_⟩
  rcases h.2 with h0 | ⟨g, cap, cur, rfl, h1, hg, hr⟩
  · exact Or.inl h0
  · exact Or.inr ⟨g, cap, cur, rfl, hb g rfl, hg, hr⟩
theorem own_ge {w : World} {b : Nat} {v : Value} {l : List ByteArray} (h : OwnL w b v l) {k : Nat} (hk : OB v k) : b ≤ k := (World.ownsRow.lt h k hk).1
/-- The second reading leaves the records where they were. -/
theorem Got.mk' {w W w2 w3 w4 w5 : World} {q o N : Nat} {st : St} {F : Nat → Prop} {v v' vR : Value} (hD : DAt W q st F) (hF : ∀ k, F k → k < w.heap.size) (hb : Below w.heap.size w W) (hsz : W.heap.size = w.heap.size + 1) (ha : W.heap[w.heap.size]? = some (.cells #[.pointer (some ⟨q, 0, none⟩), .int .i64 (o : Int), .int .i64 (N : Int)] 87 (0, 0)))
    (h2 : Loc (OB (.slice none 0 0)) (OB v) W w2) (hv : OwnL w2 0 v (upTo (reads st o N))) (h3 : Below w2.heap.size w2 w3) (h4 : Below w3.heap.size w3 w4) (hR : OwnL w4 w3.heap.size vR (scn (streamOf (reads st o N))).1)
    (h5 : Loc (OB v) (OB v') w4 w5) (hv' : OwnL w5 0 v' (reads st o N)) : Got w q o N st F w5 v' vR := by
  have b2 := loc_nil h2
  have b4 : Below W.heap.size W w4 := (b2.trans (h3.mono b2.size)).trans (h4.mono (Nat.le_trans b2.size h3.size))
  have hvn : ∀ k, OB v k → W.heap.size ≤ k := fun k hk => by
    rcases h2.own k hk with h | h
    · exact absurd h (OB_nil k)
    · exact h
  have keep : ∀ k, k < W.heap.size → w5.heap[k]? = W.heap[k]? := fun k hk => (h5.block k (Nat.lt_of_lt_of_le hk b4.size) (fun ho => by have := hvn k ho; omega)).trans (b4.block k hk)
  refine ⟨con.same hD (fun k hk => keep k (by have := hF k hk; omega)), ⟨h5.os.trans (b4.os.trans hb.os), h5.tape.trans (b4.tape.trans hb.tape), h5.output.trans (b4.output.trans hb.output), by have := h5.size; have := b4.size; have := hb.size; omega, fun k hk => (keep k (by omega)).trans (hb.block k hk)⟩, (keep _ (by omega)).trans ha, hv', fun k hk => ?_, ?_⟩
  · rcases h5.own k hk with h | h
    · have := hvn k h; omega
    · have := b4.size; omega
  · have hsz3 : w.heap.size + 1 ≤ w3.heap.size := by have := b2.size; have := h3.size; omega
    refine own_kept (own_up hR (fun k hk => Nat.le_trans hsz3 (own_ge hR hk))) (fun k hk => h5.block k (World.ownsRow.lt hR k hk).2 (fun ho => ?_))
    have e1 := own_ge hR hk
    have e2 : k < w2.heap.size := own_lt0 hv ho
    have := h3.size
    omega
end Go.Proofs.Ytelkccfjeinlcaa
namespace Go.Proofs.Ytelkccfjeinlcaa
open Go Go.RowKit Frm Go.Shelf
/-- There is no log. -/
def NoLog (q : Nat) (st : St) (F : Nat → Prop) (w : World) (x : Int) (e : Ending) (w' : World) : Prop := e = .returned (.tuple #[.pointer none, .slice none 0 0, .int .i64 x]) ∧ ∃ F', DAt w' q st F' ∧ Loc F F' w w'
set_option maxRecDepth 10000 in
set_option maxHeartbeats 1000000 in
theorem open_not (q : Nat) (o n : Int) (st : St) (F : Nat → Prop) (w : World) (hD : DAt w q st F) (hok : st.Ok) (hn : -9223372036854775808 ≤ n ∧ n ≤ 9223372036854775807) (hmay : ¬ st.may o n) :
    Calls Try.prog 19 #[.pointer (some ⟨q, 0, none⟩), .int .i64 o, .int .i64 n] w (NoLog q st F w 2) := by
  have hb := (Below.refl w.heap.size w).alloc (Nat.le_refl _) (.cells #[.pointer (some ⟨q, 0, none⟩), .int .i64 o, .int .i64 n] 87)
  have KF := hide (fault_any q o n st F _ (con.below hD hb) hok hn)
  rw [if_neg hmay] at KF
  have HB := hide hb
  have HD := hide hD
  clear hb hD hok hn hmay
  go_enter Try.func19, Try.ntmps19
  go_wp2_with fail
  refine KF.out.mono ?_
  rintro e w1 ⟨rfl, hb1⟩
  have HB1 := hide (HB.out.trans (hb1.mono (by simp)))
  clear hb1
  go_wp2
  go_ret3
  exact ⟨rfl, F, con.below HD.out HB1.out, Loc.of_below F HB1.out⟩
set_option maxRecDepth 10000 in
set_option maxHeartbeats 1000000 in
theorem open_nil (o n : Int) (w : World) : Calls Try.prog 19 #[.pointer none, .int .i64 o, .int .i64 n] w fun e w' => e = .returned (.tuple #[.pointer none, .slice none 0 0, .int .i64 1]) ∧ Below w.heap.size w w' := by
  have hb := (Below.refl w.heap.size w).alloc (Nat.le_refl _) (.cells #[.pointer none, .int .i64 o, .int .i64 n] 87)
  have KF := hide (fault_nil o n (w.alloc (.cells #[.pointer none, .int .i64 o, .int .i64 n] 87)))
  have HB := hide hb
  clear hb
  go_enter Try.func19, Try.ntmps19
  go_wp2_with fail
  refine KF.out.mono ?_
  rintro e w1 ⟨rfl, hb1⟩
  have HB1 := hide (HB.out.trans (hb1.mono (by simp)))
  clear hb1
  go_wp2
  go_ret3
  exact ⟨rfl, HB1.out⟩
set_option maxRecDepth 10000 in
set_option maxHeartbeats 1000000 in
theorem open_down (q o N : Nat) (st : St) (F : Nat → Prop) (w : World) (hD : DAt w q st F) (hok : st.Ok) (hl : st.loose.length + N + N ≤ 10000) (hN : o + N ≤ st.sure.length) (h1 : 1 ≤ N) (hN2 : N ≤ 200) (h0 : st.left = 0) : Calls Try.prog 19 #[.pointer (some ⟨q, 0, none⟩), .int .i64 (o : Int), .int .i64 (N : Int)] w (NoLog q st F w 50) := by
  have hfew := hok.few
  have hF := con.lt hD
  obtain ⟨W, hW⟩ : ∃ W, w.alloc (.cells #[.pointer (some ⟨q, 0, none⟩), .int .i64 (o : Int), .int .i64 (N : Int)] 87) = W := ⟨_, rfl⟩
  have hbW : Below w.heap.size w W := by rw [← hW]; exact (Below.refl _ _).alloc (Nat.le_refl _) _
  have hszW : W.heap.size = w.heap.size + 1 := by rw [← hW]; simp
  have harea : W.heap[w.heap.size]? = some (.cells #[.pointer (some ⟨q, 0, none⟩), .int .i64 (o : Int), .int .i64 (N : Int)] 87 (0, 0)) := by rw [← hW]; exact World.alloc_heap_new w _
  have hc0 : W.cell? ⟨w.heap.size, 0, none⟩ = some (.pointer (some ⟨q, 0, none⟩)) := by simp [World.cell?, harea]
  have hc1 : W.cell? ⟨w.heap.size, 1, none⟩ = some (.int .i64 (o : Int)) := by simp [World.cell?, harea]
  have hc2 : W.cell? ⟨w.heap.size, 2, none⟩ = some (.int .i64 (N : Int)) := by simp [World.cell?, harea]
  have hmay : st.may (o : Int) (N : Int) := by unfold St.may; omega
  have KF : Hid (Calls Try.prog 38 #[.agg #[.pointer (some ⟨q, 0, none⟩), .int .i64 (o : Int), .int .i64 (N : Int)]] W fun e w' => e = .returned (.int .i64 0) ∧ Below W.heap.size W w') := by
    have := fault_any q (o : Int) (N : Int) st F W (con.below hD hbW) hok (by omega)
    rw [if_pos hmay] at this
    exact this
  have HCL : Hid (∀ u, Below W.heap.size W u → u.cell? ⟨w.heap.size, 0, none⟩ = some (.pointer (some ⟨q, 0, none⟩)) ∧ u.cell? ⟨w.heap.size, 1, none⟩ = some (.int .i64 (o : Int)) ∧ u.cell? ⟨w.heap.size, 2, none⟩ = some (.int .i64 (N : Int)) ∧ DAt u q st F) := fun u hu => ⟨cellB hu hc0, cellB hu hc1, cellB hu hc2, con.below (con.below hD hbW) hu⟩
  have HBW := hide hbW
  have KR : Hid (∀ u, DAt u q st F → Calls Try.prog 40 #[.agg #[.pointer (some ⟨q, 0, none⟩), .int .i64 (o : Int), .int .i64 (N : Int)], .slice none 0 0, .func (.func 41) #[] #[]] u fun e w' => e = .returned (.tuple #[.slice none 0 0, .int .i64 50]) ∧ Below u.heap.size u w') := fun u hu => readOn_down q o N st F u hu hok (by omega) hN h1 h0
  have HD := hide hD
  clear hD hok hl hN h0 hbW harea hmay hF
  go_enter Try.func19, Try.ntmps19
  go_wp2_with fail
  refine KF.out.mono ?_
  rintro e w1 ⟨rfl, hb1⟩
  obtain ⟨q0, q1, q2, hd1⟩ := HCL.out w1 hb1
  have K2 := hide (KR.out w1 hd1)
  have HB1 := hide (HBW.out.trans (hb1.mono (by omega)))
  clear hb1 hd1
  go_wp2_with fail
  refine K2.out.mono ?_
  rintro e w2 ⟨rfl, hb2⟩
  have HB2 := hide (bnext HB1.out (hb2.mono (Nat.le_refl _)))
  clear hb2
  go_wp2
  go_ret3
  exact ⟨rfl, F, con.below HD.out HB2.out, Loc.of_below F HB2.out⟩
/-- Behind the first reading nothing but memory was made. -/
theorem till4 {w W w1 w2 w3 w4 : World} {v : Value} (hb : Below w.heap.size w W) (h1 : Below W.heap.size W w1) (h2 : Loc (OB (.slice none 0 0)) (OB v) w1 w2) (h3 : Below w2.heap.size w2 w3) (h4 : Below w3.heap.size w3 w4) : Below w.heap.size w w4 :=
  bnext (bnext (bnext (bnext hb h1) (loc_nil h2)) h3) h4
theorem till4b {W w1 w2 w3 w4 : World} {v : Value} (h1 : Below W.heap.size W w1) (h2 : Loc (OB (.slice none 0 0)) (OB v) w1 w2) (h3 : Below w2.heap.size w2 w3) (h4 : Below w3.heap.size w3 w4) : Below W.heap.size W w4 ∧ ∀ k, OB v k → W.heap.size ≤ k :=
  ⟨bnext (bnext (bnext h1 (loc_nil h2)) h3) h4, fun k hk => by
    rcases h2.own k hk with h | h
    · exact absurd h (OB_nil k)
    · exact Nat.le_trans h1.size h⟩
theorem Got.c0 {w : World} {q o N : Nat} {st : St} {F : Nat → Prop} {W : World} {v vR : Value} (h : Got w q o N st F W v vR) : W.cell? ⟨w.heap.size, 0, none⟩ = some (.pointer (some ⟨q, 0, none⟩)) := by simp [World.cell?, h.area]
theorem Got.c1 {w : World} {q o N : Nat} {st : St} {F : Nat → Prop} {W : World} {v vR : Value} (h : Got w q o N st F W v vR) : W.cell? ⟨w.heap.size, 1, none⟩ = some (.int .i64 (o : Int)) := by simp [World.cell?, h.area]
theorem Got.c2 {w : World} {q o N : Nat} {st : St} {F : Nat → Prop} {W : World} {v vR : Value} (h : Got w q o N st F W v vR) : W.cell? ⟨w.heap.size, 2, none⟩ = some (.int .i64 (N : Int)) := by simp [World.cell?, h.area]
theorem Got.lt {w : World} {q o N : Nat} {st : St} {F : Nat → Prop} {W : World} {v vR : Value} (h : Got w q o N st F W v vR) : w.heap.size < W.heap.size := (Array.getElem?_eq_some_iff.1 h.area).1
theorem Got.area6 {w : World} {q o N : Nat} {st : St} {F F' : Nat → Prop} {W u : World} {v vR : Value} (h : Got w q o N st F W v vR) (hF : ∀ k, F k → k < w.heap.size) (hl : Loc F F' W u) : u.cell? ⟨w.heap.size, 0, none⟩ = some (.pointer (some ⟨q, 0, none⟩)) ∧ u.cell? ⟨w.heap.size, 1, none⟩ = some (.int .i64 (o : Int)) ∧ u.cell? ⟨w.heap.size, 2, none⟩ = some (.int .i64 (N : Int)) := by
  have e : u.heap[w.heap.size]? = _ := (hl.block _ h.lt (fun hf => by have := hF _ hf; omega)).trans h.area
  exact ⟨by simp [World.cell?, e], by simp [World.cell?, e], by simp [World.cell?, e]⟩
theorem bgrow {w u : World} (h : Below w.heap.size w u) (ob : Obj) : Below w.heap.size w (u.alloc ob) := h.alloc h.size ob
/-- There is a log, with these records. -/
def HasLog (q o N : Nat) (s : ByteArray) (recs : List ByteArray) (st : St) (F : Nat → Prop) (w : World) (e : Ending) (w' : World) : Prop :=
  ∃ p vR F', e = .returned (.tuple #[.pointer (some ⟨p, 0, none⟩), vR, .int .i64 0]) ∧ LAt w' p q o N s false ∧ w.heap.size ≤ p ∧ OwnL w' w.heap.size vR recs ∧ DAt w' q st F' ∧ Loc F F' w w' ∧ ¬ F' p ∧ (∀ k, F' k → ¬ OB vR k) ∧ ¬ OB vR p
theorem open_end {w w5 w6 w7 : World} {q o N gd : Nat} {st stm : St} {F F6 : Nat → Prop} {v vR : Value} {kp : ByteArray} (hg : Got w q o N st F w5 v vR) (hF : ∀ k, F k → k < w.heap.size) (hl6 : Loc F F6 w5 w6) (hd6 : DAt w6 q stm F6) (hb7 : Below w6.drew.heap.size w6.drew w7) (hs : kp.size = gd) :
    HasLog q o N kp (scn (streamOf (reads st o N))).1 stm F w (.returned (.tuple #[.pointer (some ⟨w7.heap.size, 0, none⟩), vR, .int .i64 0])) (w7.alloc (.cells #[.pointer (some ⟨q, 0, none⟩), .int .i64 (o : Int), .int .i64 (N : Int), .int .i64 (gd : Int), .string (tailOf kp), .bool false] 89)) := by
  subst hs
  have b7 : Below w6.heap.size w6 w7 := ⟨hb7.os, hb7.tape, hb7.output, hb7.size, hb7.block⟩
  have hsz : w.heap.size < w7.heap.size := by have := hg.lt; have := hl6.size; have := b7.size; omega
  have b8 : Below w6.heap.size w6 (w7.alloc (.cells #[.pointer (some ⟨q, 0, none⟩), .int .i64 (o : Int), .int .i64 (N : Int), .int .i64 (kp.size : Int), .string (tailOf kp), .bool false] 89)) := b7.alloc b7.size _
  have h7 := b7.size
  refine ⟨w7.heap.size, vR, F6, rfl, World.alloc_heap_new w7 _, by omega, ?_, con.below hd6 b8, ?_, fun hf => by have := con.lt hd6 _ hf; omega, fun k hf ho => ?_, fun ho => ?_⟩
  · refine own_kept (own_up hg.recs (fun k hk => by have := own_ge hg.recs hk; omega)) (fun k hk => ?_)
    have e1 := own_ge hg.recs hk
    have e2 := (World.ownsRow.lt hg.recs k hk).2
    rw [b8.block k (by have := hl6.size; omega), hl6.block k e2 (fun hf => by have := hF k hf; omega)]
  · exact (Loc.of_below F hg.below).trans (hl6.trans (Loc.of_below F6 b8))
  · have e1 := own_ge hg.recs ho
    have e2 := (World.ownsRow.lt hg.recs k ho).2
    rcases hl6.own k hf with h | h
    · have := hF k h; omega
    · omega
  · have e2 := (World.ownsRow.lt hg.recs _ ho).2
    have := hl6.size
    omega
set_option maxRecDepth 10000 in
set_option maxHeartbeats 1000000 in
theorem open_bad41 (q o N : Nat) (st : St) (F : Nat → Prop) (w : World) (hD : DAt w q st F) (hok : st.Ok) (hl : st.loose.length + N + N ≤ 10000) (hN : o + N ≤ st.sure.length) (h1 : 1 ≤ N) (hN2 : N ≤ 200) (h0 : st.left ≠ 0) (hx : (scn (streamOf (reads st o N))).2.2 = 41) : Calls Try.prog 19 #[.pointer (some ⟨q, 0, none⟩), .int .i64 (o : Int), .int .i64 (N : Int)] w (NoLog q st F w 60) := by
  have hfew := hok.few
  have hF := con.lt hD
  obtain ⟨W, hW⟩ : ∃ W, w.alloc (.cells #[.pointer (some ⟨q, 0, none⟩), .int .i64 (o : Int), .int .i64 (N : Int)] 87) = W := ⟨_, rfl⟩
  have hbW : Below w.heap.size w W := by rw [← hW]; exact (Below.refl _ _).alloc (Nat.le_refl _) _
  have hszW : W.heap.size = w.heap.size + 1 := by rw [← hW]; simp
  have harea : W.heap[w.heap.size]? = some (.cells #[.pointer (some ⟨q, 0, none⟩), .int .i64 (o : Int), .int .i64 (N : Int)] 87 (0, 0)) := by rw [← hW]; exact World.alloc_heap_new w _
  have hc0 : W.cell? ⟨w.heap.size, 0, none⟩ = some (.pointer (some ⟨q, 0, none⟩)) := by simp [World.cell?, harea]
  have hc1 : W.cell? ⟨w.heap.size, 1, none⟩ = some (.int .i64 (o : Int)) := by simp [World.cell?, harea]
  have hc2 : W.cell? ⟨w.heap.size, 2, none⟩ = some (.int .i64 (N : Int)) := by simp [World.cell?, harea]
  have hmay : st.may (o : Int) (N : Int) := by unfold St.may; omega
  have KF : Hid (Calls Try.prog 38 #[.agg #[.pointer (some ⟨q, 0, none⟩), .int .i64 (o : Int), .int .i64 (N : Int)]] W fun e w' => e = .returned (.int .i64 0) ∧ Below W.heap.size W w') := by
    have := fault_any q (o : Int) (N : Int) st F W (con.below hD hbW) hok (by omega)
    rw [if_pos hmay] at this
    exact this
  have HCL : Hid (∀ u, Below W.heap.size W u → u.cell? ⟨w.heap.size, 0, none⟩ = some (.pointer (some ⟨q, 0, none⟩)) ∧ u.cell? ⟨w.heap.size, 1, none⟩ = some (.int .i64 (o : Int)) ∧ u.cell? ⟨w.heap.size, 2, none⟩ = some (.int .i64 (N : Int)) ∧ DAt u q st F) := fun u hu => ⟨cellB hu hc0, cellB hu hc1, cellB hu hc2, con.below (con.below hD hbW) hu⟩
  have HBW := hide hbW
  have hRd : ∀ b ∈ reads st o N, b.size = 256 := fun b hb => by
    obtain ⟨i, hi, rfl⟩ := List.getElem_of_mem hb
    rw [reads_at]
    rw [reads_length] at hi
    exact at_size hok _ (by omega)
  have hUp : ∀ b ∈ upTo (reads st o N), b.size = 256 := fun b hb => by
    rw [upTo_prefix] at hb
    exact hRd b (List.mem_of_mem_take hb)
  have hUl : (upTo (reads st o N)).length ≤ N := by have := upTo_le (reads st o N); rw [reads_length] at this; exact this
  have hSs : (streamOf (reads st o N)).size ≤ 65536 := by
    have := heads_size (upTo (reads st o N)) hUp
    rw [heads_upTo] at this
    have : (upTo (reads st o N)).length * 255 ≤ 200 * 255 := by omega
    omega
  have K1 : Hid (∀ u, DAt u q st F → Calls Try.prog 40 #[.agg #[.pointer (some ⟨q, 0, none⟩), .int .i64 (o : Int), .int .i64 (N : Int)], .slice none 0 0, .func (.func 41) #[] #[]] u fun e w' => ∃ bv, e = .returned (.tuple #[bv, .int .i64 0]) ∧ OwnL w' 0 bv (upTo (reads st o N)) ∧ Loc (OB (.slice none 0 0)) (OB bv) u w') := fun u hu => readOn_ends q o N (.slice none 0 0) [] st F u hu hok (by omega) hN h0 (World.ownsRow_nil _ _ _ _) rfl (Nat.zero_le _) (fun k _ => OB_nil k) (fun j hj => absurd hj (by simp))
  have K2 : Hid (∀ a c u, StrsAt u a (upTo (reads st o N)) → Calls Try.prog 42 #[.slice a (upTo (reads st o N)).length c] u fun e w' => e = .returned (.string (streamOf (reads st o N))) ∧ Below u.heap.size u w') := fun a c u hu => by
    have := stream_any (upTo (reads st o N)) a c u hu hUp (by omega)
    rw [heads_upTo] at this
    exact this
  have K3 : Hid (∀ u, Calls Try.prog 43 #[.string (streamOf (reads st o N))] u fun e w' => ∃ a c, e = .returned (.tuple #[.slice a (scn (streamOf (reads st o N))).1.length c, .int .i64 (((scn (streamOf (reads st o N))).2.1 : Nat) : Int), .int .i64 (((scn (streamOf (reads st o N))).2.2 : Nat) : Int)]) ∧ OwnL w' u.heap.size (.slice a (scn (streamOf (reads st o N))).1.length c) (scn (streamOf (reads st o N))).1 ∧ Below u.heap.size u w') := fun u => scan_any (streamOf (reads st o N)) u hSs
  have HD := hide hD
  rw [hx] at K3
  clear hD hok hl hN h0 hbW harea hmay hRd hUp hUl hSs hF hx
  generalize upTo (reads st o N) = U at *
  generalize (scn (streamOf (reads st o N))).1 = R at *
  generalize (scn (streamOf (reads st o N))).2.1 = gd at *
  generalize streamOf (reads st o N) = S at *
  go_enter Try.func19, Try.ntmps19
  go_wp2_with fail
  refine KF.out.mono ?_
  rintro e w1 ⟨rfl, hb1⟩
  obtain ⟨q0, q1, q2, hd1⟩ := HCL.out w1 hb1
  have K1a := hide (K1.out w1 hd1)
  have HB1 := hide hb1
  clear hb1 hd1
  go_wp2_with fail
  refine K1a.out.mono ?_
  rintro e w2 ⟨bv, rfl, hv, hl2⟩
  obtain ⟨a2, c2, rfl, hs2⟩ := hv.strs
  have K2a := hide (K2.out a2 c2 w2 hs2)
  have HV := hide hv
  have HL2 := hide hl2
  clear hv hl2 hs2
  go_wp2_with fail
  refine K2a.out.mono ?_
  rintro e w3 ⟨rfl, hb3⟩
  have K3a := hide (K3.out w3)
  have HB3 := hide hb3
  clear hb3
  go_wp2_with fail
  refine K3a.out.mono ?_
  rintro e w4 ⟨a4, c4, rfl, hR4, hb4⟩
  have HR4 := hide hR4
  have HB4 := hide hb4
  clear hR4 hb4
  have HBE := hide (till4 HBW.out HB1.out HL2.out HB3.out HB4.out)
  go_wp2
  go_ret3
  exact ⟨rfl, F, con.below HD.out HBE.out, Loc.of_below F HBE.out⟩
set_option maxRecDepth 10000 in
set_option maxHeartbeats 1000000 in
theorem open_bad4 (q o N : Nat) (st : St) (F : Nat → Prop) (w : World) (hD : DAt w q st F) (hok : st.Ok) (hl : st.loose.length + N + N ≤ 10000) (hN : o + N ≤ st.sure.length) (h1 : 1 ≤ N) (hN2 : N ≤ 200) (h0 : st.left ≠ 0) (hx : (scn (streamOf (reads st o N))).2.2 = 4) : Calls Try.prog 19 #[.pointer (some ⟨q, 0, none⟩), .int .i64 (o : Int), .int .i64 (N : Int)] w (NoLog q st F w 60) := by
  have hfew := hok.few
  have hF := con.lt hD
  obtain ⟨W, hW⟩ : ∃ W, w.alloc (.cells #[.pointer (some ⟨q, 0, none⟩), .int .i64 (o : Int), .int .i64 (N : Int)] 87) = W := ⟨_, rfl⟩
  have hbW : Below w.heap.size w W := by rw [← hW]; exact (Below.refl _ _).alloc (Nat.le_refl _) _
  have hszW : W.heap.size = w.heap.size + 1 := by rw [← hW]; simp
  have harea : W.heap[w.heap.size]? = some (.cells #[.pointer (some ⟨q, 0, none⟩), .int .i64 (o : Int), .int .i64 (N : Int)] 87 (0, 0)) := by rw [← hW]; exact World.alloc_heap_new w _
  have hc0 : W.cell? ⟨w.heap.size, 0, none⟩ = some (.pointer (some ⟨q, 0, none⟩)) := by simp [World.cell?, harea]
  have hc1 : W.cell? ⟨w.heap.size, 1, none⟩ = some (.int .i64 (o : Int)) := by simp [World.cell?, harea]
  have hc2 : W.cell? ⟨w.heap.size, 2, none⟩ = some (.int .i64 (N : Int)) := by simp [World.cell?, harea]
  have hmay : st.may (o : Int) (N : Int) := by unfold St.may; omega
  have KF : Hid (Calls Try.prog 38 #[.agg #[.pointer (some ⟨q, 0, none⟩), .int .i64 (o : Int), .int .i64 (N : Int)]] W fun e w' => e = .returned (.int .i64 0) ∧ Below W.heap.size W w') := by
    have := fault_any q (o : Int) (N : Int) st F W (con.below hD hbW) hok (by omega)
    rw [if_pos hmay] at this
    exact this
  have HCL : Hid (∀ u, Below W.heap.size W u → u.cell? ⟨w.heap.size, 0, none⟩ = some (.pointer (some ⟨q, 0, none⟩)) ∧ u.cell? ⟨w.heap.size, 1, none⟩ = some (.int .i64 (o : Int)) ∧ u.cell? ⟨w.heap.size, 2, none⟩ = some (.int .i64 (N : Int)) ∧ DAt u q st F) := fun u hu => ⟨cellB hu hc0, cellB hu hc1, cellB hu hc2, con.below (con.below hD hbW) hu⟩
  have HBW := hide hbW
  have hRd : ∀ b ∈ reads st o N, b.size = 256 := fun b hb => by
    obtain ⟨i, hi, rfl⟩ := List.getElem_of_mem hb
    rw [reads_at]
    rw [reads_length] at hi
    exact at_size hok _ (by omega)
  have hUp : ∀ b ∈ upTo (reads st o N), b.size = 256 := fun b hb => by
    rw [upTo_prefix] at hb
    exact hRd b (List.mem_of_mem_take hb)
  have hUl : (upTo (reads st o N)).length ≤ N := by have := upTo_le (reads st o N); rw [reads_length] at this; exact this
  have hSs : (streamOf (reads st o N)).size ≤ 65536 := by
    have := heads_size (upTo (reads st o N)) hUp
    rw [heads_upTo] at this
    have : (upTo (reads st o N)).length * 255 ≤ 200 * 255 := by omega
    omega
  have K1 : Hid (∀ u, DAt u q st F → Calls Try.prog 40 #[.agg #[.pointer (some ⟨q, 0, none⟩), .int .i64 (o : Int), .int .i64 (N : Int)], .slice none 0 0, .func (.func 41) #[] #[]] u fun e w' => ∃ bv, e = .returned (.tuple #[bv, .int .i64 0]) ∧ OwnL w' 0 bv (upTo (reads st o N)) ∧ Loc (OB (.slice none 0 0)) (OB bv) u w') := fun u hu => readOn_ends q o N (.slice none 0 0) [] st F u hu hok (by omega) hN h0 (World.ownsRow_nil _ _ _ _) rfl (Nat.zero_le _) (fun k _ => OB_nil k) (fun j hj => absurd hj (by simp))
  have K2 : Hid (∀ a c u, StrsAt u a (upTo (reads st o N)) → Calls Try.prog 42 #[.slice a (upTo (reads st o N)).length c] u fun e w' => e = .returned (.string (streamOf (reads st o N))) ∧ Below u.heap.size u w') := fun a c u hu => by
    have := stream_any (upTo (reads st o N)) a c u hu hUp (by omega)
    rw [heads_upTo] at this
    exact this
  have K3 : Hid (∀ u, Calls Try.prog 43 #[.string (streamOf (reads st o N))] u fun e w' => ∃ a c, e = .returned (.tuple #[.slice a (scn (streamOf (reads st o N))).1.length c, .int .i64 (((scn (streamOf (reads st o N))).2.1 : Nat) : Int), .int .i64 (((scn (streamOf (reads st o N))).2.2 : Nat) : Int)]) ∧ OwnL w' u.heap.size (.slice a (scn (streamOf (reads st o N))).1.length c) (scn (streamOf (reads st o N))).1 ∧ Below u.heap.size u w') := fun u => scan_any (streamOf (reads st o N)) u hSs
  have HD := hide hD
  rw [hx] at K3
  clear hD hok hl hN h0 hbW harea hmay hRd hUp hUl hSs hF hx
  generalize upTo (reads st o N) = U at *
  generalize (scn (streamOf (reads st o N))).1 = R at *
  generalize (scn (streamOf (reads st o N))).2.1 = gd at *
  generalize streamOf (reads st o N) = S at *
  go_enter Try.func19, Try.ntmps19
  go_wp2_with fail
  refine KF.out.mono ?_
  rintro e w1 ⟨rfl, hb1⟩
  obtain ⟨q0, q1, q2, hd1⟩ := HCL.out w1 hb1
  have K1a := hide (K1.out w1 hd1)
  have HB1 := hide hb1
  clear hb1 hd1
  go_wp2_with fail
  refine K1a.out.mono ?_
  rintro e w2 ⟨bv, rfl, hv, hl2⟩
  obtain ⟨a2, c2, rfl, hs2⟩ := hv.strs
  have K2a := hide (K2.out a2 c2 w2 hs2)
  have HV := hide hv
  have HL2 := hide hl2
  clear hv hl2 hs2
  go_wp2_with fail
  refine K2a.out.mono ?_
  rintro e w3 ⟨rfl, hb3⟩
  have K3a := hide (K3.out w3)
  have HB3 := hide hb3
  clear hb3
  go_wp2_with fail
  refine K3a.out.mono ?_
  rintro e w4 ⟨a4, c4, rfl, hR4, hb4⟩
  have HR4 := hide hR4
  have HB4 := hide hb4
  clear hR4 hb4
  have HBE := hide (till4 HBW.out HB1.out HL2.out HB3.out HB4.out)
  go_wp2
  go_ret3
  exact ⟨rfl, F, con.below HD.out HBE.out, Loc.of_below F HBE.out⟩
end Go.Proofs.Ytelkccfjeinlcaa
