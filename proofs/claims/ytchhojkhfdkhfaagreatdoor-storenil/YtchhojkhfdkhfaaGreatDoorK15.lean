/- Package wal's Open. Package wal's Open: a log is there. Package wal's Open: the disk stands still in its midst. Package wal's Append: a record is laid. Package wal's Append: the disk stands still in its midst. What package wal's calls do, whole. The document's own stores: Open. The document's own log: Append. -/
import Derived.Test.YtchhojkhfdkhfaaGreatDoorK14
import Derived.Test.YtchhojkhfdkhfaaGreatDoorK13
namespace Go.Proofs.YtchhojkhfdkhfaaGreatDoor
open Go Go.RowKit Frm Go.Shelf
/-- There is no log. -/
def NoLog (q : Nat) (st : St) (F : Nat → Prop) (w : World) (x : Int) (e : Ending) (w' : World) : Prop := e = .returned (.tuple #[.pointer none, .slice none 0 0, .int .i64 x]) ∧ ∃ F', DAt w' q st F' ∧ Loc F F' w w'
set_option maxRecDepth 10000 in
set_option maxHeartbeats 1000000 in
theorem open_down (q o N : Nat) (st : St) (F : Nat → Prop) (w : World) (hD : DAt w q st F) (hok : st.Ok) (hl : st.loose.length + N + N ≤ 10000) (hN : o + N ≤ st.sure.length) (h1 : 1 ≤ N) (hN2 : N ≤ 200) (h0 : st.left = 0) : Calls Tryz.prog 85 #[.pointer (some ⟨q, 0, none⟩), .int .i64 (o : Int), .int .i64 (N : Int)] w (NoLog q st F w 50) := by
  have hfew := hok.few
  have hF := con.lt hD
  obtain ⟨W, hW⟩ : ∃ W, w.alloc (.cells #[.pointer (some ⟨q, 0, none⟩), .int .i64 (o : Int), .int .i64 (N : Int)] 163) = W := ⟨_, rfl⟩
  have hbW : Below w.heap.size w W := by rw [← hW]; exact (Below.refl _ _).alloc (Nat.le_refl _) _
  have hszW : W.heap.size = w.heap.size + 1 := by rw [← hW]; simp
  have harea : W.heap[w.heap.size]? = some (.cells #[.pointer (some ⟨q, 0, none⟩), .int .i64 (o : Int), .int .i64 (N : Int)] 163 (0, 0)) := by rw [← hW]; exact World.alloc_heap_new w _
  have hc0 : W.cell? ⟨w.heap.size, 0, none⟩ = some (.pointer (some ⟨q, 0, none⟩)) := by simp [World.cell?, harea]
  have hc1 : W.cell? ⟨w.heap.size, 1, none⟩ = some (.int .i64 (o : Int)) := by simp [World.cell?, harea]
  have hc2 : W.cell? ⟨w.heap.size, 2, none⟩ = some (.int .i64 (N : Int)) := by simp [World.cell?, harea]
  have hmay : st.may (o : Int) (N : Int) := by unfold St.may; omega
  have KF : Hid (Calls Tryz.prog 105 #[.agg #[.pointer (some ⟨q, 0, none⟩), .int .i64 (o : Int), .int .i64 (N : Int)]] W fun e w' => e = .returned (.int .i64 0) ∧ Below W.heap.size W w') := by
    have := fault_any q (o : Int) (N : Int) st F W (con.below hD hbW) hok (by omega)
    rw [if_pos hmay] at this
    exact this
  have HCL : Hid (∀ u, Below W.heap.size W u → u.cell? ⟨w.heap.size, 0, none⟩ = some (.pointer (some ⟨q, 0, none⟩)) ∧ u.cell? ⟨w.heap.size, 1, none⟩ = some (.int .i64 (o : Int)) ∧ u.cell? ⟨w.heap.size, 2, none⟩ = some (.int .i64 (N : Int)) ∧ DAt u q st F) := fun u hu => ⟨cellB hu hc0, cellB hu hc1, cellB hu hc2, con.below (con.below hD hbW) hu⟩
  have HBW := hide hbW
  have KR : Hid (∀ u, DAt u q st F → Calls Tryz.prog 117 #[.agg #[.pointer (some ⟨q, 0, none⟩), .int .i64 (o : Int), .int .i64 (N : Int)], .slice none 0 0, .func (.func 118) #[] #[]] u fun e w' => e = .returned (.tuple #[.slice none 0 0, .int .i64 50]) ∧ Below u.heap.size u w') := fun u hu => readOn_down q o N st F u hu hok (by omega) hN h1 h0
  have HD := hide hD
  clear hD hok hl hN h0 hbW harea hmay hF
  go_enter Tryz.func85, Tryz.ntmps85
  go_wp2_with fail
  refine KF.out.mono ?_
  rintro e w1 ⟨rfl, hb1⟩
  obtain ⟨q0, q1, q2, hd1⟩ := HCL.out w1 hb1
  have K2 := hide (KR.out w1 hd1)
  have HB1 := hide (HBW.out.trans (hb1.mono (by omega)))
  clear hb1 hd1
  go_wp2_with fail
  refine K2.out.mono ?_
  rintro e w2 ⟨rfl, hb2⟩
  have HB2 := hide (bnext HB1.out (hb2.mono (Nat.le_refl _)))
  clear hb2
  go_wp2
  go_ret3
  exact ⟨rfl, F, con.below HD.out HB2.out, Loc.of_below F HB2.out⟩
/-- Behind the first reading nothing but memory was made. -/
theorem till4 {w W w1 w2 w3 w4 : World} {v : Value} (hb : Below w.heap.size w W) (h1 : Below W.heap.size W w1) (h2 : Loc (OB (.slice none 0 0)) (OB v) w1 w2) (h3 : Below w2.heap.size w2 w3) (h4 : Below w3.heap.size w3 w4) : Below w.heap.size w w4 :=
  bnext (bnext (bnext (bnext hb h1) (loc_nil h2)) h3) h4
theorem till4b {W w1 w2 w3 w4 : World} {v : Value} (h1 : Below W.heap.size W w1) (h2 : Loc (OB (.slice none 0 0)) (OB v) w1 w2) (h3 : Below w2.heap.size w2 w3) (h4 : Below w3.heap.size w3 w4) : Below W.heap.size W w4 ∧ ∀ k, OB v k → W.heap.size ≤ k :=
  ⟨bnext (bnext (bnext h1 (loc_nil h2)) h3) h4, fun k hk => by
    rcases h2.own k hk with h | h
    · exact absurd h (OB_nil k)
    · exact Nat.le_trans h1.size h⟩
theorem Got.c0 {w : World} {q o N : Nat} {st : St} {F : Nat → Prop} {W : World} {v vR : Value} (h : Got w q o N st F W v vR) : W.cell? ⟨w.heap.size, 0, none⟩ = some (.pointer (some ⟨q, 0, none⟩)) := by simp [World.cell?, h.area]
theorem Got.c1 {w : World} {q o N : Nat} {st : St} {F : Nat → Prop} {W : World} {v vR : Value} (h : Got w q o N st F W v vR) : W.cell? ⟨w.heap.size, 1, none⟩ = some (.int .i64 (o : Int)) := by simp [World.cell?, h.area]
theorem Got.c2 {w : World} {q o N : Nat} {st : St} {F : Nat → Prop} {W : World} {v vR : Value} (h : Got w q o N st F W v vR) : W.cell? ⟨w.heap.size, 2, none⟩ = some (.int .i64 (N : Int)) := by simp [World.cell?, h.area]
theorem Got.lt {w : World} {q o N : Nat} {st : St} {F : Nat → Prop} {W : World} {v vR : Value} (h : Got w q o N st F W v vR) : w.heap.size < W.heap.size := (Array.getElem?_eq_some_iff.1 h.area).1
theorem Got.area6 {w : World} {q o N : Nat} {st : St} {F F' : Nat → Prop} {W u : World} {v vR : Value} (h : Got w q o N st F W v vR) (hF : ∀ k, F k → k < w.heap.size) (hl : Loc F F' W u) : u.cell? ⟨w.heap.size, 0, none⟩ = some (.pointer (some ⟨q, 0, none⟩)) ∧ u.cell? ⟨w.heap.size, 1, none⟩ = some (.int .i64 (o : Int)) ∧ u.cell? ⟨w.heap.size, 2, none⟩ = some (.int .i64 (N : Int)) := by
  have e : u.heap[w.heap.size]? = _ := (hl.block _ h.lt (fun hf => by have := hF _ hf; omega)).trans h.area
  exact ⟨by simp [World.cell?, e], by simp [World.cell?, e], by simp [World.cell?, e]⟩
theorem bgrow {w u : World} (h : Below w.heap.size w u) (ob : Obj) : Below w.heap.size w (u.alloc ob) := h.alloc h.size ob
/-- There is a log, with these records. -/
def HasLog (q o N : Nat) (s : ByteArray) (recs : List ByteArray) (st : St) (F : Nat → Prop) (w : World) (e : Ending) (w' : World) : Prop :=
  ∃ p vR F', e = .returned (.tuple #[.pointer (some ⟨p, 0, none⟩), vR, .int .i64 0]) ∧ LAt w' p q o N s false ∧ w.heap.size ≤ p ∧ OwnL w' w.heap.size vR recs ∧ DAt w' q st F' ∧ Loc F F' w w' ∧ ¬ F' p ∧ (∀ k, F' k → ¬ OB vR k) ∧ ¬ OB vR p
theorem open_end {w w5 w6 w7 : World} {q o N gd : Nat} {st stm : St} {F F6 : Nat → Prop} {v vR : Value} {kp : ByteArray} (hg : Got w q o N st F w5 v vR) (hF : ∀ k, F k → k < w.heap.size) (hl6 : Loc F F6 w5 w6) (hd6 : DAt w6 q stm F6) (hb7 : Below w6.drew.heap.size w6.drew w7) (hs : kp.size = gd) :
    HasLog q o N kp (scn (streamOf (reads st o N))).1 stm F w (.returned (.tuple #[.pointer (some ⟨w7.heap.size, 0, none⟩), vR, .int .i64 0])) (w7.alloc (.cells #[.pointer (some ⟨q, 0, none⟩), .int .i64 (o : Int), .int .i64 (N : Int), .int .i64 (gd : Int), .string (tailOf kp), .bool false] 187)) := by
  subst hs
  have b7 : Below w6.heap.size w6 w7 := ⟨hb7.os, hb7.tape, hb7.output, hb7.size, hb7.block⟩
  have hsz : w.heap.size < w7.heap.size := by have := hg.lt; have := hl6.size; have := b7.size; omega
  have b8 : Below w6.heap.size w6 (w7.alloc (.cells #[.pointer (some ⟨q, 0, none⟩), .int .i64 (o : Int), .int .i64 (N : Int), .int .i64 (kp.size : Int), .string (tailOf kp), .bool false] 187)) := b7.alloc b7.size _
  have h7 := b7.size
  refine ⟨w7.heap.size, vR, F6, rfl, World.alloc_heap_new w7 _, by omega, ?_, con.below hd6 b8, ?_, fun hf => by have := con.lt hd6 _ hf; omega, fun k hf ho => ?_, fun ho => ?_⟩
  · refine own_kept (own_up hg.recs (fun k hk => by have := own_ge hg.recs hk; omega)) (fun k hk => ?_)
    have e1 := own_ge hg.recs hk
    have e2 := (World.ownsRow.lt hg.recs k hk).2
    rw [b8.block k (by have := hl6.size; omega), hl6.block k e2 (fun hf => by have := hF k hf; omega)]
  · exact (Loc.of_below F hg.below).trans (hl6.trans (Loc.of_below F6 b8))
  · have e1 := own_ge hg.recs ho
    have e2 := (World.ownsRow.lt hg.recs k ho).2
    rcases hl6.own k hf with h | h
    · have := hF k h; omega
    · omega
  · have e2 := (World.ownsRow.lt hg.recs _ ho).2
    have := hl6.size
    omega
set_option maxRecDepth 10000 in
set_option maxHeartbeats 1000000 in
theorem open_bad41 (q o N : Nat) (st : St) (F : Nat → Prop) (w : World) (hD : DAt w q st F) (hok : st.Ok) (hl : st.loose.length + N + N ≤ 10000) (hN : o + N ≤ st.sure.length) (h1 : 1 ≤ N) (hN2 : N ≤ 200) (h0 : st.left ≠ 0) (hx : (scn (streamOf (reads st o N))).2.2 = 41) : Calls Tryz.prog 85 #[.pointer (some ⟨q, 0, none⟩), .int .i64 (o : Int), .int .i64 (N : Int)] w (NoLog q st F w 60) := by
  have hfew := hok.few
  have hF := con.lt hD
  obtain ⟨W, hW⟩ : ∃ W, w.alloc (.cells #[.pointer (some ⟨q, 0, none⟩), .int .i64 (o : Int), .int .i64 (N : Int)] 163) = W := ⟨_, rfl⟩
  have hbW : Below w.heap.size w W := by rw [← hW]; exact (Below.refl _ _).alloc (Nat.le_refl _) _
  have hszW : W.heap.size = w.heap.size + 1 := by rw [← hW]; simp
  have harea : W.heap[w.heap.size]? = some (.cells #[.pointer (some ⟨q, 0, none⟩), .int .i64 (o : Int), .int .i64 (N : Int)] 163 (0, 0)) := by rw [← hW]; exact World.alloc_heap_new w _
  have hc0 : W.cell? ⟨w.heap.size, 0, none⟩ = some (.pointer (some ⟨q, 0, none⟩)) := by simp [World.cell?, harea]
  have hc1 : W.cell? ⟨w.heap.size, 1, none⟩ = some (.int .i64 (o : Int)) := by simp [World.cell?, harea]
  have hc2 : W.cell? ⟨w.heap.size, 2, none⟩ = some (.int .i64 (N : Int)) := by simp [World.cell?, harea]
  have hmay : st.may (o : Int) (N : Int) := by unfold St.may; omega
  have KF : Hid (Calls Tryz.prog 105 #[.agg #[.pointer (some ⟨q, 0, none⟩), .int .i64 (o : Int), .int .i64 (N : Int)]] W fun e w' => e = .returned (.int .i64 0) ∧ Below W.heap.size W w') := by
    have := fault_any q (o : Int) (N : Int) st F W (con.below hD hbW) hok (by omega)
    rw [if_pos hmay] at this
    exact this
  have HCL : Hid (∀ u, Below W.heap.size W u → u.cell? ⟨w.heap.size, 0, none⟩ = some (.pointer (some ⟨q, 0, none⟩)) ∧ u.cell? ⟨w.heap.size, 1, none⟩ = some (.int .i64 (o : Int)) ∧ u.cell? ⟨w.heap.size, 2, none⟩ = some (.int .i64 (N : Int)) ∧ DAt u q st F) := fun u hu => ⟨cellB hu hc0, cellB hu hc1, cellB hu hc2, con.below (con.below hD hbW) hu⟩
  have HBW := hide hbW
  have hRd : ∀ b ∈ reads st o N, b.size = 256 := fun b hb => by
    obtain ⟨i, hi, rfl⟩ := List.getElem_of_mem hb
    rw [reads_at]
    rw [reads_length] at hi
    exact at_size hok _ (by omega)
  have hUp : ∀ b ∈ upTo (reads st o N), b.size = 256 := fun b hb => by
    rw [upTo_prefix] at hb
    exact hRd b (List.mem_of_mem_take hb)
  have hUl : (upTo (reads st o N)).length ≤ N := by have := upTo_le (reads st o N); rw [reads_length] at this; exact this
  have hSs : (streamOf (reads st o N)).size ≤ 65536 := by
    have := heads_size (upTo (reads st o N)) hUp
    rw [heads_upTo] at this
    have : (upTo (reads st o N)).length * 255 ≤ 200 * 255 := by omega
    omega
  have K1 : Hid (∀ u, DAt u q st F → Calls Tryz.prog 117 #[.agg #[.pointer (some ⟨q, 0, none⟩), .int .i64 (o : Int), .int .i64 (N : Int)], .slice none 0 0, .func (.func 118) #[] #[]] u fun e w' => ∃ bv, e = .returned (.tuple #[bv, .int .i64 0]) ∧ OwnL w' 0 bv (upTo (reads st o N)) ∧ Loc (OB (.slice none 0 0)) (OB bv) u w') := fun u hu => readOn_ends q o N (.slice none 0 0) [] st F u hu hok (by omega) hN h0 (World.ownsRow_nil _ _ _ _) rfl (Nat.zero_le _) (fun k _ => OB_nil k) (fun j hj => absurd hj (by simp))
  have K2 : Hid (∀ a c u, StrsAt u a (upTo (reads st o N)) → Calls Tryz.prog 119 #[.slice a (upTo (reads st o N)).length c] u fun e w' => e = .returned (.string (streamOf (reads st o N))) ∧ Below u.heap.size u w') := fun a c u hu => by
    have := stream_any (upTo (reads st o N)) a c u hu hUp (by omega)
    rw [heads_upTo] at this
    exact this
  have K3 : Hid (∀ u, Calls Tryz.prog 120 #[.string (streamOf (reads st o N))] u fun e w' => ∃ a c, e = .returned (.tuple #[.slice a (scn (streamOf (reads st o N))).1.length c, .int .i64 (((scn (streamOf (reads st o N))).2.1 : Nat) : Int), .int .i64 (((scn (streamOf (reads st o N))).2.2 : Nat) : Int)]) ∧ OwnL w' u.heap.size (.slice a (scn (streamOf (reads st o N))).1.length c) (scn (streamOf (reads st o N))).1 ∧ Below u.heap.size u w') := fun u => scan_any (streamOf (reads st o N)) u hSs
  have HD := hide hD
  rw [hx] at K3
  clear hD hok hl hN h0 hbW harea hmay hRd hUp hUl hSs hF hx
  generalize upTo (reads st o N) = U at *
  generalize (scn (streamOf (reads st o N))).1 = R at *
  generalize (scn (streamOf (reads st o N))).2.1 = gd at *
  generalize streamOf (reads st o N) = S at *
  go_enter Tryz.func85, Tryz.ntmps85
  go_wp2_with fail
  refine KF.out.mono ?_
  rintro e w1 ⟨rfl, hb1⟩
  obtain ⟨q0, q1, q2, hd1⟩ := HCL.out w1 hb1
  have K1a := hide (K1.out w1 hd1)
  have HB1 := hide hb1
  clear hb1 hd1
  go_wp2_with fail
  refine K1a.out.mono ?_
  rintro e w2 ⟨bv, rfl, hv, hl2⟩
  obtain ⟨a2, c2, rfl, hs2⟩ := hv.strs
  have K2a := hide (K2.out a2 c2 w2 hs2)
  have HV := hide hv
  have HL2 := hide hl2
  clear hv hl2 hs2
  go_wp2_with fail
  refine K2a.out.mono ?_
  rintro e w3 ⟨rfl, hb3⟩
  have K3a := hide (K3.out w3)
  have HB3 := hide hb3
  clear hb3
  go_wp2_with fail
  refine K3a.out.mono ?_
  rintro e w4 ⟨a4, c4, rfl, hR4, hb4⟩
  have HR4 := hide hR4
  have HB4 := hide hb4
  clear hR4 hb4
  have HBE := hide (till4 HBW.out HB1.out HL2.out HB3.out HB4.out)
  go_wp2
  go_ret3
  exact ⟨rfl, F, con.below HD.out HBE.out, Loc.of_below F HBE.out⟩
set_option maxRecDepth 10000 in
set_option maxHeartbeats 1000000 in
theorem open_bad4 (q o N : Nat) (st : St) (F : Nat → Prop) (w : World) (hD : DAt w q st F) (hok : st.Ok) (hl : st.loose.length + N + N ≤ 10000) (hN : o + N ≤ st.sure.length) (h1 : 1 ≤ N) (hN2 : N ≤ 200) (h0 : st.left ≠ 0) (hx : (scn (streamOf (reads st o N))).2.2 = 4) : Calls Tryz.prog 85 #[.pointer (some ⟨q, 0, none⟩), .int .i64 (o : Int), .int .i64 (N : Int)] w (NoLog q st F w 60) := by
  have hfew := hok.few
  have hF := con.lt hD
  obtain ⟨W, hW⟩ : ∃ W, w.alloc (.cells #[.pointer (some ⟨q, 0, none⟩), .int .i64 (o : Int), .int .i64 (N : Int)] 163) = W := ⟨_, rfl⟩
  have hbW : Below w.heap.size w W := by rw [← hW]; exact (Below.refl _ _).alloc (Nat.le_refl _) _
  have hszW : W.heap.size = w.heap.size + 1 := by rw [← hW]; simp
  have harea : W.heap[w.heap.size]? = some (.cells #[.pointer (some ⟨q, 0, none⟩), .int .i64 (o : Int), .int .i64 (N : Int)] 163 (0, 0)) := by rw [← hW]; exact World.alloc_heap_new w _
  have hc0 : W.cell? ⟨w.heap.size, 0, none⟩ = some (.pointer (some ⟨q, 0, none⟩)) := by simp [World.cell?, harea]
  have hc1 : W.cell? ⟨w.heap.size, 1, none⟩ = some (.int .i64 (o : Int)) := by simp [World.cell?, harea]
  have hc2 : W.cell? ⟨w.heap.size, 2, none⟩ = some (.int .i64 (N : Int)) := by simp [World.cell?, harea]
  have hmay : st.may (o : Int) (N : Int) := by unfold St.may; omega
  have KF : Hid (Calls Tryz.prog 105 #[.agg #[.pointer (some ⟨q, 0, none⟩), .int .i64 (o : Int), .int .i64 (N : Int)]] W fun e w' => e = .returned (.int .i64 0) ∧ Below W.heap.size W w') := by
    have := fault_any q (o : Int) (N : Int) st F W (con.below hD hbW) hok (by omega)
    rw [if_pos hmay] at this
    exact this
  have HCL : Hid (∀ u, Below W.heap.size W u → u.cell? ⟨w.heap.size, 0, none⟩ = some (.pointer (some ⟨q, 0, none⟩)) ∧ u.cell? ⟨w.heap.size, 1, none⟩ = some (.int .i64 (o : Int)) ∧ u.cell? ⟨w.heap.size, 2, none⟩ = some (.int .i64 (N : Int)) ∧ DAt u q st F) := fun u hu => ⟨cellB hu hc0, cellB hu hc1, cellB hu hc2, con.below (con.below hD hbW) hu⟩
  have HBW := hide hbW
  have hRd : ∀ b ∈ reads st o N, b.size = 256 := fun b hb => by
    obtain ⟨i, hi, rfl⟩ := List.getElem_of_mem hb
    rw [reads_at]
    rw [reads_length] at hi
    exact at_size hok _ (by omega)
  have hUp : ∀ b ∈ upTo (reads st o N), b.size = 256 := fun b hb => by
    rw [upTo_prefix] at hb
    exact hRd b (List.mem_of_mem_take hb)
  have hUl : (upTo (reads st o N)).length ≤ N := by have := upTo_le (reads st o N); rw [reads_length] at this; exact this
  have hSs : (streamOf (reads st o N)).size ≤ 65536 := by
    have := heads_size (upTo (reads st o N)) hUp
    rw [heads_upTo] at this
    have : (upTo (reads st o N)).length * 255 ≤ 200 * 255 := by omega
    omega
  have K1 : Hid (∀ u, DAt u q st F → Calls Tryz.prog 117 #[.agg #[.pointer (some ⟨q, 0, none⟩), .int .i64 (o : Int), .int .i64 (N : Int)], .slice none 0 0, .func (.func 118) #[] #[]] u fun e w' => ∃ bv, e = .returned (.tuple #[bv, .int .i64 0]) ∧ OwnL w' 0 bv (upTo (reads st o N)) ∧ Loc (OB (.slice none 0 0)) (OB bv) u w') := fun u hu => readOn_ends q o N (.slice none 0 0) [] st F u hu hok (by omega) hN h0 (World.ownsRow_nil _ _ _ _) rfl (Nat.zero_le _) (fun k _ => OB_nil k) (fun j hj => absurd hj (by simp))
  have K2 : Hid (∀ a c u, StrsAt u a (upTo (reads st o N)) → Calls Tryz.prog 119 #[.slice a (upTo (reads st o N)).length c] u fun e w' => e = .returned (.string (streamOf (reads st o N))) ∧ Below u.heap.size u w') := fun a c u hu => by
    have := stream_any (upTo (reads st o N)) a c u hu hUp (by omega)
    rw [heads_upTo] at this
    exact this
  have K3 : Hid (∀ u, Calls Tryz.prog 120 #[.string (streamOf (reads st o N))] u fun e w' => ∃ a c, e = .returned (.tuple #[.slice a (scn (streamOf (reads st o N))).1.length c, .int .i64 (((scn (streamOf (reads st o N))).2.1 : Nat) : Int), .int .i64 (((scn (streamOf (reads st o N))).2.2 : Nat) : Int)]) ∧ OwnL w' u.heap.size (.slice a (scn (streamOf (reads st o N))).1.length c) (scn (streamOf (reads st o N))).1 ∧ Below u.heap.size u w') := fun u => scan_any (streamOf (reads st o N)) u hSs
  have HD := hide hD
  rw [hx] at K3
  clear hD hok hl hN h0 hbW harea hmay hRd hUp hUl hSs hF hx
  generalize upTo (reads st o N) = U at *
  generalize (scn (streamOf (reads st o N))).1 = R at *
  generalize (scn (streamOf (reads st o N))).2.1 = gd at *
  generalize streamOf (reads st o N) = S at *
  go_enter Tryz.func85, Tryz.ntmps85
  go_wp2_with fail
  refine KF.out.mono ?_
  rintro e w1 ⟨rfl, hb1⟩
  obtain ⟨q0, q1, q2, hd1⟩ := HCL.out w1 hb1
  have K1a := hide (K1.out w1 hd1)
  have HB1 := hide hb1
  clear hb1 hd1
  go_wp2_with fail
  refine K1a.out.mono ?_
  rintro e w2 ⟨bv, rfl, hv, hl2⟩
  obtain ⟨a2, c2, rfl, hs2⟩ := hv.strs
  have K2a := hide (K2.out a2 c2 w2 hs2)
  have HV := hide hv
  have HL2 := hide hl2
  clear hv hl2 hs2
  go_wp2_with fail
  refine K2a.out.mono ?_
  rintro e w3 ⟨rfl, hb3⟩
  have K3a := hide (K3.out w3)
  have HB3 := hide hb3
  clear hb3
  go_wp2_with fail
  refine K3a.out.mono ?_
  rintro e w4 ⟨a4, c4, rfl, hR4, hb4⟩
  have HR4 := hide hR4
  have HB4 := hide hb4
  clear hR4 hb4
  have HBE := hide (till4 HBW.out HB1.out HL2.out HB3.out HB4.out)
  go_wp2
  go_ret3
  exact ⟨rfl, F, con.below HD.out HBE.out, Loc.of_below F HBE.out⟩
end Go.Proofs.YtchhojkhfdkhfaaGreatDoor
namespace Go.Proofs.YtchhojkhfdkhfaaGreatDoor
open Go Go.RowKit Frm Go.Shelf
set_option maxRecDepth 10000 in
set_option maxHeartbeats 2000000 in
theorem open_ok (q o N : Nat) (st : St) (F : Nat → Prop) (w : World) (hD : DAt w q st F) (hok : st.Ok) (hl : st.loose.length + N + N ≤ 10000) (hN : o + N ≤ st.sure.length) (h1 : 1 ≤ N) (hN2 : N ≤ 200) (h0 : st.left ≠ 0) (hx1 : (scn (streamOf (reads st o N))).2.2 ≠ 41) (hx2 : (scn (streamOf (reads st o N))).2.2 ≠ 4) (hm : (mended o N (fun i => st.at (o + i)) (kept (reads st o N)) st).1 = 0) :
    Calls Tryz.prog 85 #[.pointer (some ⟨q, 0, none⟩), .int .i64 (o : Int), .int .i64 (N : Int)] w (HasLog q o N (kept (reads st o N)) (scn (streamOf (reads st o N))).1 (mended o N (fun i => st.at (o + i)) (kept (reads st o N)) st).2 F w) := by
  have hfew := hok.few
  have hF := con.lt hD
  obtain ⟨W, hW⟩ : ∃ W, w.alloc (.cells #[.pointer (some ⟨q, 0, none⟩), .int .i64 (o : Int), .int .i64 (N : Int)] 163) = W := ⟨_, rfl⟩
  have hbW : Below w.heap.size w W := by rw [← hW]; exact (Below.refl _ _).alloc (Nat.le_refl _) _
  have hszW : W.heap.size = w.heap.size + 1 := by rw [← hW]; simp
  have harea : W.heap[w.heap.size]? = some (.cells #[.pointer (some ⟨q, 0, none⟩), .int .i64 (o : Int), .int .i64 (N : Int)] 163 (0, 0)) := by rw [← hW]; exact World.alloc_heap_new w _
  have hc0 : W.cell? ⟨w.heap.size, 0, none⟩ = some (.pointer (some ⟨q, 0, none⟩)) := by simp [World.cell?, harea]
  have hc1 : W.cell? ⟨w.heap.size, 1, none⟩ = some (.int .i64 (o : Int)) := by simp [World.cell?, harea]
  have hc2 : W.cell? ⟨w.heap.size, 2, none⟩ = some (.int .i64 (N : Int)) := by simp [World.cell?, harea]
  have hmay : st.may (o : Int) (N : Int) := by unfold St.may; omega
  have KF : Hid (Calls Tryz.prog 105 #[.agg #[.pointer (some ⟨q, 0, none⟩), .int .i64 (o : Int), .int .i64 (N : Int)]] W fun e w' => e = .returned (.int .i64 0) ∧ Below W.heap.size W w') := by
    have := fault_any q (o : Int) (N : Int) st F W (con.below hD hbW) hok (by omega)
    rw [if_pos hmay] at this
    exact this
  have HCL : Hid (∀ u, Below W.heap.size W u → u.cell? ⟨w.heap.size, 0, none⟩ = some (.pointer (some ⟨q, 0, none⟩)) ∧ u.cell? ⟨w.heap.size, 1, none⟩ = some (.int .i64 (o : Int)) ∧ u.cell? ⟨w.heap.size, 2, none⟩ = some (.int .i64 (N : Int)) ∧ DAt u q st F) := fun u hu => ⟨cellB hu hc0, cellB hu hc1, cellB hu hc2, con.below (con.below hD hbW) hu⟩
  have HBW := hide hbW
  have hRd : ∀ b ∈ reads st o N, b.size = 256 := fun b hb => by
    obtain ⟨i, hi, rfl⟩ := List.getElem_of_mem hb
    rw [reads_at]
    rw [reads_length] at hi
    exact at_size hok _ (by omega)
  have hUp : ∀ b ∈ upTo (reads st o N), b.size = 256 := fun b hb => by
    rw [upTo_prefix] at hb
    exact hRd b (List.mem_of_mem_take hb)
  have hUl : (upTo (reads st o N)).length ≤ N := by have := upTo_le (reads st o N); rw [reads_length] at this; exact this
  have hSs : (streamOf (reads st o N)).size ≤ 65536 := by
    have := heads_size (upTo (reads st o N)) hUp
    rw [heads_upTo] at this
    have : (upTo (reads st o N)).length * 255 ≤ 200 * 255 := by omega
    omega
  have K1 : Hid (∀ u, DAt u q st F → Calls Tryz.prog 117 #[.agg #[.pointer (some ⟨q, 0, none⟩), .int .i64 (o : Int), .int .i64 (N : Int)], .slice none 0 0, .func (.func 118) #[] #[]] u fun e w' => ∃ bv, e = .returned (.tuple #[bv, .int .i64 0]) ∧ OwnL w' 0 bv (upTo (reads st o N)) ∧ Loc (OB (.slice none 0 0)) (OB bv) u w') := fun u hu => readOn_ends q o N (.slice none 0 0) [] st F u hu hok (by omega) hN h0 (World.ownsRow_nil _ _ _ _) rfl (Nat.zero_le _) (fun k _ => OB_nil k) (fun j hj => absurd hj (by simp))
  have K2 : Hid (∀ a c u, StrsAt u a (upTo (reads st o N)) → Calls Tryz.prog 119 #[.slice a (upTo (reads st o N)).length c] u fun e w' => e = .returned (.string (streamOf (reads st o N))) ∧ Below u.heap.size u w') := fun a c u hu => by
    have := stream_any (upTo (reads st o N)) a c u hu hUp (by omega)
    rw [heads_upTo] at this
    exact this
  have K3 : Hid (∀ u, Calls Tryz.prog 120 #[.string (streamOf (reads st o N))] u fun e w' => ∃ a c, e = .returned (.tuple #[.slice a (scn (streamOf (reads st o N))).1.length c, .int .i64 (((scn (streamOf (reads st o N))).2.1 : Nat) : Int), .int .i64 (((scn (streamOf (reads st o N))).2.2 : Nat) : Int)]) ∧ OwnL w' u.heap.size (.slice a (scn (streamOf (reads st o N))).1.length c) (scn (streamOf (reads st o N))).1 ∧ Below u.heap.size u w') := fun u => scan_any (streamOf (reads st o N)) u hSs
  have HD := hide hD
  have hgd := (scn_bound _ (streamOf (reads st o N)) (Nat.le_refl _)).1
  have K4 : Hid (∀ v u, DAt u q st F → OwnL u 0 v (upTo (reads st o N)) → (∀ k, F k → ¬ OB v k) → Calls Tryz.prog 117 #[.agg #[.pointer (some ⟨q, 0, none⟩), .int .i64 (o : Int), .int .i64 (N : Int)], v, .func (.func 121) #[] #[]] u fun e w' => ∃ bv, e = .returned (.tuple #[bv, .int .i64 0]) ∧ OwnL w' 0 bv (reads st o N) ∧ Loc (OB v) (OB bv) u w') := fun v u hu hv hd => readOn_all q o N v (upTo (reads st o N)) st F u hu hok (by omega) hN h0 hv (upTo_prefix _) hUl hd
  have K5 : Hid (∀ a c u, DAt u q st F → OwnL u 0 (.slice a (reads st o N).length c) (reads st o N) → (∀ k, F k → ¬ OB (.slice a (reads st o N).length c) k) → Calls Tryz.prog 122 #[.agg #[.pointer (some ⟨q, 0, none⟩), .int .i64 (o : Int), .int .i64 (N : Int)], .slice a (reads st o N).length c, .string (kept (reads st o N))] u fun e w' => e = .returned (.int .i64 (((mended o N (fun i => st.at (o + i)) (kept (reads st o N)) st).1 : Nat) : Int)) ∧ ∃ F', DAt w' q (mended o N (fun i => st.at (o + i)) (kept (reads st o N)) st).2 F' ∧ Loc F F' u w') := fun a c u hu hv hd => mend_any q o N a c (reads st o N) (fun i => st.at (o + i)) (kept (reads st o N)) st F u hu hok hl (by omega) (by omega) (reads_length st o N) hv hd hRd (fun i hi => reads_at st o N i hi)
  rw [hm] at K5
  have hKp : kept (reads st o N) = (streamOf (reads st o N)).extract 0 (scn (streamOf (reads st o N))).2.1 := rfl
  have hks : (kept (reads st o N)).size ≤ 281474976710656 := by rw [hKp, ByteArray.size_extract]; omega
  have K6 := hide (fun u => tail_any (kept (reads st o N)) u hks)
  have HRL := hide (reads_length st o N)
  have hz1 : ((((scn (streamOf (reads st o N))).2.2 : Nat) : Int) == 41) = false := beq_false_of_ne (by omega)
  have hz2 : ((((scn (streamOf (reads st o N))).2.2 : Nat) : Int) == 4) = false := beq_false_of_ne (by omega)
  have hz3 : (((scn (streamOf (reads st o N))).2.1 : Nat) : Int) ≤ ((streamOf (reads st o N)).size : Int) := by omega
  have HFF := hide hF
  have HAR := hide harea
  have HG : Hid (∀ w2 w3 w4 w5 v v' vR, Loc (OB (.slice none 0 0)) (OB v) W w2 → OwnL w2 0 v (upTo (reads st o N)) → Below w2.heap.size w2 w3 → Below w3.heap.size w3 w4 → OwnL w4 w3.heap.size vR (scn (streamOf (reads st o N))).1 → Loc (OB v) (OB v') w4 w5 → OwnL w5 0 v' (reads st o N) → Got w q o N st F w5 v' vR) := fun w2 w3 w4 w5 v v' vR h2 hv h3 h4 hR h5 hv' => Got.mk' (con.below hD hbW) hF hbW hszW harea h2 hv h3 h4 hR h5 hv'
  have HKE : Hid (kept (reads st o N) = (streamOf (reads st o N)).extract 0 (scn (streamOf (reads st o N))).2.1 ∧ ((streamOf (reads st o N)).extract 0 (scn (streamOf (reads st o N))).2.1).size = (scn (streamOf (reads st o N))).2.1) := ⟨hKp, by rw [ByteArray.size_extract]; omega⟩
  rw [hKp] at K5 K6
  clear hD hok hl hN h0 hbW harea hmay hRd hUp hUl hSs hF hx1 hx2 hm hks hKp hgd
  generalize hU : upTo (reads st o N) = U at *
  generalize hR : (scn (streamOf (reads st o N))).1 = R at *
  generalize (scn (streamOf (reads st o N))).2.1 = gd at *
  generalize (scn (streamOf (reads st o N))).2.2 = x at *
  generalize hS : streamOf (reads st o N) = S at *
  generalize hRr : reads st o N = L at *
  have HE := hide (And.intro hR (And.intro hS hRr))
  clear hU hR hS hRr
  go_enter Tryz.func85, Tryz.ntmps85
  go_wp2_with fail
  refine KF.out.mono ?_
  rintro e w1 ⟨rfl, hb1⟩
  obtain ⟨q0, q1, q2, hd1⟩ := HCL.out w1 hb1
  have K1a := hide (K1.out w1 hd1)
  have HB1 := hide hb1
  clear hb1 hd1
  go_wp2_with fail
  refine K1a.out.mono ?_
  rintro e w2 ⟨bv, rfl, hv, hl2⟩
  obtain ⟨a2, c2, rfl, hs2⟩ := hv.strs
  have K2a := hide (K2.out a2 c2 w2 hs2)
  have HV := hide hv
  have HL2 := hide hl2
  clear hv hl2 hs2
  go_wp2_with fail
  refine K2a.out.mono ?_
  rintro e w3 ⟨rfl, hb3⟩
  have K3a := hide (K3.out w3)
  have HB3 := hide hb3
  clear hb3
  go_wp2_with fail
  refine K3a.out.mono ?_
  rintro e w4 ⟨a4, c4, rfl, hR4, hb4⟩
  have HR4 := hide hR4
  have HB4 := hide hb4
  clear hR4 hb4
  obtain ⟨hB04, hvn⟩ := till4b HB1.out HL2.out HB3.out HB4.out
  obtain ⟨r0, r1, r2, hd4⟩ := HCL.out w4 hB04
  have K4a := hide (K4.out _ w4 hd4 (own_kept HV.out (fun k hk => by
    have e1 := own_lt0 HV.out hk
    rw [HB4.out.block k (by have := HB3.out.size; omega), HB3.out.block k e1])) (fun k hf ho => by have := HFF.out k hf; have := hvn k ho; omega))
  have HL2b := hide ((Loc.of_below (OB (.slice none 0 0)) HB1.out).trans HL2.out)
  clear hB04 hd4 hvn
  go_wp2_with fail
  refine K4a.out.mono ?_
  rintro e w5 ⟨bv, rfl, hv5, hl5⟩
  have hg := HG.out w2 w3 w4 w5 _ bv _ HL2b.out HV.out HB3.out HB4.out HR4.out hl5 hv5
  obtain ⟨a5, c5, rfl, -⟩ := hv5.strs
  have s0 := hg.c0
  have s1 := hg.c1
  have s2 := hg.c2
  have K5a := hide (K5.out a5 c5 w5 hg.disk hv5 (fun k hf ho => by have := HFF.out k hf; have := hg.newB k ho; omega))
  have HGot := hide hg
  clear hg hv5 hl5
  go_wp2_with fail
  refine K5a.out.mono ?_
  rintro e w6 ⟨rfl, F6, hd6, hl6⟩
  obtain ⟨t0, t1, t2⟩ := HGot.out.area6 HFF.out hl6
  have HD6 := hide hd6
  have HL6 := hide hl6
  have T0 := hide t0
  have T1 := hide t1
  have T2 := hide t2
  clear hd6 hl6 t0 t1 t2
  go_wp2_with fail
  generalize (S.extract 0 gd) = kp at *
  clear s0 s1 s2 r0 r1 r2 q0 q1 q2 hc0 hc1 hc2
  go_region_held3 (fun z => z.cell? ⟨w.heap.size, 0, none⟩ = some (.pointer (some ⟨q, 0, none⟩)) ∧ z.cell? ⟨w.heap.size, 1, none⟩ = some (.int .i64 (o : Int)) ∧ z.cell? ⟨w.heap.size, 2, none⟩ = some (.int .i64 (N : Int)) ∧ Below w6.heap.size w6 z)
    (((with_reducible refine oldS T0.out T1.out T2.out ?_); first | (with_reducible exact (Below.refl _ _).drew) | ((with_reducible refine bnext ?_ hbc); go_split_ands; with_reducible assumption) | ((with_reducible refine bgrow ?_ _); go_split_ands; with_reducible assumption)))
    ((go_at_call 123; refine (K6.out _).mono ?_; rintro e w7 ⟨rfl, hbc⟩))
  go_split_ands
  have HB7 := hide hbc
  clear hbc
  go_wp2
  go_ret3
  obtain ⟨hR, hS, hRr⟩ := HE.out
  have hend := open_end HGot.out HFF.out HL6.out HD6.out HB7.out HKE.out.2
  rw [hRr, hS, hR] at hend
  rw [HKE.out.1]
  exact hend
end Go.Proofs.YtchhojkhfdkhfaaGreatDoor
namespace Go.Proofs.YtchhojkhfdkhfaaGreatDoor
open Go Go.RowKit Frm Go.Shelf
set_option maxRecDepth 10000 in
set_option maxHeartbeats 2000000 in
theorem open_err (q o N : Nat) (st : St) (F : Nat → Prop) (w : World) (hD : DAt w q st F) (hok : st.Ok) (hl : st.loose.length + N + N ≤ 10000) (hN : o + N ≤ st.sure.length) (h1 : 1 ≤ N) (hN2 : N ≤ 200) (h0 : st.left ≠ 0) (hx1 : (scn (streamOf (reads st o N))).2.2 ≠ 41) (hx2 : (scn (streamOf (reads st o N))).2.2 ≠ 4) (hm : (mended o N (fun i => st.at (o + i)) (kept (reads st o N)) st).1 ≠ 0) :
    Calls Tryz.prog 85 #[.pointer (some ⟨q, 0, none⟩), .int .i64 (o : Int), .int .i64 (N : Int)] w (NoLog q (mended o N (fun i => st.at (o + i)) (kept (reads st o N)) st).2 F w (((mended o N (fun i => st.at (o + i)) (kept (reads st o N)) st).1 : Nat) : Int)) := by
  have hfew := hok.few
  have hF := con.lt hD
  obtain ⟨W, hW⟩ : ∃ W, w.alloc (.cells #[.pointer (some ⟨q, 0, none⟩), .int .i64 (o : Int), .int .i64 (N : Int)] 163) = W := ⟨_, rfl⟩
  have hbW : Below w.heap.size w W := by rw [← hW]; exact (Below.refl _ _).alloc (Nat.le_refl _) _
  have hszW : W.heap.size = w.heap.size + 1 := by rw [← hW]; simp
  have harea : W.heap[w.heap.size]? = some (.cells #[.pointer (some ⟨q, 0, none⟩), .int .i64 (o : Int), .int .i64 (N : Int)] 163 (0, 0)) := by rw [← hW]; exact World.alloc_heap_new w _
  have hc0 : W.cell? ⟨w.heap.size, 0, none⟩ = some (.pointer (some ⟨q, 0, none⟩)) := by simp [World.cell?, harea]
  have hc1 : W.cell? ⟨w.heap.size, 1, none⟩ = some (.int .i64 (o : Int)) := by simp [World.cell?, harea]
  have hc2 : W.cell? ⟨w.heap.size, 2, none⟩ = some (.int .i64 (N : Int)) := by simp [World.cell?, harea]
  have hmay : st.may (o : Int) (N : Int) := by unfold St.may; omega
  have KF : Hid (Calls Tryz.prog 105 #[.agg #[.pointer (some ⟨q, 0, none⟩), .int .i64 (o : Int), .int .i64 (N : Int)]] W fun e w' => e = .returned (.int .i64 0) ∧ Below W.heap.size W w') := by
    have := fault_any q (o : Int) (N : Int) st F W (con.below hD hbW) hok (by omega)
    rw [if_pos hmay] at this
    exact this
  have HCL : Hid (∀ u, Below W.heap.size W u → u.cell? ⟨w.heap.size, 0, none⟩ = some (.pointer (some ⟨q, 0, none⟩)) ∧ u.cell? ⟨w.heap.size, 1, none⟩ = some (.int .i64 (o : Int)) ∧ u.cell? ⟨w.heap.size, 2, none⟩ = some (.int .i64 (N : Int)) ∧ DAt u q st F) := fun u hu => ⟨cellB hu hc0, cellB hu hc1, cellB hu hc2, con.below (con.below hD hbW) hu⟩
  have HBW := hide hbW
  have hRd : ∀ b ∈ reads st o N, b.size = 256 := fun b hb => by
    obtain ⟨i, hi, rfl⟩ := List.getElem_of_mem hb
    rw [reads_at]
    rw [reads_length] at hi
    exact at_size hok _ (by omega)
  have hUp : ∀ b ∈ upTo (reads st o N), b.size = 256 := fun b hb => by
    rw [upTo_prefix] at hb
    exact hRd b (List.mem_of_mem_take hb)
  have hUl : (upTo (reads st o N)).length ≤ N := by have := upTo_le (reads st o N); rw [reads_length] at this; exact this
  have hSs : (streamOf (reads st o N)).size ≤ 65536 := by
    have := heads_size (upTo (reads st o N)) hUp
    rw [heads_upTo] at this
    have : (upTo (reads st o N)).length * 255 ≤ 200 * 255 := by omega
    omega
  have K1 : Hid (∀ u, DAt u q st F → Calls Tryz.prog 117 #[.agg #[.pointer (some ⟨q, 0, none⟩), .int .i64 (o : Int), .int .i64 (N : Int)], .slice none 0 0, .func (.func 118) #[] #[]] u fun e w' => ∃ bv, e = .returned (.tuple #[bv, .int .i64 0]) ∧ OwnL w' 0 bv (upTo (reads st o N)) ∧ Loc (OB (.slice none 0 0)) (OB bv) u w') := fun u hu => readOn_ends q o N (.slice none 0 0) [] st F u hu hok (by omega) hN h0 (World.ownsRow_nil _ _ _ _) rfl (Nat.zero_le _) (fun k _ => OB_nil k) (fun j hj => absurd hj (by simp))
  have K2 : Hid (∀ a c u, StrsAt u a (upTo (reads st o N)) → Calls Tryz.prog 119 #[.slice a (upTo (reads st o N)).length c] u fun e w' => e = .returned (.string (streamOf (reads st o N))) ∧ Below u.heap.size u w') := fun a c u hu => by
    have := stream_any (upTo (reads st o N)) a c u hu hUp (by omega)
    rw [heads_upTo] at this
    exact this
  have K3 : Hid (∀ u, Calls Tryz.prog 120 #[.string (streamOf (reads st o N))] u fun e w' => ∃ a c, e = .returned (.tuple #[.slice a (scn (streamOf (reads st o N))).1.length c, .int .i64 (((scn (streamOf (reads st o N))).2.1 : Nat) : Int), .int .i64 (((scn (streamOf (reads st o N))).2.2 : Nat) : Int)]) ∧ OwnL w' u.heap.size (.slice a (scn (streamOf (reads st o N))).1.length c) (scn (streamOf (reads st o N))).1 ∧ Below u.heap.size u w') := fun u => scan_any (streamOf (reads st o N)) u hSs
  have HD := hide hD
  have hgd := (scn_bound _ (streamOf (reads st o N)) (Nat.le_refl _)).1
  have K4 : Hid (∀ v u, DAt u q st F → OwnL u 0 v (upTo (reads st o N)) → (∀ k, F k → ¬ OB v k) → Calls Tryz.prog 117 #[.agg #[.pointer (some ⟨q, 0, none⟩), .int .i64 (o : Int), .int .i64 (N : Int)], v, .func (.func 121) #[] #[]] u fun e w' => ∃ bv, e = .returned (.tuple #[bv, .int .i64 0]) ∧ OwnL w' 0 bv (reads st o N) ∧ Loc (OB v) (OB bv) u w') := fun v u hu hv hd => readOn_all q o N v (upTo (reads st o N)) st F u hu hok (by omega) hN h0 hv (upTo_prefix _) hUl hd
  have K5 : Hid (∀ a c u, DAt u q st F → OwnL u 0 (.slice a (reads st o N).length c) (reads st o N) → (∀ k, F k → ¬ OB (.slice a (reads st o N).length c) k) → Calls Tryz.prog 122 #[.agg #[.pointer (some ⟨q, 0, none⟩), .int .i64 (o : Int), .int .i64 (N : Int)], .slice a (reads st o N).length c, .string (kept (reads st o N))] u fun e w' => e = .returned (.int .i64 (((mended o N (fun i => st.at (o + i)) (kept (reads st o N)) st).1 : Nat) : Int)) ∧ ∃ F', DAt w' q (mended o N (fun i => st.at (o + i)) (kept (reads st o N)) st).2 F' ∧ Loc F F' u w') := fun a c u hu hv hd => mend_any q o N a c (reads st o N) (fun i => st.at (o + i)) (kept (reads st o N)) st F u hu hok hl (by omega) (by omega) (reads_length st o N) hv hd hRd (fun i hi => reads_at st o N i hi)
  have hmz : ¬ ((((mended o N (fun i => st.at (o + i)) (kept (reads st o N)) st).1 : Nat) : Int) = 0) := by omega
  have hKp : kept (reads st o N) = (streamOf (reads st o N)).extract 0 (scn (streamOf (reads st o N))).2.1 := rfl
  have _hks : True := trivial
  have HRL := hide (reads_length st o N)
  have hz1 : ((((scn (streamOf (reads st o N))).2.2 : Nat) : Int) == 41) = false := beq_false_of_ne (by omega)
  have hz2 : ((((scn (streamOf (reads st o N))).2.2 : Nat) : Int) == 4) = false := beq_false_of_ne (by omega)
  have hz3 : (((scn (streamOf (reads st o N))).2.1 : Nat) : Int) ≤ ((streamOf (reads st o N)).size : Int) := by omega
  have HFF := hide hF
  have HAR := hide harea
  have HG : Hid (∀ w2 w3 w4 w5 v v' vR, Loc (OB (.slice none 0 0)) (OB v) W w2 → OwnL w2 0 v (upTo (reads st o N)) → Below w2.heap.size w2 w3 → Below w3.heap.size w3 w4 → OwnL w4 w3.heap.size vR (scn (streamOf (reads st o N))).1 → Loc (OB v) (OB v') w4 w5 → OwnL w5 0 v' (reads st o N) → Got w q o N st F w5 v' vR) := fun w2 w3 w4 w5 v v' vR h2 hv h3 h4 hR h5 hv' => Got.mk' (con.below hD hbW) hF hbW hszW harea h2 hv h3 h4 hR h5 hv'
  have HKE : Hid (kept (reads st o N) = (streamOf (reads st o N)).extract 0 (scn (streamOf (reads st o N))).2.1 ∧ ((streamOf (reads st o N)).extract 0 (scn (streamOf (reads st o N))).2.1).size = (scn (streamOf (reads st o N))).2.1) := ⟨hKp, by rw [ByteArray.size_extract]; omega⟩
  rw [hKp] at K5 hmz
  rw [hKp]
  clear hD hok hl hN h0 hbW harea hmay hRd hUp hUl hSs hF hx1 hx2 hm _hks hKp hgd
  generalize hU : upTo (reads st o N) = U at *
  generalize hR : (scn (streamOf (reads st o N))).1 = R at *
  generalize (scn (streamOf (reads st o N))).2.1 = gd at *
  generalize (scn (streamOf (reads st o N))).2.2 = x at *
  generalize hS : streamOf (reads st o N) = S at *
  generalize hRr : reads st o N = L at *
  have HE := hide (And.intro hR (And.intro hS hRr))
  clear hU hR hS hRr
  go_enter Tryz.func85, Tryz.ntmps85
  go_wp2_with fail
  refine KF.out.mono ?_
  rintro e w1 ⟨rfl, hb1⟩
  obtain ⟨q0, q1, q2, hd1⟩ := HCL.out w1 hb1
  have K1a := hide (K1.out w1 hd1)
  have HB1 := hide hb1
  clear hb1 hd1
  go_wp2_with fail
  refine K1a.out.mono ?_
  rintro e w2 ⟨bv, rfl, hv, hl2⟩
  obtain ⟨a2, c2, rfl, hs2⟩ := hv.strs
  have K2a := hide (K2.out a2 c2 w2 hs2)
  have HV := hide hv
  have HL2 := hide hl2
  clear hv hl2 hs2
  go_wp2_with fail
  refine K2a.out.mono ?_
  rintro e w3 ⟨rfl, hb3⟩
  have K3a := hide (K3.out w3)
  have HB3 := hide hb3
  clear hb3
  go_wp2_with fail
  refine K3a.out.mono ?_
  rintro e w4 ⟨a4, c4, rfl, hR4, hb4⟩
  have HR4 := hide hR4
  have HB4 := hide hb4
  clear hR4 hb4
  obtain ⟨hB04, hvn⟩ := till4b HB1.out HL2.out HB3.out HB4.out
  obtain ⟨r0, r1, r2, hd4⟩ := HCL.out w4 hB04
  have K4a := hide (K4.out _ w4 hd4 (own_kept HV.out (fun k hk => by
    have e1 := own_lt0 HV.out hk
    rw [HB4.out.block k (by have := HB3.out.size; omega), HB3.out.block k e1])) (fun k hf ho => by have := HFF.out k hf; have := hvn k ho; omega))
  have HL2b := hide ((Loc.of_below (OB (.slice none 0 0)) HB1.out).trans HL2.out)
  clear hB04 hd4 hvn
  go_wp2_with fail
  refine K4a.out.mono ?_
  rintro e w5 ⟨bv, rfl, hv5, hl5⟩
  have hg := HG.out w2 w3 w4 w5 _ bv _ HL2b.out HV.out HB3.out HB4.out HR4.out hl5 hv5
  obtain ⟨a5, c5, rfl, -⟩ := hv5.strs
  have s0 := hg.c0
  have s1 := hg.c1
  have s2 := hg.c2
  have K5a := hide (K5.out a5 c5 w5 hg.disk hv5 (fun k hf ho => by have := HFF.out k hf; have := hg.newB k ho; omega))
  have HGot := hide hg
  clear hg hv5 hl5
  go_wp2_with fail
  refine K5a.out.mono ?_
  rintro e w6 ⟨rfl, F6, hd6, hl6⟩
  have HD6 := hide hd6
  have HL6 := hide ((Loc.of_below F HGot.out.below).trans hl6)
  clear hd6 hl6
  go_wp2
  go_ret3
  exact ⟨rfl, F6, HD6.out, HL6.out⟩
end Go.Proofs.YtchhojkhfdkhfaaGreatDoor
namespace Go.Proofs.YtchhojkhfdkhfaaGreatDoor
open Go Go.RowKit Frm
set_option maxRecDepth 10000 in
set_option maxHeartbeats 4000000 in
theorem append_ok (p q o n : Nat) (s t : ByteArray) (st : St) (F : Nat → Prop) (w : World) (hL : LAt w p q o n s false) (hD : DAt w q st F) (hp : ¬ F p) (hok : st.Ok) (hlo : st.loose.length + n ≤ 10000) (ho : o + n ≤ 4096) (ht : t.size ≤ 65536) (hn : n ≤ 200) (hs : s.size ≤ n * 255) (hfit : s.size + (t.size + 8) ≤ n * 255) (hput : (puts o (prs n (blkOf s) (blkOf (s ++ frm t))) 0 st).1 = 0) :
    Calls Tryz.prog 192 #[.pointer (some ⟨p, 0, none⟩), .string t] w (Apd p q o n (s ++ frm t) false (puts o (prs n (blkOf s) (blkOf (s ++ frm t))) 0 st).2 F w 0) := by
  have c0 := hL.c0
  have c5 := hL.c5
  have hfs := frm_size t
  have hts := tail_size s
  have KF := hide (frame_any t w ht)
  have hz : ¬ ((n : Int) * 255 - (s.size : Int) < ((frm t).size : Int)) := by omega
  have hcat : ¬ (9223372036854775807 < (tailOf s).size + (frm t).size) := by omega
  have HLt := hide hL
  have HRm := hide (fun u (hu : LAt u p q o n s false) => room_any p q o n s false u hu (by omega) hs)
  have HTo := hide (fun u (hu : LAt u p q o n s false) => touched_any p q o n s (tailOf s ++ frm t) false u hu (by omega) (by omega) (by rw [ByteArray.size_append]; omega))
  have HLy := hide (fun u (hu : Below w.heap.size w u) => append_lay q o n s (frm t) st F w u hD hok hlo ho (by omega) hu)
  have HTl := hide (fun u => tail_any (tailOf s ++ frm t) u (by rw [ByteArray.size_append]; omega))
  have hD0 := hD
  have HPF := hide hp
  have HTA := hide (tail_app s (frm t))
  have hsum : wrap64 ((s.size : Int) + ((frm t).size : Int)) = ((s.size + (frm t).size : Nat) : Int) := by unfold wrap64; omega
  have HSA : Hid ((s ++ frm t).size = s.size + (frm t).size) := ByteArray.size_append
  have HDD := hide hD
  
  have HPU := hide hput
  rw [hput] at HLy
  clear hL hD hp hok hlo ho ht hn hs hfit hput hfs hts hD0
  generalize puts o (prs n (blkOf s) (blkOf (s ++ frm t))) 0 st = P at *
  generalize hTs : tailOf s = T at *
  generalize hsf : s ++ frm t = SF at *
  generalize frm t = f at *
  have HTs := hide hTs
  have HSf := hide hsf
  clear hTs hsf
  go_enter Tryz.func192, Tryz.ntmps192
  go_wp2_with fail
  refine KF.out.mono ?_
  rintro e w1 ⟨rfl, hb1⟩
  have hL1 : LAt w1 p q o n s false := HLt.out.same (hb1.block p HLt.out.lt)
  have d4 := hL1.c4
  rw [HTs.out] at d4
  have KR := hide (HRm.out w1 hL1)
  have HL1 := hide hL1
  have HB1 := hide hb1
  clear hL1 hb1
  go_wp2_with fail
  refine KR.out.mono ?_
  rintro e w2 ⟨rfl, m, rfl⟩
  go_wp2_with fail
  have HB2 := hide (below_drewN HB1.out m)
  have D4 : Hid ((w1.drewN m).drew.cell? ⟨p, 4, none⟩ = some (.string T)) := d4
  have HT2 : Hid (LAt (w1.drewN m).drew p q o n s false) := HL1.out
  have HB3 : Hid (Below w.heap.size w (w1.drewN m).drew) := HB2.out.drew
  clear d4 c0 c5
  generalize hNT : ((T ++ f).size + 254) / 255 = nt at *
  generalize hOT : o + s.size / 255 = ot at *
  clear hNT hOT
  generalize hX : T ++ f = X at *
  have HX := hide hX
  clear hX
  generalize w1.drewN m = w2 at *
  go_region_held3 (fun z => z.cell? ⟨p, 4, none⟩ = some (.string T))
    (first | (with_reducible exact D4.out) | ((with_reducible refine cellB hbT ?_); with_reducible assumption) | ((with_reducible refine cellLoc hlay HPF.out ?_); with_reducible assumption) | ((with_reducible refine cellAl ?_ _); with_reducible assumption))
    (first
      | (go_at_call 196; refine (HTo.out _ HT2.out).mono ?_; rintro e w5 ⟨rfl, hbT⟩; have HB5 := hide (bnext HB3.out hbT))
      | (go_at_call_of 106 (Value.string T); refine (blocks_any T _).mono ?_; rintro e w6 ⟨rfl, rfl⟩)
      | (go_at_call_of 106 (Value.string X); refine (blocks_any X _).mono ?_; rintro e w6 ⟨rfl, rfl⟩)
      | (go_at_call 159; refine (HLy.out _ HB5.out).mono ?_; rintro e w7 ⟨⟨bb, rfl⟩, F7, hd7, hlay⟩))
  have hLd := Laid.mk' HLt.out HPF.out HB5.out hd7 hlay
  have HLd := hide hLd
  have e3 := hLd.log.c3
  have f3 := hLd.log.free 3
  clear hd7 hlay hbT hLd
  go_wp2_with fail
  refine (HTl.out _).mono ?_
  rintro e w8 ⟨rfl, hb8⟩
  have e8 : w8.cell? ⟨p, 4, none⟩ = some (.string (tailOf s)) ∧ w8.frozen? ⟨p, 4, none⟩ = false := HLd.out.at8 hb8
  obtain ⟨e4, f4⟩ := e8
  have HB8 := hide hb8
  clear hb8
  go_wp2
  go_ret
  refine Laid.done HLd.out HB8.out ?_ ?_
  · exact HSA.out
  · exact HTA.out
end Go.Proofs.YtchhojkhfdkhfaaGreatDoor
namespace Go.Proofs.YtchhojkhfdkhfaaGreatDoor
open Go Go.RowKit Frm
set_option maxRecDepth 10000 in
set_option maxHeartbeats 4000000 in
theorem append_err (p q o n : Nat) (s t : ByteArray) (st : St) (F : Nat → Prop) (w : World) (hL : LAt w p q o n s false) (hD : DAt w q st F) (hp : ¬ F p) (hok : st.Ok) (hlo : st.loose.length + n ≤ 10000) (ho : o + n ≤ 4096) (ht : t.size ≤ 65536) (hn : n ≤ 200) (hs : s.size ≤ n * 255) (hfit : s.size + (t.size + 8) ≤ n * 255) (hput : (puts o (prs n (blkOf s) (blkOf (s ++ frm t))) 0 st).1 ≠ 0) :
    Calls Tryz.prog 192 #[.pointer (some ⟨p, 0, none⟩), .string t] w (Apd p q o n s true (puts o (prs n (blkOf s) (blkOf (s ++ frm t))) 0 st).2 F w (((puts o (prs n (blkOf s) (blkOf (s ++ frm t))) 0 st).1 : Nat) : Int)) := by
  have c0 := hL.c0
  have c5 := hL.c5
  have hfs := frm_size t
  have hts := tail_size s
  have KF := hide (frame_any t w ht)
  have hz : ¬ ((n : Int) * 255 - (s.size : Int) < ((frm t).size : Int)) := by omega
  have hcat : ¬ (9223372036854775807 < (tailOf s).size + (frm t).size) := by omega
  have HLt := hide hL
  have HRm := hide (fun u (hu : LAt u p q o n s false) => room_any p q o n s false u hu (by omega) hs)
  have HTo := hide (fun u (hu : LAt u p q o n s false) => touched_any p q o n s (tailOf s ++ frm t) false u hu (by omega) (by omega) (by rw [ByteArray.size_append]; omega))
  have HLy := hide (fun u (hu : Below w.heap.size w u) => append_lay q o n s (frm t) st F w u hD hok hlo ho (by omega) hu)
  have HTl := hide (fun u => tail_any (tailOf s ++ frm t) u (by rw [ByteArray.size_append]; omega))
  have hD0 := hD
  have HPF := hide hp
  have HTA := hide (tail_app s (frm t))
  have hsum : wrap64 ((s.size : Int) + ((frm t).size : Int)) = ((s.size + (frm t).size : Nat) : Int) := by unfold wrap64; omega
  have HSA : Hid ((s ++ frm t).size = s.size + (frm t).size) := ByteArray.size_append
  have HDD := hide hD
  have hez : ¬ ((((puts o (prs n (blkOf s) (blkOf (s ++ frm t))) 0 st).1 : Nat) : Int) = 0) := by omega
  have HPU := hide hput
  
  clear hL hD hp hok hlo ho ht hn hs hfit hput hfs hts hD0
  generalize puts o (prs n (blkOf s) (blkOf (s ++ frm t))) 0 st = P at *
  generalize hTs : tailOf s = T at *
  generalize hsf : s ++ frm t = SF at *
  generalize frm t = f at *
  have HTs := hide hTs
  have HSf := hide hsf
  clear hTs hsf
  go_enter Tryz.func192, Tryz.ntmps192
  go_wp2_with fail
  refine KF.out.mono ?_
  rintro e w1 ⟨rfl, hb1⟩
  have hL1 : LAt w1 p q o n s false := HLt.out.same (hb1.block p HLt.out.lt)
  have d4 := hL1.c4
  rw [HTs.out] at d4
  have KR := hide (HRm.out w1 hL1)
  have HL1 := hide hL1
  have HB1 := hide hb1
  clear hL1 hb1
  go_wp2_with fail
  refine KR.out.mono ?_
  rintro e w2 ⟨rfl, m, rfl⟩
  go_wp2_with fail
  have HB2 := hide (below_drewN HB1.out m)
  have D4 : Hid ((w1.drewN m).drew.cell? ⟨p, 4, none⟩ = some (.string T)) := d4
  have HT2 : Hid (LAt (w1.drewN m).drew p q o n s false) := HL1.out
  have HB3 : Hid (Below w.heap.size w (w1.drewN m).drew) := HB2.out.drew
  clear d4 c0 c5
  generalize hNT : ((T ++ f).size + 254) / 255 = nt at *
  generalize hOT : o + s.size / 255 = ot at *
  clear hNT hOT
  generalize hX : T ++ f = X at *
  have HX := hide hX
  clear hX
  generalize w1.drewN m = w2 at *
  go_region_held3 (fun z => z.cell? ⟨p, 4, none⟩ = some (.string T))
    (first | (with_reducible exact D4.out) | ((with_reducible refine cellB hbT ?_); with_reducible assumption) | ((with_reducible refine cellLoc hlay HPF.out ?_); with_reducible assumption) | ((with_reducible refine cellAl ?_ _); with_reducible assumption))
    (first
      | (go_at_call 196; refine (HTo.out _ HT2.out).mono ?_; rintro e w5 ⟨rfl, hbT⟩; have HB5 := hide (bnext HB3.out hbT))
      | (go_at_call_of 106 (Value.string T); refine (blocks_any T _).mono ?_; rintro e w6 ⟨rfl, rfl⟩)
      | (go_at_call_of 106 (Value.string X); refine (blocks_any X _).mono ?_; rintro e w6 ⟨rfl, rfl⟩)
      | (go_at_call 159; refine (HLy.out _ HB5.out).mono ?_; rintro e w7 ⟨⟨bb, rfl⟩, F7, hd7, hlay⟩))
  have hLd := Laid.mk' HLt.out HPF.out HB5.out hd7 hlay
  have HLd := hide hLd
  have e5 := hLd.log.c5
  have f5 := hLd.log.free 5
  clear hd7 hlay hbT hLd
  go_wp2
  go_ret
  exact HLd.out.broken _
end Go.Proofs.YtchhojkhfdkhfaaGreatDoor
namespace Go.Proofs.YtchhojkhfdkhfaaGreatDoor
open Go Go.RowKit Frm Go.Shelf
/-- What Open answers, and leaves. -/
def Opened (q o N : Nat) (r : (Nat × ByteArray × List ByteArray) × St) (F : Nat → Prop) (w : World) (e : Ending) (w' : World) : Prop :=
  (r.1.1 = 0 ∧ HasLog q o N r.1.2.1 r.1.2.2 r.2 F w e w') ∨ (r.1.1 ≠ 0 ∧ NoLog q r.2 F w ((r.1.1 : Nat) : Int) e w')
theorem pOpen (q o N : Nat) (st : St) (F : Nat → Prop) (w : World) (hD : DAt w q st F) (hok : st.Ok) (hl : st.loose.length + N + N ≤ 10000) (hN : o + N ≤ st.sure.length) (h1 : 1 ≤ N) (hN2 : N ≤ 200) :
    Calls Tryz.prog 85 #[.pointer (some ⟨q, 0, none⟩), .int .i64 (o : Int), .int .i64 (N : Int)] w (Opened q o N (walOpen st o N) F w) := by
  rw [walOpen_eq]
  by_cases h0 : st.left = 0
  · rw [if_pos h0]
    exact (open_down q o N st F w hD hok hl hN h1 hN2 h0).mono (fun e w' h => Or.inr ⟨by simp, h⟩)
  · rw [if_neg h0]
    by_cases hx : (scn (streamOf (reads st o N))).2.2 = 41 ∨ (scn (streamOf (reads st o N))).2.2 = 4
    · rw [if_pos hx]
      rcases hx with hx | hx
      · exact (open_bad41 q o N st F w hD hok hl hN h1 hN2 h0 hx).mono (fun e w' h => Or.inr ⟨by simp, h⟩)
      · exact (open_bad4 q o N st F w hD hok hl hN h1 hN2 h0 hx).mono (fun e w' h => Or.inr ⟨by simp, h⟩)
    · rw [if_neg hx]
      by_cases hm : (mended o N (fun i => st.at (o + i)) (kept (reads st o N)) st).1 = 0
      · rw [if_neg (by rw [hm]; simp)]
        exact (open_ok q o N st F w hD hok hl hN h1 hN2 h0 (fun e => hx (Or.inl e)) (fun e => hx (Or.inr e)) hm).mono (fun e w' h => Or.inl ⟨rfl, h⟩)
      · rw [if_pos hm]
        exact (open_err q o N st F w hD hok hl hN h1 hN2 h0 (fun e => hx (Or.inl e)) (fun e => hx (Or.inr e)) hm).mono (fun e w' h => Or.inr ⟨hm, h⟩)
/-- Whether Append breaks the log. -/
def brk (st : St) (o n : Nat) (s t : ByteArray) : Bool := decide (t.size ≤ 65536 ∧ s.size + (t.size + 8) ≤ n * 255 ∧ (puts o (prs n (blkOf s) (blkOf (s ++ frm t))) 0 st).1 ≠ 0)
theorem pAppend (p q o n : Nat) (s t : ByteArray) (st : St) (F : Nat → Prop) (w : World) (hL : LAt w p q o n s false) (hD : DAt w q st F) (hp : ¬ F p) (hok : st.Ok) (hlo : st.loose.length + n ≤ 10000) (ho : o + n ≤ 4096) (hn : n ≤ 200) (hs : s.size ≤ n * 255) (ht : t.size ≤ maxLen) :
    Calls Tryz.prog 192 #[.pointer (some ⟨p, 0, none⟩), .string t] w (Apd p q o n (walAppend st o n s t).2.1 (brk st o n s t) (walAppend st o n s t).2.2 F w (((walAppend st o n s t).1 : Nat) : Int)) := by
  unfold walAppend brk
  by_cases h1 : 65536 < t.size
  · rw [if_pos h1, decide_eq_false (fun h => by omega)]
    exact append_long' p q o n s t st F w hL hD hp h1 ht
  · rw [if_neg h1]
    by_cases h2 : n * 255 < s.size + (t.size + 8)
    · rw [if_pos h2, decide_eq_false (fun h => by omega)]
      exact append_full' p q o n s t st F w hL hD hp (by omega) hn hs h2
    · rw [if_neg h2]
      by_cases h3 : (puts o (prs n (blkOf s) (blkOf (s ++ frm t))) 0 st).1 = 0
      · rw [if_neg (by rw [h3]; simp), decide_eq_false (fun h => h.2.2 h3)]
        exact append_ok p q o n s t st F w hL hD hp hok hlo ho (by omega) hn hs (by omega) h3
      · rw [if_pos h3, decide_eq_true ⟨by omega, by omega, h3⟩]
        exact append_err p q o n s t st F w hL hD hp hok hlo ho (by omega) hn hs (by omega) h3
end Go.Proofs.YtchhojkhfdkhfaaGreatDoor
namespace Go.Proofs.YtchhojkhfdkhfaaGreatDoor
open Go Go.RowKit Frm
/-- The document's store at block p, its disk at q, its log at l. -/
structure RS0 (u : World) (p q l : Nat) (b : Bool) (ck lg : Nat) (s : Sto) (st : St) (G : Nat → Prop) : Prop where
  d : RD u q st G
  c : u.heap[p]? = some (.cells #[.pointer (some ⟨q, 0, none⟩), .int .i64 (ck : Int), .int .i64 (lg : Int), .int .u64 (s.gen : Int), .pointer (some ⟨l, 0, none⟩), .bool s.broken] 54 (0, 0))
  log : RLAt u l q (lo ck lg s.gen) lg s.str b
  np : ¬ G p
  nl : ¬ G l
  pl : p ≠ l
  sz : s.str.size ≤ lg * 255
/-- .. with all its blocks. -/
def RS (u : World) (p q ck lg : Nat) (s : Sto) (st : St) (A : Nat → Prop) : Prop := ∃ l b G, RS0 u p q l b ck lg s st G ∧ (s.broken = false → b = false) ∧ A = fun k => G k ∨ k = l ∨ k = p
theorem RS0.plt {u : World} {p q l : Nat} {b : Bool} {ck lg : Nat} {s : Sto} {st : St} {G : Nat → Prop} (h : RS0 u p q l b ck lg s st G) : p < u.heap.size := (Array.getElem?_eq_some_iff.1 h.c).1
theorem RS.lt {u : World} {p q ck lg : Nat} {s : Sto} {st : St} {A : Nat → Prop} (h : RS u p q ck lg s st A) : ∀ k, A k → k < u.heap.size := by
  obtain ⟨l, b, G, h, _, rfl⟩ := h
  rintro k (h1 | rfl | rfl)
  · exact h.d.lt k h1
  · exact h.log.lt
  · exact h.plt
theorem RS.same {u v : World} {p q ck lg : Nat} {s : Sto} {st : St} {A : Nat → Prop} (h : RS u p q ck lg s st A) (hs : ∀ k, A k → v.heap[k]? = u.heap[k]?) : RS v p q ck lg s st A := by
  obtain ⟨l, b, G, h, hb, rfl⟩ := h
  exact ⟨l, b, G, ⟨h.d.same (fun k hk => hs k (Or.inl hk)), (hs p (Or.inr (Or.inr rfl))).trans h.c, h.log.same (hs l (Or.inr (Or.inl rfl))), h.np, h.nl, h.pl, h.sz⟩, hb, rfl⟩
theorem RS.below {u v : World} {p q ck lg : Nat} {s : Sto} {st : St} {A : Nat → Prop} (h : RS u p q ck lg s st A) (hb : Below u.heap.size u v) : RS v p q ck lg s st A := h.same (fun k hk => hb.block k (h.lt k hk))
theorem RS.disk {u : World} {p q ck lg : Nat} {s : Sto} {st : St} {A : Nat → Prop} (h : RS u p q ck lg s st A) : ∃ G, RD u q st G ∧ ∀ k, G k → A k := by
  obtain ⟨l, b, G, h, _, rfl⟩ := h
  exact ⟨G, h.d, fun k hk => Or.inl hk⟩
theorem load_gen (st : St) (o n : Int) : (st.load o n).1.1 ≤ 4611686018427387904 := by
  have hw : ∀ l odd, (wholeT l odd).1 ≤ 4611686018427387904 := fun l odd => by
    unfold wholeT
    simp only
    split
    · exact Nat.zero_le _
    · rename_i h
      split
      · show numL _ ≤ _; omega
      · exact Nat.zero_le _
  unfold St.load
  split
  · exact Nat.zero_le _
  · split
    · exact Nat.zero_le _
    · simp only
      split
      · exact Nat.zero_le _
      · split
        · exact hw _ _
        · exact hw _ _
/-- .. and a box for what is kept. -/
structure By (w : World) (F0 : Nat → Prop) (B p : Nat) (k l : Int) (st : St) (F : Nat → Prop) (u : World) : Prop where
  bx : Bx w F0 B p k l st F u
  kp : u.heap[B + 1]? = some (.cells #[.int .u64 0, .string ⟨#[]⟩, .slice none 0 0] 61 (0, 0))
  nK : ¬ F (B + 1)
theorem By.start {w : World} {F0 : Nat → Prop} {p : Nat} {k l : Int} {st : St} {F : Nat → Prop} {u : World} {B : Nat} (h : Bx w F0 B p k l st F u) (hB : u.heap.size = B + 1) : By w F0 B p k l st F (u.alloc (.cells #[.int .u64 0, .string ⟨#[]⟩, .slice none 0 0] 61)) :=
  ⟨h.keep ((Below.refl _ _).alloc (Nat.le_refl _) _), by rw [← hB]; exact heap_alloc_last u _, fun hf => by have := h.r.lt _ hf; omega⟩
theorem By.keep {w : World} {F0 : Nat → Prop} {B p : Nat} {k l : Int} {st : St} {F : Nat → Prop} {u v : World} (h : By w F0 B p k l st F u) (hb : Below u.heap.size u v) : By w F0 B p k l st F v :=
  ⟨h.bx.keep hb, (hb.block _ (Array.getElem?_eq_some_iff.1 h.kp).1).trans h.kp, h.nK⟩
theorem By.step {w : World} {F0 : Nat → Prop} {B p : Nat} {k l : Int} {st st2 : St} {F F' : Nat → Prop} {u v : World} (h : By w F0 B p k l st F u) (hr : RD v p st2 F') (hl : Loc F F' u v) : By w F0 B p k l st2 F' v := by
  have hlt : B + 1 < u.heap.size := (Array.getElem?_eq_some_iff.1 h.kp).1
  refine ⟨h.bx.step hr hl, (hl.block _ hlt h.nK).trans h.kp, fun hf => ?_⟩
  rcases hl.own _ hf with h1 | h1
  · exact h.nK h1
  · omega
theorem By.cells {w : World} {F0 : Nat → Prop} {B p : Nat} {k l : Int} {st : St} {F : Nat → Prop} {u : World} (h : By w F0 B p k l st F u) :
    (u.cell? ⟨B + 1, 0, none⟩ = some (.int .u64 0) ∧ u.cell? ⟨B + 1, 1, none⟩ = some (.string ⟨#[]⟩) ∧ u.cell? ⟨B + 1, 2, none⟩ = some (.slice none 0 0)) ∧ ∀ i, u.frozen? ⟨B + 1, i, none⟩ = false := by
  have e := h.kp
  refine ⟨⟨?_, ?_, ?_⟩, fun i => by simp [World.frozen?, e]⟩ <;> simp [World.cell?, e]
theorem Loc.set_new {F0 F : Nat → Prop} {w u : World} (h : Loc F0 F w u) (b i : Nat) (v : Value) (hb : w.heap.size ≤ b) : Loc F0 F w (u.setCell ⟨b, i, none⟩ v) :=
  ⟨h.os, h.tape, h.output, by rw [show (u.setCell ⟨b, i, none⟩ v).heap.size = u.heap.size from by simp [World.setCell]]; exact h.size, fun k hk hf => (Below.heap_setCell u ⟨b, i, none⟩ v k (fun e => by have : k = b := e; omega)).trans (h.block k hk hf), h.own⟩
theorem results_tct {P : Program} {fn : Func} {t c u : Tmp} {ty : TypeId} (h : fn.results = #[.tmp t, .cell c ty, .tmp u]) (tmps : Array Value) (w : World) (g : Nat) (tt : TypeId) (cs : Array Value) (fr : Nat × Nat) (d : TypeDesc)
    (hp : tmps.getD c undef = .pointer (some ⟨g, 0, none⟩)) (hg : w.heap[g]? = some (.cells cs tt fr))
    (hu : P.underlying ty = some d) (hd : (match d with | .struct _ | .array _ _ => true | _ => false) = true) (hi : (P.info? ty).map (·.size) = some cs.size) :
    (results fn tmps).run P w = .ok (.tuple #[tmps.getD t undef, .agg cs, tmps.getD u undef]) w := by
  have hp' : tmps[c]?.getD undef = .pointer (some ⟨g, 0, none⟩) := by simpa using hp
  simp [results, h, hp', asAddr, run_loadVar_row w g tt ty cs fr d hg hu hd hi]
theorem info61 : (Tryz.prog.info? 61).map (·.size) = some 3 := by kernel_rfl
/-- What is kept, written into its box. -/
theorem By.row {w : World} {F0 : Nat → Prop} {B p : Nat} {k l : Int} {st : St} {F : Nat → Prop} {u : World} (h : By w F0 B p k l st F u) (v0 v1 v2 : Value) :
    (((u.setCell ⟨B + 1, 0, none⟩ v0).setCell ⟨B + 1, 1, none⟩ v1).setCell ⟨B + 1, 2, none⟩ v2).heap[B + 1]? = some (.cells #[v0, v1, v2] 61 (0, 0)) :=
  heap_set3 (i := 2) (heap_set3 (i := 1) (heap_set3 (i := 0) h.kp v0) v1) v2
theorem By.fin {w : World} {F0 : Nat → Prop} {B p : Nat} {k l : Int} {st : St} {F : Nat → Prop} {u : World} (h : By w F0 B p k l st F u) (hB : w.heap.size ≤ B) (v0 v1 v2 : Value) :
    RD (((u.setCell ⟨B + 1, 0, none⟩ v0).setCell ⟨B + 1, 1, none⟩ v1).setCell ⟨B + 1, 2, none⟩ v2) p st F ∧ Loc F0 F w (((u.setCell ⟨B + 1, 0, none⟩ v0).setCell ⟨B + 1, 1, none⟩ v1).setCell ⟨B + 1, 2, none⟩ v2) := by
  have hne : ∀ k, F k → k ≠ B + 1 := fun k hk e => h.nK (e ▸ hk)
  refine ⟨h.bx.r.same (fun k hk => ?_), ((h.bx.loc.set_new _ _ _ (by omega)).set_new _ _ _ (by omega)).set_new _ _ _ (by omega)⟩
  rw [Below.heap_setCell _ ⟨B + 1, 2, none⟩ v2 k (hne k hk), Below.heap_setCell _ ⟨B + 1, 1, none⟩ v1 k (hne k hk), Below.heap_setCell _ ⟨B + 1, 0, none⟩ v0 k (hne k hk)]
theorem strs_set8 {u : World} {B i : Nat} {v : Value} {a : Option Addr} {l : List ByteArray} (h : StrsAt u a l) (hn : ∀ b off, a = some ⟨b, off, none⟩ → b ≠ B) : StrsAt (u.setCell ⟨B, i, none⟩ v) a l := by
  rcases h with rfl | ⟨b, off, rfl, hx⟩
  · exact Or.inl rfl
  · exact Or.inr ⟨b, off, rfl, fun j hj => (World.cell?_setCell_other u ⟨B, i, none⟩ ⟨b, off + j, none⟩ v (fun e => hn b off rfl (congrArg Addr.block e).symm)).trans (hx j hj)⟩
end Go.Proofs.YtchhojkhfdkhfaaGreatDoor
namespace Go.Proofs.YtchhojkhfdkhfaaGreatDoor
open Go Go.RowKit Frm
theorem RLAt.c0 {u : World} {p q o n : Nat} {s : ByteArray} {b : Bool} (h : RLAt u p q o n s b) : u.cell? ⟨p, 0, none⟩ = some (.pointer (some ⟨q, 0, none⟩)) := by simp [World.cell?, show u.heap[p]? = _ from h]
theorem RLAt.c1 {u : World} {p q o n : Nat} {s : ByteArray} {b : Bool} (h : RLAt u p q o n s b) : u.cell? ⟨p, 1, none⟩ = some (.int .i64 (o : Int)) := by simp [World.cell?, show u.heap[p]? = _ from h]
theorem RLAt.c2 {u : World} {p q o n : Nat} {s : ByteArray} {b : Bool} (h : RLAt u p q o n s b) : u.cell? ⟨p, 2, none⟩ = some (.int .i64 (n : Int)) := by simp [World.cell?, show u.heap[p]? = _ from h]
theorem RLAt.c3 {u : World} {p q o n : Nat} {s : ByteArray} {b : Bool} (h : RLAt u p q o n s b) : u.cell? ⟨p, 3, none⟩ = some (.string s) := by simp [World.cell?, show u.heap[p]? = _ from h]
theorem RLAt.c4 {u : World} {p q o n : Nat} {s : ByteArray} {b : Bool} (h : RLAt u p q o n s b) : u.cell? ⟨p, 4, none⟩ = some (.bool b) := by simp [World.cell?, show u.heap[p]? = _ from h]
theorem RLAt.free {u : World} {p q o n : Nat} {s : ByteArray} {b : Bool} (h : RLAt u p q o n s b) (i : Nat) : u.frozen? ⟨p, i, none⟩ = false := by simp [World.frozen?, show u.heap[p]? = _ from h]
/-- What Append answers, and leaves. -/
def RApd (p q o n : Nat) (s : ByteArray) (b : Bool) (st : St) (F : Nat → Prop) (w : World) (x : Int) (e : Ending) (w' : World) : Prop :=
  e = .returned (.int .i64 x) ∧ RLAt w' p q o n s b ∧ ∃ F', RD w' q st F' ∧ Loc (fun k => F k ∨ k = p) (fun k => F' k ∨ k = p) w w' ∧ ¬ F' p
theorem RApd.same {p q o n : Nat} {s : ByteArray} {b : Bool} {st : St} {F : Nat → Prop} {w w' : World} {x : Int} (hL : RLAt w p q o n s b) (hD : RD w q st F) (hp : ¬ F p) (hb : Below w.heap.size w w') : RApd p q o n s b st F w x (.returned (.int .i64 x)) w' :=
  ⟨rfl, hL.same (hb.block p hL.lt), F, hD.below hb, Loc.of_below _ hb, hp⟩
/-- In the midst of it. -/
structure RMid (w : World) (p q o n : Nat) (s : ByteArray) (a b : Nat → ByteArray) (st : St) (F : Nat → Prop) (k : Nat) (cur : St) (F' : Nat → Prop) (u : World) : Prop where
  puts : puts o (prs k a b) 0 st = (0, cur)
  disk : RD u q cur F'
  loc : Loc F F' w u
  log : RLAt u p q o n s false
  notp : ¬ F' p
theorem RMid.keep {w : World} {p q o n : Nat} {s : ByteArray} {a b : Nat → ByteArray} {st : St} {F : Nat → Prop} {k : Nat} {cur : St} {F' : Nat → Prop} {u v : World} (h : RMid w p q o n s a b st F k cur F' u) (hb : Below u.heap.size u v) : RMid w p q o n s a b st F k cur F' v :=
  ⟨h.puts, h.disk.below hb, h.loc.trans (Loc.of_below _ hb), h.log.same (hb.block p h.log.lt), h.notp⟩
theorem RMid.c3 {w : World} {p q o n : Nat} {s : ByteArray} {a b : Nat → ByteArray} {st : St} {F : Nat → Prop} {k : Nat} {cur : St} {F' : Nat → Prop} {u : World} (h : RMid w p q o n s a b st F k cur F' u) : u.cell? ⟨p, 3, none⟩ = some (.string s) := h.log.c3
theorem RMid.cells {w : World} {p q o n : Nat} {s : ByteArray} {a b : Nat → ByteArray} {st : St} {F : Nat → Prop} {k : Nat} {cur : St} {F' : Nat → Prop} {u : World} (h : RMid w p q o n s a b st F k cur F' u) : u.cell? ⟨p, 0, none⟩ = some (.pointer (some ⟨q, 0, none⟩)) ∧ u.cell? ⟨p, 1, none⟩ = some (.int .i64 (o : Int)) ∧ u.cell? ⟨p, 2, none⟩ = some (.int .i64 (n : Int)) ∧ u.cell? ⟨p, 3, none⟩ = some (.string s) := ⟨h.log.c0, h.log.c1, h.log.c2, h.log.c3⟩
theorem RMid.c01 {w : World} {p q o n : Nat} {s : ByteArray} {a b : Nat → ByteArray} {st : St} {F : Nat → Prop} {k : Nat} {cur : St} {F' : Nat → Prop} {u : World} (h : RMid w p q o n s a b st F k cur F' u) : u.cell? ⟨p, 0, none⟩ = some (.pointer (some ⟨q, 0, none⟩)) ∧ u.cell? ⟨p, 1, none⟩ = some (.int .i64 (o : Int)) := ⟨h.log.c0, h.log.c1⟩
/-- Behind a write. -/
structure RAft (w : World) (p q o n : Nat) (s : ByteArray) (st' : St) (F F' : Nat → Prop) (u : World) : Prop where
  disk : RD u q st' F'
  loc : Loc F F' w u
  log : RLAt u p q o n s false
  notp : ¬ F' p
theorem RAft.c01 {w : World} {p q o n : Nat} {s : ByteArray} {st' : St} {F F' : Nat → Prop} {u : World} (h : RAft w p q o n s st' F F' u) : u.cell? ⟨p, 0, none⟩ = some (.pointer (some ⟨q, 0, none⟩)) ∧ u.cell? ⟨p, 1, none⟩ = some (.int .i64 (o : Int)) := ⟨h.log.c0, h.log.c1⟩
theorem RAft.broken {w : World} {p q o n : Nat} {s : ByteArray} {st' : St} {F F' : Nat → Prop} {u : World} (h : RAft w p q o n s st' F F' u) (x : Int) : RApd p q o n s true st' F w x (.returned (.int .i64 x)) (u.setCell ⟨p, 4, none⟩ (.bool true)) := by
  refine ⟨rfl, ?_, F', h.disk.same (fun k hk => Below.heap_setCell u _ _ k (fun e => h.notp (by rw [show k = p from e] at hk; exact hk))), (h.loc.or (P := fun k => k = p)).trans (Loc.setCell u ⟨p, 4, none⟩ _ (Or.inr rfl)), h.notp⟩
  exact heap_set3 (i := 4) h.log (.bool true)
theorem RMid.done {w : World} {p q o n : Nat} {s : ByteArray} {a b : Nat → ByteArray} {st : St} {F : Nat → Prop} {k : Nat} {cur : St} {F' : Nat → Prop} {u : World} (h : RMid w p q o n s a b st F k cur F' u) (sf : ByteArray) : RApd p q o n sf false cur F w 0 (.returned (.int .i64 0)) (u.setCell ⟨p, 3, none⟩ (.string sf)) := by
  refine ⟨rfl, ?_, F', h.disk.same (fun k hk => Below.heap_setCell u _ _ k (fun e => h.notp (by rw [show k = p from e] at hk; exact hk))), (h.loc.or (P := fun k => k = p)).trans (Loc.setCell u ⟨p, 3, none⟩ _ (Or.inr rfl)), h.notp⟩
  exact heap_set3 (i := 3) h.log (.string sf)
end Go.Proofs.YtchhojkhfdkhfaaGreatDoor
