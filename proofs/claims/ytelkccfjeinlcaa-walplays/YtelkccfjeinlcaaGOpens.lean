/- Package wal's Open: a log is there. Package wal's Open: the disk stands still in its midst. -/
import Derived.Test.YtelkccfjeinlcaaGOpen
namespace Go.Proofs.Ytelkccfjeinlcaa
open Go Go.RowKit Frm Go.Shelf
set_option maxRecDepth 10000 in
set_option maxHeartbeats 2000000 in
theorem open_ok (q o N : Nat) (st : St) (F : Nat → Prop) (w : World) (hD : DAt w q st F) (hok : st.Ok) (hl : st.loose.length + N + N ≤ 10000) (hN : o + N ≤ st.sure.length) (h1 : 1 ≤ N) (hN2 : N ≤ 200) (h0 : st.left ≠ 0) (hx1 : (scn (streamOf (reads st o N))).2.2 ≠ 41) (hx2 : (scn (streamOf (reads st o N))).2.2 ≠ 4) (hm : (mended o N (fun i => st.at (o + i)) (kept (reads st o N)) st).1 = 0) :
    Calls Try.prog 19 #[.pointer (some ⟨q, 0, none⟩), .int .i64 (o : Int), .int .i64 (N : Int)] w (HasLog q o N (kept (reads st o N)) (scn (streamOf (reads st o N))).1 (mended o N (fun i => st.at (o + i)) (kept (reads st o N)) st).2 F w) := by
  have hfew := hok.few
  have hF := con.lt hD
  obtain ⟨W, hW⟩ : ∃ W, w.alloc (.cells #[.pointer (some ⟨q, 0, none⟩), .int .i64 (o : Int), .int .i64 (N : Int)] 87) = W := ⟨_, rfl⟩
  have hbW : Below w.heap.size w W := by rw [← hW]; exact (Below.refl _ _).alloc (Nat.le_refl _) _
  have hszW : W.heap.size = w.heap.size + 1 := by rw [← hW]; simp
  have harea : W.heap[w.heap.size]? = some (.cells #[.pointer (some ⟨q, 0, none⟩), .int .i64 (o : Int), .int .i64 (N : Int)] 87 (0, 0)) := by rw [← hW]; exact World.alloc_heap_new w _
  have hc0 : W.cell? ⟨w.heap.size, 0, none⟩ = some (.pointer (some ⟨q, 0, none⟩)) := by simp [World.cell?, harea]
  have hc1 : W.cell? ⟨w.heap.size, 1, none⟩ = some (.int .i64 (o : Int)) := by simp [World.cell?, harea]
  have hc2 : W.cell? ⟨w.heap.size, 2, none⟩ = some (.int .i64 (N : Int)) := by simp [World.cell?, harea]
  have hmay : st.may (o : Int) (N : Int) := by unfold St.may; omega
  have KF : Hid (Calls Try.prog 38 #[.agg #[.pointer (some ⟨q, 0, none⟩), .int .i64 (o : Int), .int .i64 (N : Int)]] W fun e w' => e = .returned (.int .i64 0) ∧ Below W.heap.size W w') := by
    have := fault_any q (o : Int) (N : Int) st F W (con.below hD hbW) hok (by omega)
    rw [if_pos hmay] at this
    exact this
  have HCL : Hid (∀ u, Below W.heap.size W u → u.cell? ⟨w.heap.size, 0, none⟩ = some (.pointer (some ⟨q, 0, none⟩)) ∧ u.cell? ⟨w.heap.size, 1, none⟩ = some (.int .i64 (o : Int)) ∧ u.cell? ⟨w.heap.size, 2, none⟩ = some (.int .i64 (N : Int)) ∧ DAt u q st F) := fun u hu => ⟨cellB hu hc0, cellB hu hc1, cellB hu hc2, con.below (con.below hD hbW) hu⟩
  have HBW := hide hbW
  have hRd : ∀ b ∈ reads st o N, b.size = 256 := fun b hb => by
    obtain ⟨i, hi, rfl⟩ := List.getElem_of_mem hb
    rw [reads_at]
    rw [reads_length] at hi
    exact at_size hok _ (by omega)
  have hUp : ∀ b ∈ upTo (reads st o N), b.size = 256 := fun b hb => by
    rw [upTo_prefix] at hb
    exact hRd b (List.mem_of_mem_take hb)
  have hUl : (upTo (reads st o N)).length ≤ N := by have := upTo_le (reads st o N); rw [reads_length] at this; exact this
  have hSs : (streamOf (reads st o N)).size ≤ 65536 := by
    have := heads_size (upTo (reads st o N)) hUp
    rw [heads_upTo] at this
    have : (upTo (reads st o N)).length * 255 ≤ 200 * 255 := by omega
    omega
  have K1 : Hid (∀ u, DAt u q st F → Calls Try.prog 40 #[.agg #[.pointer (some ⟨q, 0, none⟩), .int .i64 (o : Int), .int .i64 (N : Int)], .slice none 0 0, .func (.func 41) #[] #[]] u fun e w' => ∃ bv, e = .returned (.tuple #[bv, .int .i64 0]) ∧ OwnL w' 0 bv (upTo (reads st o N)) ∧ Loc (OB (.slice none 0 0)) (OB bv) u w') := fun u hu => readOn_ends q o N (.slice none 0 0) [] st F u hu hok (by omega) hN h0 (World.ownsRow_nil _ _ _ _) rfl (Nat.zero_le _) (fun k _ => OB_nil k) (fun j hj => absurd hj (by simp))
  have K2 : Hid (∀ a c u, StrsAt u a (upTo (reads st o N)) → Calls Try.prog 42 #[.slice a (upTo (reads st o N)).length c] u fun e w' => e = .returned (.string (streamOf (reads st o N))) ∧ Below u.heap.size u w') := fun a c u hu => by
    have := stream_any (upTo (reads st o N)) a c u hu hUp (by omega)
    rw [heads_upTo] at this
    exact this
  have K3 : Hid (∀ u, Calls Try.prog 43 #[.string (streamOf (reads st o N))] u fun e w' => ∃ a c, e = .returned (.tuple #[.slice a (scn (streamOf (reads st o N))).1.length c, .int .i64 (((scn (streamOf (reads st o N))).2.1 : Nat) : Int), .int .i64 (((scn (streamOf (reads st o N))).2.2 : Nat) : Int)]) ∧ OwnL w' u.heap.size (.slice a (scn (streamOf (reads st o N))).1.length c) (scn (streamOf (reads st o N))).1 ∧ Below u.heap.size u w') := fun u => scan_any (streamOf (reads st o N)) u hSs
  have HD := hide hD
  have hgd := (scn_bound _ (streamOf (reads st o N)) (Nat.le_refl _)).1
  have K4 : Hid (∀ v u, DAt u q st F → OwnL u 0 v (upTo (reads st o N)) → (∀ k, F k → ¬ OB v k) → Calls Try.prog 40 #[.agg #[.pointer (some ⟨q, 0, none⟩), .int .i64 (o : Int), .int .i64 (N : Int)], v, .func (.func 44) #[] #[]] u fun e w' => ∃ bv, e = .returned (.tuple #[bv, .int .i64 0]) ∧ OwnL w' 0 bv (reads st o N) ∧ Loc (OB v) (OB bv) u w') := fun v u hu hv hd => readOn_all q o N v (upTo (reads st o N)) st F u hu hok (by omega) hN h0 hv (upTo_prefix _) hUl hd
  have K5 : Hid (∀ a c u, DAt u q st F → OwnL u 0 (.slice a (reads st o N).length c) (reads st o N) → (∀ k, F k → ¬ OB (.slice a (reads st o N).length c) k) → Calls Try.prog 45 #[.agg #[.pointer (some ⟨q, 0, none⟩), .int .i64 (o : Int), .int .i64 (N : Int)], .slice a (reads st o N).length c, .string (kept (reads st o N))] u fun e w' => e = .returned (.int .i64 (((mended o N (fun i => st.at (o + i)) (kept (reads st o N)) st).1 : Nat) : Int)) ∧ ∃ F', DAt w' q (mended o N (fun i => st.at (o + i)) (kept (reads st o N)) st).2 F' ∧ Loc F F' u w') := fun a c u hu hv hd => mend_any q o N a c (reads st o N) (fun i => st.at (o + i)) (kept (reads st o N)) st F u hu hok hl (by omega) (by omega) (reads_length st o N) hv hd hRd (fun i hi => reads_at st o N i hi)
  rw [hm] at K5
  have hKp : kept (reads st o N) = (streamOf (reads st o N)).extract 0 (scn (streamOf (reads st o N))).2.1 := rfl
  have hks : (kept (reads st o N)).size ≤ 281474976710656 := by rw [hKp, ByteArray.size_extract]; omega
  have K6 := hide (fun u => tail_any (kept (reads st o N)) u hks)
  have HRL := hide (reads_length st o N)
  have hz1 : ((((scn (streamOf (reads st o N))).2.2 : Nat) : Int) == 41) = false := beq_false_of_ne (by omega)
  have hz2 : ((((scn (streamOf (reads st o N))).2.2 : Nat) : Int) == 4) = false := beq_false_of_ne (by omega)
  have hz3 : (((scn (streamOf (reads st o N))).2.1 : Nat) : Int) ≤ ((streamOf (reads st o N)).size : Int) := by omega
  have HFF := hide hF
  have HAR := hide harea
  have HG : Hid (∀ w2 w3 w4 w5 v v' vR, Loc (OB (.slice none 0 0)) (OB v) W w2 → OwnL w2 0 v (upTo (reads st o N)) → Below w2.heap.size w2 w3 → Below w3.heap.size w3 w4 → OwnL w4 w3.heap.size vR (scn (streamOf (reads st o N))).1 → Loc (OB v) (OB v') w4 w5 → OwnL w5 0 v' (reads st o N) → Got w q o N st F w5 v' vR) := fun w2 w3 w4 w5 v v' vR h2 hv h3 h4 hR h5 hv' => Got.mk' (con.below hD hbW) hF hbW hszW harea h2 hv h3 h4 hR h5 hv'
  have HKE : Hid (kept (reads st o N) = (streamOf (reads st o N)).extract 0 (scn (streamOf (reads st o N))).2.1 ∧ ((streamOf (reads st o N)).extract 0 (scn (streamOf (reads st o N))).2.1).size = (scn (streamOf (reads st o N))).2.1) := ⟨hKp, by rw [ByteArray.size_extract]; omega⟩
  rw [hKp] at K5 K6
  clear hD hok hl hN h0 hbW harea hmay hRd hUp hUl hSs hF hx1 hx2 hm hks hKp hgd
  generalize hU : upTo (reads st o N) = U at *
  generalize hR : (scn (streamOf (reads st o N))).1 = R at *
  generalize (scn (streamOf (reads st o N))).2.1 = gd at *
  generalize (scn (streamOf (reads st o N))).2.2 = x at *
  generalize hS : streamOf (reads st o N) = S at *
  generalize hRr : reads st o N = L at *
  have HE := hide (And.intro hR (And.intro hS hRr))
  clear hU hR hS hRr
  go_enter Try.func19, Try.ntmps19
  go_wp2_with fail
  refine KF.out.mono ?_
  rintro e w1 ⟨rfl, hb1⟩
  obtain ⟨q0, q1, q2, hd1⟩ := HCL.out w1 hb1
  have K1a := hide (K1.out w1 hd1)
  have HB1 := hide hb1
  clear hb1 hd1
  go_wp2_with fail
  refine K1a.out.mono ?_
  rintro e w2 ⟨bv, rfl, hv, hl2⟩
  obtain ⟨a2, c2, rfl, hs2⟩ := hv.strs
  have K2a := hide (K2.out a2 c2 w2 hs2)
  have HV := hide hv
  have HL2 := hide hl2
  clear hv hl2 hs2
  go_wp2_with fail
  refine K2a.out.mono ?_
  rintro e w3 ⟨rfl, hb3⟩
  have K3a := hide (K3.out w3)
  have HB3 := hide hb3
  clear hb3
  go_wp2_with fail
  refine K3a.out.mono ?_
  rintro e w4 ⟨a4, c4, rfl, hR4, hb4⟩
  have HR4 := hide hR4
  have HB4 := hide hb4
  clear hR4 hb4
  obtain ⟨hB04, hvn⟩ := till4b HB1.out HL2.out HB3.out HB4.out
  obtain ⟨r0, r1, r2, hd4⟩ := HCL.out w4 hB04
  have K4a := hide (K4.out _ w4 hd4 (own_kept HV.out (fun k hk => by
    have e1 := own_lt0 HV.out hk
    rw [HB4.out.block k (by have := HB3.out.size; omega), HB3.out.block k e1])) (fun k hf ho => by have := HFF.out k hf; have := hvn k ho; omega))
  have HL2b := hide ((Loc.of_below (OB (.slice none 0 0)) HB1.out).trans HL2.out)
  clear hB04 hd4 hvn
  go_wp2_with fail
  refine K4a.out.mono ?_
  rintro e w5 ⟨bv, rfl, hv5, hl5⟩
  have hg := HG.out w2 w3 w4 w5 _ bv _ HL2b.out HV.out HB3.out HB4.out HR4.out hl5 hv5
  obtain ⟨a5, c5, rfl, -⟩ := hv5.strs
  have s0 := hg.c0
  have s1 := hg.c1
  have s2 := hg.c2
  have K5a := hide (K5.out a5 c5 w5 hg.disk hv5 (fun k hf ho => by have := HFF.out k hf; have := hg.newB k ho; omega))
  have HGot := hide hg
  clear hg hv5 hl5
  go_wp2_with fail
  refine K5a.out.mono ?_
  rintro e w6 ⟨rfl, F6, hd6, hl6⟩
  obtain ⟨t0, t1, t2⟩ := HGot.out.area6 HFF.out hl6
  have HD6 := hide hd6
  have HL6 := hide hl6
  have T0 := hide t0
  have T1 := hide t1
  have T2 := hide t2
  clear hd6 hl6 t0 t1 t2
  go_wp2_with fail
  generalize (S.extract 0 gd) = kp at *
  clear s0 s1 s2 r0 r1 r2 q0 q1 q2 hc0 hc1 hc2
  go_region_held3 (fun z => z.cell? ⟨w.heap.size, 0, none⟩ = some (.pointer (some ⟨q, 0, none⟩)) ∧ z.cell? ⟨w.heap.size, 1, none⟩ = some (.int .i64 (o : Int)) ∧ z.cell? ⟨w.heap.size, 2, none⟩ = some (.int .i64 (N : Int)) ∧ Below w6.heap.size w6 z)
    (((with_reducible refine oldS T0.out T1.out T2.out ?_); first | (with_reducible exact (Below.refl _ _).drew) | ((with_reducible refine bnext ?_ hbc); go_split_ands; with_reducible assumption) | ((with_reducible refine bgrow ?_ _); go_split_ands; with_reducible assumption)))
    ((go_at_call 46; refine (K6.out _).mono ?_; rintro e w7 ⟨rfl, hbc⟩))
  go_split_ands
  have HB7 := hide hbc
  clear hbc
  go_wp2
  go_ret3
  obtain ⟨hR, hS, hRr⟩ := HE.out
  have hend := open_end HGot.out HFF.out HL6.out HD6.out HB7.out HKE.out.2
  rw [hRr, hS, hR] at hend
  rw [HKE.out.1]
  exact hend
end Go.Proofs.Ytelkccfjeinlcaa
namespace Go.Proofs.Ytelkccfjeinlcaa
open Go Go.RowKit Frm Go.Shelf
set_option maxRecDepth 10000 in
set_option maxHeartbeats 2000000 in
theorem open_err (q o N : Nat) (st : St) (F : Nat → Prop) (w : World) (hD : DAt w q st F) (hok : st.Ok) (hl : st.loose.length + N + N ≤ 10000) (hN : o + N ≤ st.sure.length) (h1 : 1 ≤ N) (hN2 : N ≤ 200) (h0 : st.left ≠ 0) (hx1 : (scn (streamOf (reads st o N))).2.2 ≠ 41) (hx2 : (scn (streamOf (reads st o N))).2.2 ≠ 4) (hm : (mended o N (fun i => st.at (o + i)) (kept (reads st o N)) st).1 ≠ 0) :
    Calls Try.prog 19 #[.pointer (some ⟨q, 0, none⟩), .int .i64 (o : Int), .int .i64 (N : Int)] w (NoLog q (mended o N (fun i => st.at (o + i)) (kept (reads st o N)) st).2 F w (((mended o N (fun i => st.at (o + i)) (kept (reads st o N)) st).1 : Nat) : Int)) := by
  have hfew := hok.few
  have hF := con.lt hD
  obtain ⟨W, hW⟩ : ∃ W, w.alloc (.cells #[.pointer (some ⟨q, 0, none⟩), .int .i64 (o : Int), .int .i64 (N : Int)] 87) = W := ⟨_, rfl⟩
  have hbW : Below w.heap.size w W := by rw [← hW]; exact (Below.refl _ _).alloc (Nat.le_refl _) _
  have hszW : W.heap.size = w.heap.size + 1 := by rw [← hW]; simp
  have harea : W.heap[w.heap.size]? = some (.cells #[.pointer (some ⟨q, 0, none⟩), .int .i64 (o : Int), .int .i64 (N : Int)] 87 (0, 0)) := by rw [← hW]; exact World.alloc_heap_new w _
  have hc0 : W.cell? ⟨w.heap.size, 0, none⟩ = some (.pointer (some ⟨q, 0, none⟩)) := by simp [World.cell?, harea]
  have hc1 : W.cell? ⟨w.heap.size, 1, none⟩ = some (.int .i64 (o : Int)) := by simp [World.cell?, harea]
  have hc2 : W.cell? ⟨w.heap.size, 2, none⟩ = some (.int .i64 (N : Int)) := by simp [World.cell?, harea]
  have hmay : st.may (o : Int) (N : Int) := by unfold St.may; omega
  have KF : Hid (Calls Try.prog 38 #[.agg #[.pointer (some ⟨q, 0, none⟩), .int .i64 (o : Int), .int .i64 (N : Int)]] W fun e w' => e = .returned (.int .i64 0) ∧ Below W.heap.size W w') := by
    have := fault_any q (o : Int) (N : Int) st F W (con.below hD hbW) hok (by omega)
    rw [if_pos hmay] at this
    exact this
  have HCL : Hid (∀ u, Below W.heap.size W u → u.cell? ⟨w.heap.size, 0, none⟩ = some (.pointer (some ⟨q, 0, none⟩)) ∧ u.cell? ⟨w.heap.size, 1, none⟩ = some (.int .i64 (o : Int)) ∧ u.cell? ⟨w.heap.size, 2, none⟩ = some (.int .i64 (N : Int)) ∧ DAt u q st F) := fun u hu => ⟨cellB hu hc0, cellB hu hc1, cellB hu hc2, con.below (con.below hD hbW) hu⟩
  have HBW := hide hbW
  have hRd : ∀ b ∈ reads st o N, b.size = 256 := fun b hb => by
    obtain ⟨i, hi, rfl⟩ := List.getElem_of_mem hb
    rw [reads_at]
    rw [reads_length] at hi
    exact at_size hok _ (by omega)
  have hUp : ∀ b ∈ upTo (reads st o N), b.size = 256 := fun b hb => by
    rw [upTo_prefix] at hb
    exact hRd b (List.mem_of_mem_take hb)
  have hUl : (upTo (reads st o N)).length ≤ N := by have := upTo_le (reads st o N); rw [reads_length] at this; exact this
  have hSs : (streamOf (reads st o N)).size ≤ 65536 := by
    have := heads_size (upTo (reads st o N)) hUp
    rw [heads_upTo] at this
    have : (upTo (reads st o N)).length * 255 ≤ 200 * 255 := by omega
    omega
  have K1 : Hid (∀ u, DAt u q st F → Calls Try.prog 40 #[.agg #[.pointer (some ⟨q, 0, none⟩), .int .i64 (o : Int), .int .i64 (N : Int)], .slice none 0 0, .func (.func 41) #[] #[]] u fun e w' => ∃ bv, e = .returned (.tuple #[bv, .int .i64 0]) ∧ OwnL w' 0 bv (upTo (reads st o N)) ∧ Loc (OB (.slice none 0 0)) (OB bv) u w') := fun u hu => readOn_ends q o N (.slice none 0 0) [] st F u hu hok (by omega) hN h0 (World.ownsRow_nil _ _ _ _) rfl (Nat.zero_le _) (fun k _ => OB_nil k) (fun j hj => absurd hj (by simp))
  have K2 : Hid (∀ a c u, StrsAt u a (upTo (reads st o N)) → Calls Try.prog 42 #[.slice a (upTo (reads st o N)).length c] u fun e w' => e = .returned (.string (streamOf (reads st o N))) ∧ Below u.heap.size u w') := fun a c u hu => by
    have := stream_any (upTo (reads st o N)) a c u hu hUp (by omega)
    rw [heads_upTo] at this
    exact this
  have K3 : Hid (∀ u, Calls Try.prog 43 #[.string (streamOf (reads st o N))] u fun e w' => ∃ a c, e = .returned (.tuple #[.slice a (scn (streamOf (reads st o N))).1.length c, .int .i64 (((scn (streamOf (reads st o N))).2.1 : Nat) : Int), .int .i64 (((scn (streamOf (reads st o N))).2.2 : Nat) : Int)]) ∧ OwnL w' u.heap.size (.slice a (scn (streamOf (reads st o N))).1.length c) (scn (streamOf (reads st o N))).1 ∧ Below u.heap.size u w') := fun u => scan_any (streamOf (reads st o N)) u hSs
  have HD := hide hD
  have hgd := (scn_bound _ (streamOf (reads st o N)) (Nat.le_refl _)).1
  have K4 : Hid (∀ v u, DAt u q st F → OwnL u 0 v (upTo (reads st o N)) → (∀ k, F k → ¬ OB v k) → Calls Try.prog 40 #[.agg #[.pointer (some ⟨q, 0, none⟩), .int .i64 (o : Int), .int .i64 (N : Int)], v, .func (.func 44) #[] #[]] u fun e w' => ∃ bv, e = .returned (.tuple #[bv, .int .i64 0]) ∧ OwnL w' 0 bv (reads st o N) ∧ Loc (OB v) (OB bv) u w') := fun v u hu hv hd => readOn_all q o N v (upTo (reads st o N)) st F u hu hok (by omega) hN h0 hv (upTo_prefix _) hUl hd
  have K5 : Hid (∀ a c u, DAt u q st F → OwnL u 0 (.slice a (reads st o N).length c) (reads st o N) → (∀ k, F k → ¬ OB (.slice a (reads st o N).length c) k) → Calls Try.prog 45 #[.agg #[.pointer (some ⟨q, 0, none⟩), .int .i64 (o : Int), .int .i64 (N : Int)], .slice a (reads st o N).length c, .string (kept (reads st o N))] u fun e w' => e = .returned (.int .i64 (((mended o N (fun i => st.at (o + i)) (kept (reads st o N)) st).1 : Nat) : Int)) ∧ ∃ F', DAt w' q (mended o N (fun i => st.at (o + i)) (kept (reads st o N)) st).2 F' ∧ Loc F F' u w') := fun a c u hu hv hd => mend_any q o N a c (reads st o N) (fun i => st.at (o + i)) (kept (reads st o N)) st F u hu hok hl (by omega) (by omega) (reads_length st o N) hv hd hRd (fun i hi => reads_at st o N i hi)
  have hmz : ¬ ((((mended o N (fun i => st.at (o + i)) (kept (reads st o N)) st).1 : Nat) : Int) = 0) := by omega
  have hKp : kept (reads st o N) = (streamOf (reads st o N)).extract 0 (scn (streamOf (reads st o N))).2.1 := rfl
  have _hks : True := trivial
  have HRL := hide (reads_length st o N)
  have hz1 : ((((scn (streamOf (reads st o N))).2.2 : Nat) : Int) == 41) = false := beq_false_of_ne (by omega)
  have hz2 : ((((scn (streamOf (reads st o N))).2.2 : Nat) : Int) == 4) = false := beq_false_of_ne (by omega)
  have hz3 : (((scn (streamOf (reads st o N))).2.1 : Nat) : Int) ≤ ((streamOf (reads st o N)).size : Int) := by omega
  have HFF := hide hF
  have HAR := hide harea
  have HG : Hid (∀ w2 w3 w4 w5 v v' vR, Loc (OB (.slice none 0 0)) (OB v) W w2 → OwnL w2 0 v (upTo (reads st o N)) → Below w2.heap.size w2 w3 → Below w3.heap.size w3 w4 → OwnL w4 w3.heap.size vR (scn (streamOf (reads st o N))).1 → Loc (OB v) (OB v') w4 w5 → OwnL w5 0 v' (reads st o N) → Got w q o N st F w5 v' vR) := fun w2 w3 w4 w5 v v' vR h2 hv h3 h4 hR h5 hv' => Got.mk' (con.below hD hbW) hF hbW hszW harea h2 hv h3 h4 hR h5 hv'
  have HKE : Hid (kept (reads st o N) = (streamOf (reads st o N)).extract 0 (scn (streamOf (reads st o N))).2.1 ∧ ((streamOf (reads st o N)).extract 0 (scn (streamOf (reads st o N))).2.1).size = (scn (streamOf (reads st o N))).2.1) := ⟨hKp, by rw [ByteArray.size_extract]; omega⟩
  rw [hKp] at K5 hmz
  rw [hKp]
  clear hD hok hl hN h0 hbW harea hmay hRd hUp hUl hSs hF hx1 hx2 hm _hks hKp hgd
  generalize hU : upTo (reads st o N) = U at *
  generalize hR : (scn (streamOf (reads st o N))).1 = R at *
  generalize (scn (streamOf (reads st o N))).2.1 = gd at *
  generalize (scn (streamOf (reads st o N))).2.2 = x at *
  generalize hS : streamOf (reads st o N) = S at *
  generalize hRr : reads st o N = L at *
  have HE := hide (And.intro hR (And.intro hS hRr))
  clear hU hR hS hRr
  go_enter Try.func19, Try.ntmps19
  go_wp2_with fail
  refine KF.out.mono ?_
  rintro e w1 ⟨rfl, hb1⟩
  obtain ⟨q0, q1, q2, hd1⟩ := HCL.out w1 hb1
  have K1a := hide (K1.out w1 hd1)
  have HB1 := hide hb1
  clear hb1 hd1
  go_wp2_with fail
  refine K1a.out.mono ?_
  rintro e w2 ⟨bv, rfl, hv, hl2⟩
  obtain ⟨a2, c2, rfl, hs2⟩ := hv.strs
  have K2a := hide (K2.out a2 c2 w2 hs2)
  have HV := hide hv
  have HL2 := hide hl2
  clear hv hl2 hs2
  go_wp2_with fail
  refine K2a.out.mono ?_
  rintro e w3 ⟨rfl, hb3⟩
  have K3a := hide (K3.out w3)
  have HB3 := hide hb3
  clear hb3
  go_wp2_with fail
  refine K3a.out.mono ?_
  rintro e w4 ⟨a4, c4, rfl, hR4, hb4⟩
  have HR4 := hide hR4
  have HB4 := hide hb4
  clear hR4 hb4
  obtain ⟨hB04, hvn⟩ := till4b HB1.out HL2.out HB3.out HB4.out
  obtain ⟨r0, r1, r2, hd4⟩ := HCL.out w4 hB04
  have K4a := hide (K4.out _ w4 hd4 (own_kept HV.out (fun k hk => by
    have e1 := own_lt0 HV.out hk
    rw [HB4.out.block k (by have := HB3.out.size; omega), HB3.out.block k e1])) (fun k hf ho => by have := HFF.out k hf; have := hvn k ho; omega))
  have HL2b := hide ((Loc.of_below (OB (.slice none 0 0)) HB1.out).trans HL2.out)
  clear hB04 hd4 hvn
  go_wp2_with fail
  refine K4a.out.mono ?_
  rintro e w5 ⟨bv, rfl, hv5, hl5⟩
  have hg := HG.out w2 w3 w4 w5 _ bv _ HL2b.out HV.out HB3.out HB4.out HR4.out hl5 hv5
  obtain ⟨a5, c5, rfl, -⟩ := hv5.strs
  have s0 := hg.c0
  have s1 := hg.c1
  have s2 := hg.c2
  have K5a := hide (K5.out a5 c5 w5 hg.disk hv5 (fun k hf ho => by have := HFF.out k hf; have := hg.newB k ho; omega))
  have HGot := hide hg
  clear hg hv5 hl5
  go_wp2_with fail
  refine K5a.out.mono ?_
  rintro e w6 ⟨rfl, F6, hd6, hl6⟩
  have HD6 := hide hd6
  have HL6 := hide ((Loc.of_below F HGot.out.below).trans hl6)
  clear hd6 hl6
  go_wp2
  go_ret3
  exact ⟨rfl, F6, HD6.out, HL6.out⟩
end Go.Proofs.Ytelkccfjeinlcaa
