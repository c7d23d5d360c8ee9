/- Package wal's Open: the disk stands still in its midst. Package wal's Append: a record is laid. Package wal's Append: the disk stands still in its midst. What package wal's calls do, whole. The document's own log: Append. Stores, plain: a disk that does not stand still; what the law's own 'alive' asks. Stores, plain: what the law's own 'alive' does, step by step. -/
import Derived.Test.YtchhojkhfdkhfaaGreatDoorM25
import Derived.Test.YtchhojkhfdkhfaaGreatDoorM02
namespace Go.Proofs.YtchhojkhfdkhfaaGreatDoor
open Go Go.RowKit Frm Go.Shelf
set_option maxRecDepth 10000 in
set_option maxHeartbeats 2000000 in
theorem open_err (q o N : Nat) (st : St) (F : Nat → Prop) (w : World) (hD : DAt w q st F) (hok : st.Ok) (hl : st.loose.length + N + N ≤ 10000) (hN : o + N ≤ st.sure.length) (h1 : 1 ≤ N) (hN2 : N ≤ 200) (h0 : st.left ≠ 0) (hx1 : (scn (streamOf (reads st o N))).2.2 ≠ 41) (hx2 : (scn (streamOf (reads st o N))).2.2 ≠ 4) (hm : (mended o N (fun i => st.at (o + i)) (kept (reads st o N)) st).1 ≠ 0) :
    Calls Tryz.prog 85 #[.pointer (some ⟨q, 0, none⟩), .int .i64 (o : Int), .int .i64 (N : Int)] w (NoLog q (mended o N (fun i => st.at (o + i)) (kept (reads st o N)) st).2 F w (((mended o N (fun i => st.at (o + i)) (kept (reads st o N)) st).1 : Nat) : Int)) := by
  have hfew := hok.few
  have hF := con.lt hD
  obtain ⟨W, hW⟩ : ∃ W, w.alloc (.cells #[.pointer (some ⟨q, 0, none⟩), .int .i64 (o : Int), .int .i64 (N : Int)] 163) = W := ⟨_, rfl⟩
  have hbW : Below w.heap.size w W := by rw [← hW]; exact (Below.refl _ _).alloc (Nat.le_refl _) _
  have hszW : W.heap.size = w.heap.size + 1 := by rw [← hW]; simp
  have harea : W.heap[w.heap.size]? = some (.cells #[.pointer (some ⟨q, 0, none⟩), .int .i64 (o : Int), .int .i64 (N : Int)] 163 (0, 0)) := by rw [← hW]; exact World.alloc_heap_new w _
  have hc0 : W.cell? ⟨w.heap.size, 0, none⟩ = some (.pointer (some ⟨q, 0, none⟩)) := by simp [World.cell?, harea]
  have hc1 : W.cell? ⟨w.heap.size, 1, none⟩ = some (.int .i64 (o : Int)) := by simp [World.cell?, harea]
  have hc2 : W.cell? ⟨w.heap.size, 2, none⟩ = some (.int .i64 (N : Int)) := by simp [World.cell?, harea]
  have hmay : st.may (o : Int) (N : Int) := by unfold St.may; omega
  have KF : Hid (Calls Tryz.prog 105 #[.agg #[.pointer (some ⟨q, 0, none⟩), .int .i64 (o : Int), .int .i64 (N : Int)]] W fun e w' => e = .returned (.int .i64 0) ∧ Below W.heap.size W w') := by
    have := fault_any q (o : Int) (N : Int) st F W (con.below hD hbW) hok (by omega)
    rw [if_pos hmay] at this
    exact this
  have HCL : Hid (∀ u, Below W.heap.size W u → u.cell? ⟨w.heap.size, 0, none⟩ = some (.pointer (some ⟨q, 0, none⟩)) ∧ u.cell? ⟨w.heap.size, 1, none⟩ = some (.int .i64 (o : Int)) ∧ u.cell? ⟨w.heap.size, 2, none⟩ = some (.int .i64 (N : Int)) ∧ DAt u q st F) := fun u hu => ⟨cellB hu hc0, cellB hu hc1, cellB hu hc2, con.below (con.below hD hbW) hu⟩
  have HBW := hide hbW
  have hRd : ∀ b ∈ reads st o N, b.size = 256 := fun b hb => by
    obtain ⟨i, hi, rfl⟩ := List.getElem_of_mem hb
    rw [reads_at]
    rw [reads_length] at hi
    exact at_size hok _ (by omega)
  have hUp : ∀ b ∈ upTo (reads st o N), b.size = 256 := fun b hb => by
    rw [upTo_prefix] at hb
    exact hRd b (List.mem_of_mem_take hb)
  have hUl : (upTo (reads st o N)).length ≤ N := by have := upTo_le (reads st o N); rw [reads_length] at this; exact this
  have hSs : (streamOf (reads st o N)).size ≤ 65536 := by
    have := heads_size (upTo (reads st o N)) hUp
    rw [heads_upTo] at this
    have : (upTo (reads st o N)).length * 255 ≤ 200 * 255 := by omega
    omega
  have K1 : Hid (∀ u, DAt u q st F → Calls Tryz.prog 117 #[.agg #[.pointer (some ⟨q, 0, none⟩), .int .i64 (o : Int), .int .i64 (N : Int)], .slice none 0 0, .func (.func 118) #[] #[]] u fun e w' => ∃ bv, e = .returned (.tuple #[bv, .int .i64 0]) ∧ OwnL w' 0 bv (upTo (reads st o N)) ∧ Loc (OB (.slice none 0 0)) (OB bv) u w') := fun u hu => readOn_ends q o N (.slice none 0 0) [] st F u hu hok (by omega) hN h0 (World.ownsRow_nil _ _ _ _) rfl (Nat.zero_le _) (fun k _ => OB_nil k) (fun j hj => absurd hj (by simp))
  have K2 : Hid (∀ a c u, StrsAt u a (upTo (reads st o N)) → Calls Tryz.prog 119 #[.slice a (upTo (reads st o N)).length c] u fun e w' => e = .returned (.string (streamOf (reads st o N))) ∧ Below u.heap.size u w') := fun a c u hu => by
    have := stream_any (upTo (reads st o N)) a c u hu hUp (by omega)
    rw [heads_upTo] at this
    exact this
  have K3 : Hid (∀ u, Calls Tryz.prog 120 #[.string (streamOf (reads st o N))] u fun e w' => ∃ a c, e = .returned (.tuple #[.slice a (scn (streamOf (reads st o N))).1.length c, .int .i64 (((scn (streamOf (reads st o N))).2.1 : Nat) : Int), .int .i64 (((scn (streamOf (reads st o N))).2.2 : Nat) : Int)]) ∧ OwnL w' u.heap.size (.slice a (scn (streamOf (reads st o N))).1.length c) (scn (streamOf (reads st o N))).1 ∧ Below u.heap.size u w') := fun u => scan_any (streamOf (reads st o N)) u hSs
  have HD := hide hD
  have hgd := (scn_bound _ (streamOf (reads st o N)) (Nat.le_refl _)).1
  have K4 : Hid (∀ v u, DAt u q st F → OwnL u 0 v (upTo (reads st o N)) → (∀ k, F k → ¬ OB v k) → Calls Tryz.prog 117 #[.agg #[.pointer (some ⟨q, 0, none⟩), .int .i64 (o : Int), .int .i64 (N : Int)], v, .func (.func 121) #[] #[]] u fun e w' => ∃ bv, e = .returned (.tuple #[bv, .int .i64 0]) ∧ OwnL w' 0 bv (reads st o N) ∧ Loc (OB v) (OB bv) u w') := fun v u hu hv hd => readOn_all q o N v (upTo (reads st o N)) st F u hu hok (by omega) hN h0 hv (upTo_prefix _) hUl hd
  have K5 : Hid (∀ a c u, DAt u q st F → OwnL u 0 (.slice a (reads st o N).length c) (reads st o N) → (∀ k, F k → ¬ OB (.slice a (reads st o N).length c) k) → Calls Tryz.prog 122 #[.agg #[.pointer (some ⟨q, 0, none⟩), .int .i64 (o : Int), .int .i64 (N : Int)], .slice a (reads st o N).length c, .string (kept (reads st o N))] u fun e w' => e = .returned (.int .i64 (((mended o N (fun i => st.at (o + i)) (kept (reads st o N)) st).1 : Nat) : Int)) ∧ ∃ F', DAt w' q (mended o N (fun i => st.at (o + i)) (kept (reads st o N)) st).2 F' ∧ Loc F F' u w') := fun a c u hu hv hd => mend_any q o N a c (reads st o N) (fun i => st.at (o + i)) (kept (reads st o N)) st F u hu hok hl (by omega) (by omega) (reads_length st o N) hv hd hRd (fun i hi => reads_at st o N i hi)
  have hmz : ¬ ((((mended o N (fun i => st.at (o + i)) (kept (reads st o N)) st).1 : Nat) : Int) = 0) := by omega
  have hKp : kept (reads st o N) = (streamOf (reads st o N)).extract 0 (scn (streamOf (reads st o N))).2.1 := rfl
  have _hks : True := trivial
  have HRL := hide (reads_length st o N)
  have hz1 : ((((scn (streamOf (reads st o N))).2.2 : Nat) : Int) == 41) = false := beq_false_of_ne (by omega)
  have hz2 : ((((scn (streamOf (reads st o N))).2.2 : Nat) : Int) == 4) = false := beq_false_of_ne (by omega)
  have hz3 : (((scn (streamOf (reads st o N))).2.1 : Nat) : Int) ≤ ((streamOf (reads st o N)).size : Int) := by omega
  have HFF := hide hF
  have HAR := hide harea
  have HG : Hid (∀ w2 w3 w4 w5 v v' vR, Loc (OB (.slice none 0 0)) (OB v) W w2 → OwnL w2 0 v (upTo (reads st o N)) → Below w2.heap.size w2 w3 → Below w3.heap.size w3 w4 → OwnL w4 w3.heap.size vR (scn (streamOf (reads st o N))).1 → Loc (OB v) (OB v') w4 w5 → OwnL w5 0 v' (reads st o N) → Got w q o N st F w5 v' vR) := fun w2 w3 w4 w5 v v' vR h2 hv h3 h4 hR h5 hv' => Got.mk' (con.below hD hbW) hF hbW hszW harea h2 hv h3 h4 hR h5 hv'
  have HKE : Hid (kept (reads st o N) = (streamOf (reads st o N)).extract 0 (scn (streamOf (reads st o N))).2.1 ∧ ((streamOf (reads st o N)).extract 0 (scn (streamOf (reads st o N))).2.1).size = (scn (streamOf (reads st o N))).2.1) := ⟨hKp, by rw [ByteArray.size_extract]; omega⟩
  rw [hKp] at K5 hmz
  rw [hKp]
  clear hD hok hl hN h0 hbW harea hmay hRd hUp hUl hSs hF hx1 hx2 hm _hks hKp hgd
  generalize hU : upTo (reads st o N) = U at *
  generalize hR : (scn (streamOf (reads st o N))).1 = R at *
  generalize (scn (streamOf (reads st o N))).2.1 = gd at *
  generalize (scn (streamOf (reads st o N))).2.2 = x at *
  generalize hS : streamOf (reads st o N) = S at *
  generalize hRr : reads st o N = L at *
  have HE := hide (And.intro hR (And.intro hS hRr))
  clear hU hR hS hRr
  go_enter Tryz.func85, Tryz.ntmps85
  go_wp2_with fail
  refine KF.out.mono ?_
  rintro e w1 ⟨rfl, hb1⟩
  obtain ⟨q0, q1, q2, hd1⟩ := HCL.out w1 hb1
  have K1a := hide (K1.out w1 hd1)
  have HB1 := hide hb1
  clear hb1 hd1
  go_wp2_with fail
  refine K1a.out.mono ?_
  rintro e w2 ⟨bv, rfl, hv, hl2⟩
  obtain ⟨a2, c2, rfl, hs2⟩ := hv.strs
  have K2a := hide (K2.out a2 c2 w2 hs2)
  have HV := hide hv
  have HL2 := hide hl2
  clear hv hl2 hs2
  go_wp2_with fail
  refine K2a.out.mono ?_
  rintro e w3 ⟨rfl, hb3⟩
  have K3a := hide (K3.out w3)
  have HB3 := hide hb3
  clear hb3
  go_wp2_with fail
  refine K3a.out.mono ?_
  rintro e w4 ⟨a4, c4, rfl, hR4, hb4⟩
  have HR4 := hide hR4
  have HB4 := hide hb4
  clear hR4 hb4
  obtain ⟨hB04, hvn⟩ := till4b HB1.out HL2.out HB3.out HB4.out
  obtain ⟨r0, r1, r2, hd4⟩ := HCL.out w4 hB04
  have K4a := hide (K4.out _ w4 hd4 (own_kept HV.out (fun k hk => by
    have e1 := own_lt0 HV.out hk
    rw [HB4.out.block k (by have := HB3.out.size; omega), HB3.out.block k e1])) (fun k hf ho => by have := HFF.out k hf; have := hvn k ho; omega))
  have HL2b := hide ((Loc.of_below (OB (.slice none 0 0)) HB1.out).trans HL2.out)
  clear hB04 hd4 hvn
  go_wp2_with fail
  refine K4a.out.mono ?_
  rintro e w5 ⟨bv, rfl, hv5, hl5⟩
  have hg := HG.out w2 w3 w4 w5 _ bv _ HL2b.out HV.out HB3.out HB4.out HR4.out hl5 hv5
  obtain ⟨a5, c5, rfl, -⟩ := hv5.strs
  have s0 := hg.c0
  have s1 := hg.c1
  have s2 := hg.c2
  have K5a := hide (K5.out a5 c5 w5 hg.disk hv5 (fun k hf ho => by have := HFF.out k hf; have := hg.newB k ho; omega))
  have HGot := hide hg
  clear hg hv5 hl5
  go_wp2_with fail
  refine K5a.out.mono ?_
  rintro e w6 ⟨rfl, F6, hd6, hl6⟩
  have HD6 := hide hd6
  have HL6 := hide ((Loc.of_below F HGot.out.below).trans hl6)
  clear hd6 hl6
  go_wp2
  go_ret3
  exact ⟨rfl, F6, HD6.out, HL6.out⟩
end Go.Proofs.YtchhojkhfdkhfaaGreatDoor
namespace Go.Proofs.YtchhojkhfdkhfaaGreatDoor
open Go Go.RowKit Frm
set_option maxRecDepth 10000 in
set_option maxHeartbeats 4000000 in
theorem append_ok (p q o n : Nat) (s t : ByteArray) (st : St) (F : Nat → Prop) (w : World) (hL : LAt w p q o n s false) (hD : DAt w q st F) (hp : ¬ F p) (hok : st.Ok) (hlo : st.loose.length + n ≤ 10000) (ho : o + n ≤ 4096) (ht : t.size ≤ 65536) (hn : n ≤ 200) (hs : s.size ≤ n * 255) (hfit : s.size + (t.size + 8) ≤ n * 255) (hput : (puts o (prs n (blkOf s) (blkOf (s ++ frm t))) 0 st).1 = 0) :
    Calls Tryz.prog 192 #[.pointer (some ⟨p, 0, none⟩), .string t] w (Apd p q o n (s ++ frm t) false (puts o (prs n (blkOf s) (blkOf (s ++ frm t))) 0 st).2 F w 0) := by
  have c0 := hL.c0
  have c5 := hL.c5
  have hfs := frm_size t
  have hts := tail_size s
  have KF := hide (frame_any t w ht)
  have hz : ¬ ((n : Int) * 255 - (s.size : Int) < ((frm t).size : Int)) := by omega
  have hcat : ¬ (9223372036854775807 < (tailOf s).size + (frm t).size) := by omega
  have HLt := hide hL
  have HRm := hide (fun u (hu : LAt u p q o n s false) => room_any p q o n s false u hu (by omega) hs)
  have HTo := hide (fun u (hu : LAt u p q o n s false) => touched_any p q o n s (tailOf s ++ frm t) false u hu (by omega) (by omega) (by rw [ByteArray.size_append]; omega))
  have HLy := hide (fun u (hu : Below w.heap.size w u) => append_lay q o n s (frm t) st F w u hD hok hlo ho (by omega) hu)
  have HTl := hide (fun u => tail_any (tailOf s ++ frm t) u (by rw [ByteArray.size_append]; omega))
  have hD0 := hD
  have HPF := hide hp
  have HTA := hide (tail_app s (frm t))
  have hsum : wrap64 ((s.size : Int) + ((frm t).size : Int)) = ((s.size + (frm t).size : Nat) : Int) := by unfold wrap64; omega
  have HSA : Hid ((s ++ frm t).size = s.size + (frm t).size) := ByteArray.size_append
  have HDD := hide hD
  
  have HPU := hide hput
  rw [hput] at HLy
  clear hL hD hp hok hlo ho ht hn hs hfit hput hfs hts hD0
  generalize puts o (prs n (blkOf s) (blkOf (s ++ frm t))) 0 st = P at *
  generalize hTs : tailOf s = T at *
  generalize hsf : s ++ frm t = SF at *
  generalize frm t = f at *
  have HTs := hide hTs
  have HSf := hide hsf
  clear hTs hsf
  go_enter Tryz.func192, Tryz.ntmps192
  go_wp2_with fail
  refine KF.out.mono ?_
  rintro e w1 ⟨rfl, hb1⟩
  have hL1 : LAt w1 p q o n s false := HLt.out.same (hb1.block p HLt.out.lt)
  have d4 := hL1.c4
  rw [HTs.out] at d4
  have KR := hide (HRm.out w1 hL1)
  have HL1 := hide hL1
  have HB1 := hide hb1
  clear hL1 hb1
  go_wp2_with fail
  refine KR.out.mono ?_
  rintro e w2 ⟨rfl, m, rfl⟩
  go_wp2_with fail
  have HB2 := hide (below_drewN HB1.out m)
  have D4 : Hid ((w1.drewN m).drew.cell? ⟨p, 4, none⟩ = some (.string T)) := d4
  have HT2 : Hid (LAt (w1.drewN m).drew p q o n s false) := HL1.out
  have HB3 : Hid (Below w.heap.size w (w1.drewN m).drew) := HB2.out.drew
  clear d4 c0 c5
  generalize hNT : ((T ++ f).size + 254) / 255 = nt at *
  generalize hOT : o + s.size / 255 = ot at *
  clear hNT hOT
  generalize hX : T ++ f = X at *
  have HX := hide hX
  clear hX
  generalize w1.drewN m = w2 at *
  go_region_held3 (fun z => z.cell? ⟨p, 4, none⟩ = some (.string T))
    (first | (with_reducible exact D4.out) | ((with_reducible refine cellB hbT ?_); with_reducible assumption) | ((with_reducible refine cellLoc hlay HPF.out ?_); with_reducible assumption) | ((with_reducible refine cellAl ?_ _); with_reducible assumption))
    (first
      | (go_at_call 196; refine (HTo.out _ HT2.out).mono ?_; rintro e w5 ⟨rfl, hbT⟩; have HB5 := hide (bnext HB3.out hbT))
      | (go_at_call_of 106 (Value.string T); refine (blocks_any T _).mono ?_; rintro e w6 ⟨rfl, rfl⟩)
      | (go_at_call_of 106 (Value.string X); refine (blocks_any X _).mono ?_; rintro e w6 ⟨rfl, rfl⟩)
      | (go_at_call 159; refine (HLy.out _ HB5.out).mono ?_; rintro e w7 ⟨⟨bb, rfl⟩, F7, hd7, hlay⟩))
  have hLd := Laid.mk' HLt.out HPF.out HB5.out hd7 hlay
  have HLd := hide hLd
  have e3 := hLd.log.c3
  have f3 := hLd.log.free 3
  clear hd7 hlay hbT hLd
  go_wp2_with fail
  refine (HTl.out _).mono ?_
  rintro e w8 ⟨rfl, hb8⟩
  have e8 : w8.cell? ⟨p, 4, none⟩ = some (.string (tailOf s)) ∧ w8.frozen? ⟨p, 4, none⟩ = false := HLd.out.at8 hb8
  obtain ⟨e4, f4⟩ := e8
  have HB8 := hide hb8
  clear hb8
  go_wp2
  go_ret
  refine Laid.done HLd.out HB8.out ?_ ?_
  · exact HSA.out
  · exact HTA.out
end Go.Proofs.YtchhojkhfdkhfaaGreatDoor
namespace Go.Proofs.YtchhojkhfdkhfaaGreatDoor
open Go Go.RowKit Frm
set_option maxRecDepth 10000 in
set_option maxHeartbeats 4000000 in
theorem append_err (p q o n : Nat) (s t : ByteArray) (st : St) (F : Nat → Prop) (w : World) (hL : LAt w p q o n s false) (hD : DAt w q st F) (hp : ¬ F p) (hok : st.Ok) (hlo : st.loose.length + n ≤ 10000) (ho : o + n ≤ 4096) (ht : t.size ≤ 65536) (hn : n ≤ 200) (hs : s.size ≤ n * 255) (hfit : s.size + (t.size + 8) ≤ n * 255) (hput : (puts o (prs n (blkOf s) (blkOf (s ++ frm t))) 0 st).1 ≠ 0) :
    Calls Tryz.prog 192 #[.pointer (some ⟨p, 0, none⟩), .string t] w (Apd p q o n s true (puts o (prs n (blkOf s) (blkOf (s ++ frm t))) 0 st).2 F w (((puts o (prs n (blkOf s) (blkOf (s ++ frm t))) 0 st).1 : Nat) : Int)) := by
  have c0 := hL.c0
  have c5 := hL.c5
  have hfs := frm_size t
  have hts := tail_size s
  have KF := hide (frame_any t w ht)
  have hz : ¬ ((n : Int) * 255 - (s.size : Int) < ((frm t).size : Int)) := by omega
  have hcat : ¬ (9223372036854775807 < (tailOf s).size + (frm t).size) := by omega
  have HLt := hide hL
  have HRm := hide (fun u (hu : LAt u p q o n s false) => room_any p q o n s false u hu (by omega) hs)
  have HTo := hide (fun u (hu : LAt u p q o n s false) => touched_any p q o n s (tailOf s ++ frm t) false u hu (by omega) (by omega) (by rw [ByteArray.size_append]; omega))
  have HLy := hide (fun u (hu : Below w.heap.size w u) => append_lay q o n s (frm t) st F w u hD hok hlo ho (by omega) hu)
  have HTl := hide (fun u => tail_any (tailOf s ++ frm t) u (by rw [ByteArray.size_append]; omega))
  have hD0 := hD
  have HPF := hide hp
  have HTA := hide (tail_app s (frm t))
  have hsum : wrap64 ((s.size : Int) + ((frm t).size : Int)) = ((s.size + (frm t).size : Nat) : Int) := by unfold wrap64; omega
  have HSA : Hid ((s ++ frm t).size = s.size + (frm t).size) := ByteArray.size_append
  have HDD := hide hD
  have hez : ¬ ((((puts o (prs n (blkOf s) (blkOf (s ++ frm t))) 0 st).1 : Nat) : Int) = 0) := by omega
  have HPU := hide hput
  
  clear hL hD hp hok hlo ho ht hn hs hfit hput hfs hts hD0
  generalize puts o (prs n (blkOf s) (blkOf (s ++ frm t))) 0 st = P at *
  generalize hTs : tailOf s = T at *
  generalize hsf : s ++ frm t = SF at *
  generalize frm t = f at *
  have HTs := hide hTs
  have HSf := hide hsf
  clear hTs hsf
  go_enter Tryz.func192, Tryz.ntmps192
  go_wp2_with fail
  refine KF.out.mono ?_
  rintro e w1 ⟨rfl, hb1⟩
  have hL1 : LAt w1 p q o n s false := HLt.out.same (hb1.block p HLt.out.lt)
  have d4 := hL1.c4
  rw [HTs.out] at d4
  have KR := hide (HRm.out w1 hL1)
  have HL1 := hide hL1
  have HB1 := hide hb1
  clear hL1 hb1
  go_wp2_with fail
  refine KR.out.mono ?_
  rintro e w2 ⟨rfl, m, rfl⟩
  go_wp2_with fail
  have HB2 := hide (below_drewN HB1.out m)
  have D4 : Hid ((w1.drewN m).drew.cell? ⟨p, 4, none⟩ = some (.string T)) := d4
  have HT2 : Hid (LAt (w1.drewN m).drew p q o n s false) := HL1.out
  have HB3 : Hid (Below w.heap.size w (w1.drewN m).drew) := HB2.out.drew
  clear d4 c0 c5
  generalize hNT : ((T ++ f).size + 254) / 255 = nt at *
  generalize hOT : o + s.size / 255 = ot at *
  clear hNT hOT
  generalize hX : T ++ f = X at *
  have HX := hide hX
  clear hX
  generalize w1.drewN m = w2 at *
  go_region_held3 (fun z => z.cell? ⟨p, 4, none⟩ = some (.string T))
    (first | (with_reducible exact D4.out) | ((with_reducible refine cellB hbT ?_); with_reducible assumption) | ((with_reducible refine cellLoc hlay HPF.out ?_); with_reducible assumption) | ((with_reducible refine cellAl ?_ _); with_reducible assumption))
    (first
      | (go_at_call 196; refine (HTo.out _ HT2.out).mono ?_; rintro e w5 ⟨rfl, hbT⟩; have HB5 := hide (bnext HB3.out hbT))
      | (go_at_call_of 106 (Value.string T); refine (blocks_any T _).mono ?_; rintro e w6 ⟨rfl, rfl⟩)
      | (go_at_call_of 106 (Value.string X); refine (blocks_any X _).mono ?_; rintro e w6 ⟨rfl, rfl⟩)
      | (go_at_call 159; refine (HLy.out _ HB5.out).mono ?_; rintro e w7 ⟨⟨bb, rfl⟩, F7, hd7, hlay⟩))
  have hLd := Laid.mk' HLt.out HPF.out HB5.out hd7 hlay
  have HLd := hide hLd
  have e5 := hLd.log.c5
  have f5 := hLd.log.free 5
  clear hd7 hlay hbT hLd
  go_wp2
  go_ret
  exact HLd.out.broken _
end Go.Proofs.YtchhojkhfdkhfaaGreatDoor
namespace Go.Proofs.YtchhojkhfdkhfaaGreatDoor
open Go Go.RowKit Frm Go.Shelf
/-- What Open answers, and leaves. -/
def Opened (q o N : Nat) (r : (Nat × ByteArray × List ByteArray) × St) (F : Nat → Prop) (w : World) (e : Ending) (w' : World) : Prop :=
  (r.1.1 = 0 ∧ HasLog q o N r.1.2.1 r.1.2.2 r.2 F w e w') ∨ (r.1.1 ≠ 0 ∧ NoLog q r.2 F w ((r.1.1 : Nat) : Int) e w')
theorem pOpen (q o N : Nat) (st : St) (F : Nat → Prop) (w : World) (hD : DAt w q st F) (hok : st.Ok) (hl : st.loose.length + N + N ≤ 10000) (hN : o + N ≤ st.sure.length) (h1 : 1 ≤ N) (hN2 : N ≤ 200) :
    Calls Tryz.prog 85 #[.pointer (some ⟨q, 0, none⟩), .int .i64 (o : Int), .int .i64 (N : Int)] w (Opened q o N (walOpen st o N) F w) := by
  rw [walOpen_eq]
  by_cases h0 : st.left = 0
  · rw [if_pos h0]
    exact (open_down q o N st F w hD hok hl hN h1 hN2 h0).mono (fun e w' h => Or.inr ⟨by simp, h⟩)
  · rw [if_neg h0]
    by_cases hx : (scn (streamOf (reads st o N))).2.2 = 41 ∨ (scn (streamOf (reads st o N))).2.2 = 4
    · rw [if_pos hx]
      rcases hx with hx | hx
      · exact (open_bad41 q o N st F w hD hok hl hN h1 hN2 h0 hx).mono (fun e w' h => Or.inr ⟨by simp, h⟩)
      · exact (open_bad4 q o N st F w hD hok hl hN h1 hN2 h0 hx).mono (fun e w' h => Or.inr ⟨by simp, h⟩)
    · rw [if_neg hx]
      by_cases hm : (mended o N (fun i => st.at (o + i)) (kept (reads st o N)) st).1 = 0
      · rw [if_neg (by rw [hm]; simp)]
        exact (open_ok q o N st F w hD hok hl hN h1 hN2 h0 (fun e => hx (Or.inl e)) (fun e => hx (Or.inr e)) hm).mono (fun e w' h => Or.inl ⟨rfl, h⟩)
      · rw [if_pos hm]
        exact (open_err q o N st F w hD hok hl hN h1 hN2 h0 (fun e => hx (Or.inl e)) (fun e => hx (Or.inr e)) hm).mono (fun e w' h => Or.inr ⟨hm, h⟩)
/-- Whether Append breaks the log. -/
def brk (st : St) (o n : Nat) (s t : ByteArray) : Bool := decide (t.size ≤ 65536 ∧ s.size + (t.size + 8) ≤ n * 255 ∧ (puts o (prs n (blkOf s) (blkOf (s ++ frm t))) 0 st).1 ≠ 0)
theorem pAppend (p q o n : Nat) (s t : ByteArray) (st : St) (F : Nat → Prop) (w : World) (hL : LAt w p q o n s false) (hD : DAt w q st F) (hp : ¬ F p) (hok : st.Ok) (hlo : st.loose.length + n ≤ 10000) (ho : o + n ≤ 4096) (hn : n ≤ 200) (hs : s.size ≤ n * 255) (ht : t.size ≤ maxLen) :
    Calls Tryz.prog 192 #[.pointer (some ⟨p, 0, none⟩), .string t] w (Apd p q o n (walAppend st o n s t).2.1 (brk st o n s t) (walAppend st o n s t).2.2 F w (((walAppend st o n s t).1 : Nat) : Int)) := by
  unfold walAppend brk
  by_cases h1 : 65536 < t.size
  · rw [if_pos h1, decide_eq_false (fun h => by omega)]
    exact append_long' p q o n s t st F w hL hD hp h1 ht
  · rw [if_neg h1]
    by_cases h2 : n * 255 < s.size + (t.size + 8)
    · rw [if_pos h2, decide_eq_false (fun h => by omega)]
      exact append_full' p q o n s t st F w hL hD hp (by omega) hn hs h2
    · rw [if_neg h2]
      by_cases h3 : (puts o (prs n (blkOf s) (blkOf (s ++ frm t))) 0 st).1 = 0
      · rw [if_neg (by rw [h3]; simp), decide_eq_false (fun h => h.2.2 h3)]
        exact append_ok p q o n s t st F w hL hD hp hok hlo ho (by omega) hn hs (by omega) h3
      · rw [if_pos h3, decide_eq_true ⟨by omega, by omega, h3⟩]
        exact append_err p q o n s t st F w hL hD hp hok hlo ho (by omega) hn hs (by omega) h3
end Go.Proofs.YtchhojkhfdkhfaaGreatDoor
namespace Go.Proofs.YtchhojkhfdkhfaaGreatDoor
open Go Go.RowKit Frm
theorem RLAt.c0 {u : World} {p q o n : Nat} {s : ByteArray} {b : Bool} (h : RLAt u p q o n s b) : u.cell? ⟨p, 0, none⟩ = some (.pointer (some ⟨q, 0, none⟩)) := by simp [World.cell?, show u.heap[p]? = _ from h]
theorem RLAt.c1 {u : World} {p q o n : Nat} {s : ByteArray} {b : Bool} (h : RLAt u p q o n s b) : u.cell? ⟨p, 1, none⟩ = some (.int .i64 (o : Int)) := by simp [World.cell?, show u.heap[p]? = _ from h]
theorem RLAt.c2 {u : World} {p q o n : Nat} {s : ByteArray} {b : Bool} (h : RLAt u p q o n s b) : u.cell? ⟨p, 2, none⟩ = some (.int .i64 (n : Int)) := by simp [World.cell?, show u.heap[p]? = _ from h]
theorem RLAt.c3 {u : World} {p q o n : Nat} {s : ByteArray} {b : Bool} (h : RLAt u p q o n s b) : u.cell? ⟨p, 3, none⟩ = some (.string s) := by simp [World.cell?, show u.heap[p]? = _ from h]
theorem RLAt.c4 {u : World} {p q o n : Nat} {s : ByteArray} {b : Bool} (h : RLAt u p q o n s b) : u.cell? ⟨p, 4, none⟩ = some (.bool b) := by simp [World.cell?, show u.heap[p]? = _ from h]
theorem RLAt.free {u : World} {p q o n : Nat} {s : ByteArray} {b : Bool} (h : RLAt u p q o n s b) (i : Nat) : u.frozen? ⟨p, i, none⟩ = false := by simp [World.frozen?, show u.heap[p]? = _ from h]
/-- What Append answers, and leaves. -/
def RApd (p q o n : Nat) (s : ByteArray) (b : Bool) (st : St) (F : Nat → Prop) (w : World) (x : Int) (e : Ending) (w' : World) : Prop :=
  e = .returned (.int .i64 x) ∧ RLAt w' p q o n s b ∧ ∃ F', RD w' q st F' ∧ Loc (fun k => F k ∨ k = p) (fun k => F' k ∨ k = p) w w' ∧ ¬ F' p
theorem RApd.same {p q o n : Nat} {s : ByteArray} {b : Bool} {st : St} {F : Nat → Prop} {w w' : World} {x : Int} (hL : RLAt w p q o n s b) (hD : RD w q st F) (hp : ¬ F p) (hb : Below w.heap.size w w') : RApd p q o n s b st F w x (.returned (.int .i64 x)) w' :=
  ⟨rfl, hL.same (hb.block p hL.lt), F, hD.below hb, Loc.of_below _ hb, hp⟩
/-- In the midst of it. -/
structure RMid (w : World) (p q o n : Nat) (s : ByteArray) (a b : Nat → ByteArray) (st : St) (F : Nat → Prop) (k : Nat) (cur : St) (F' : Nat → Prop) (u : World) : Prop where
  puts : puts o (prs k a b) 0 st = (0, cur)
  disk : RD u q cur F'
  loc : Loc F F' w u
  log : RLAt u p q o n s false
  notp : ¬ F' p
theorem RMid.keep {w : World} {p q o n : Nat} {s : ByteArray} {a b : Nat → ByteArray} {st : St} {F : Nat → Prop} {k : Nat} {cur : St} {F' : Nat → Prop} {u v : World} (h : RMid w p q o n s a b st F k cur F' u) (hb : Below u.heap.size u v) : RMid w p q o n s a b st F k cur F' v :=
  ⟨h.puts, h.disk.below hb, h.loc.trans (Loc.of_below _ hb), h.log.same (hb.block p h.log.lt), h.notp⟩
theorem RMid.c3 {w : World} {p q o n : Nat} {s : ByteArray} {a b : Nat → ByteArray} {st : St} {F : Nat → Prop} {k : Nat} {cur : St} {F' : Nat → Prop} {u : World} (h : RMid w p q o n s a b st F k cur F' u) : u.cell? ⟨p, 3, none⟩ = some (.string s) := h.log.c3
theorem RMid.cells {w : World} {p q o n : Nat} {s : ByteArray} {a b : Nat → ByteArray} {st : St} {F : Nat → Prop} {k : Nat} {cur : St} {F' : Nat → Prop} {u : World} (h : RMid w p q o n s a b st F k cur F' u) : u.cell? ⟨p, 0, none⟩ = some (.pointer (some ⟨q, 0, none⟩)) ∧ u.cell? ⟨p, 1, none⟩ = some (.int .i64 (o : Int)) ∧ u.cell? ⟨p, 2, none⟩ = some (.int .i64 (n : Int)) ∧ u.cell? ⟨p, 3, none⟩ = some (.string s) := ⟨h.log.c0, h.log.c1, h.log.c2, h.log.c3⟩
theorem RMid.c01 {w : World} {p q o n : Nat} {s : ByteArray} {a b : Nat → ByteArray} {st : St} {F : Nat → Prop} {k : Nat} {cur : St} {F' : Nat → Prop} {u : World} (h : RMid w p q o n s a b st F k cur F' u) : u.cell? ⟨p, 0, none⟩ = some (.pointer (some ⟨q, 0, none⟩)) ∧ u.cell? ⟨p, 1, none⟩ = some (.int .i64 (o : Int)) := ⟨h.log.c0, h.log.c1⟩
/-- Behind a write. -/
structure RAft (w : World) (p q o n : Nat) (s : ByteArray) (st' : St) (F F' : Nat → Prop) (u : World) : Prop where
  disk : RD u q st' F'
  loc : Loc F F' w u
  log : RLAt u p q o n s false
  notp : ¬ F' p
theorem RAft.c01 {w : World} {p q o n : Nat} {s : ByteArray} {st' : St} {F F' : Nat → Prop} {u : World} (h : RAft w p q o n s st' F F' u) : u.cell? ⟨p, 0, none⟩ = some (.pointer (some ⟨q, 0, none⟩)) ∧ u.cell? ⟨p, 1, none⟩ = some (.int .i64 (o : Int)) := ⟨h.log.c0, h.log.c1⟩
theorem RAft.broken {w : World} {p q o n : Nat} {s : ByteArray} {st' : St} {F F' : Nat → Prop} {u : World} (h : RAft w p q o n s st' F F' u) (x : Int) : RApd p q o n s true st' F w x (.returned (.int .i64 x)) (u.setCell ⟨p, 4, none⟩ (.bool true)) := by
  refine ⟨rfl, ?_, F', h.disk.same (fun k hk => Below.heap_setCell u _ _ k (fun e => h.notp (by rw [show k = p from e] at hk; exact hk))), (h.loc.or (P := fun k => k = p)).trans (Loc.setCell u ⟨p, 4, none⟩ _ (Or.inr rfl)), h.notp⟩
  exact heap_set3 (i := 4) h.log (.bool true)
theorem RMid.done {w : World} {p q o n : Nat} {s : ByteArray} {a b : Nat → ByteArray} {st : St} {F : Nat → Prop} {k : Nat} {cur : St} {F' : Nat → Prop} {u : World} (h : RMid w p q o n s a b st F k cur F' u) (sf : ByteArray) : RApd p q o n sf false cur F w 0 (.returned (.int .i64 0)) (u.setCell ⟨p, 3, none⟩ (.string sf)) := by
  refine ⟨rfl, ?_, F', h.disk.same (fun k hk => Below.heap_setCell u _ _ k (fun e => h.notp (by rw [show k = p from e] at hk; exact hk))), (h.loc.or (P := fun k => k = p)).trans (Loc.setCell u ⟨p, 3, none⟩ _ (Or.inr rfl)), h.notp⟩
  exact heap_set3 (i := 3) h.log (.string sf)
end Go.Proofs.YtchhojkhfdkhfaaGreatDoor
namespace Go.Proofs.YtchhojkhfdkhfaaGreatDoor
open Frm
/-- It stands still nowhere. -/
def Still (r : Nat × St) : Prop := r.1 ≠ 50 ∧ r.2.left = -1
theorem counted_still : counted (-1) = -1 := by decide
theorem write_still {st : St} (h : st.left = -1) (b : Int) (d : ByteArray) : Still (st.write b d) := by
  unfold St.write
  rw [if_neg (by rw [h]; decide)]
  split
  · exact ⟨by show (5 : Nat) ≠ 50; decide, h⟩
  · split
    · exact ⟨by show (2 : Nat) ≠ 50; decide, h⟩
    · exact ⟨by show (0 : Nat) ≠ 50; decide, by show counted st.left = -1; rw [h, counted_still]⟩
theorem sync_still {st : St} (h : st.left = -1) : Still st.sync ∧ st.sync.1 = 0 := by
  unfold St.sync
  rw [if_neg (by rw [h]; decide)]
  exact ⟨⟨by show (0 : Nat) ≠ 50; decide, by show counted st.left = -1; rw [h, counted_still]⟩, rfl⟩
theorem zeros_still : ∀ (n o : Nat) (st : St), st.left = -1 → Still (zeros n o st)
  | 0, _, _, h => ⟨by show (0 : Nat) ≠ 50; decide, h⟩
  | n + 1, o, st, h => by
    unfold zeros
    split
    · exact zeros_still n _ _ (write_still h _ _).2
    · exact write_still h _ _
theorem clear_still {st : St} (h : st.left = -1) (o n : Nat) : Still (walClear st o n) := by
  unfold walClear
  split
  · exact zeros_still _ _ _ h
  · exact (sync_still (zeros_still _ _ _ h).2).1
theorem puts_still (o : Nat) : ∀ (l : List (ByteArray × ByteArray)) (i : Nat) (st : St), st.left = -1 → Still (puts o l i st)
  | [], _, _, h => ⟨by show (0 : Nat) ≠ 50; decide, h⟩
  | x :: l, i, st, h => by
    unfold puts
    split
    · exact puts_still o l _ _ h
    · split
      · exact puts_still o l _ _ (write_still h _ _).2
      · exact write_still h _ _
theorem andT_still {r : Nat × St} {f : St → Nat × St} (h : Still r) (hf : ∀ s, s.left = -1 → Still (f s)) : Still (andT r f) := by
  unfold andT
  split
  · exact hf _ h.2
  · exact h
theorem putsT_still (o : Nat) (t : ByteArray) : ∀ (n i : Nat) (st : St), st.left = -1 → Still (putsT o t n i st)
  | 0, _, _, h => ⟨by show (0 : Nat) ≠ 50; decide, h⟩
  | n + 1, i, _, h => andT_still (write_still h _ _) (fun s hs => putsT_still o t n (i + 1) s hs)
theorem saveAt_still {st : St} (h : st.left = -1) (a g : Nat) (t : ByteArray) : Still (saveAt a g t st) := by
  unfold saveAt
  exact andT_still (andT_still (andT_still (andT_still (andT_still (write_still h _ _) (fun s hs => (sync_still hs).1)) (fun s hs => putsT_still _ _ _ _ s hs)) (fun s hs => (sync_still hs).1)) (fun s hs => write_still hs _ _)) (fun s hs => (sync_still hs).1)
theorem save_still {st : St} (h : st.left = -1) (o n : Int) (g : Nat) (t : ByteArray) : Still (st.save o n g t) := by
  unfold St.save
  split
  · exact ⟨by show (2 : Nat) ≠ 50; decide, h⟩
  · split
    · exact ⟨by show (2 : Nat) ≠ 50; decide, h⟩
    · split
      · exact ⟨by show (4 : Nat) ≠ 50; decide, h⟩
      · exact saveAt_still h _ _ _
theorem made_still (o : Nat) (l : List (ByteArray × ByteArray)) {st : St} (h : st.left = -1) : Still (made o l st) := by
  unfold made
  split
  · exact puts_still _ _ _ _ h
  · split
    · exact ⟨by show (0 : Nat) ≠ 50; decide, (puts_still _ _ _ _ h).2⟩
    · exact (sync_still (puts_still _ _ _ _ h).2).1
theorem open_still {st : St} (h : st.left = -1) (o n : Nat) : (walOpen st o n).1.1 ≠ 50 ∧ (walOpen st o n).2.left = -1 := by
  have h1 := made_still o (prs n (fun i => st.at (o + i)) (fun i => recount (st.at (o + i)) (kept (reads st o n)) i)) h
  have h2 := made_still o (prs n (fun i => recount (st.at (o + i)) (kept (reads st o n)) i) (fun i => blkOf (kept (reads st o n)) i)) h1.2
  unfold walOpen
  rw [if_neg (by rw [h]; decide)]
  split
  · exact ⟨by show (60 : Nat) ≠ 50; decide, h⟩
  · split
    · exact h1
    · split
      · exact h2
      · exact ⟨by show (0 : Nat) ≠ 50; decide, h2.2⟩
theorem append_still {st : St} (h : st.left = -1) (o n : Nat) (s t : ByteArray) : (walAppend st o n s t).1 ≠ 50 ∧ (walAppend st o n s t).2.2.left = -1 := by
  have h1 := puts_still o (prs n (blkOf s) (blkOf (s ++ frm t))) 0 st h
  unfold walAppend
  split
  · exact ⟨by show (4 : Nat) ≠ 50; decide, h⟩
  · split
    · exact ⟨by show (6 : Nat) ≠ 50; decide, h⟩
    · split
      · exact h1
      · exact ⟨by show (0 : Nat) ≠ 50; decide, h1.2⟩
/-- A record is appended, where nothing stands still. -/
theorem Hale.append_still {ck lg L : Nat} {st : St} {p : Past} (hc : Conf ck lg L) (h : Hale ck lg L st p) (hl : st.left = -1) (t : ByteArray) (ht : t.size ≤ 65536) (hf : (cat p.all).size + (t.size + 8) ≤ lg * 255) :
    ∃ st', stoAppend st ck lg ⟨p.gen, cat p.all, false⟩ t = (0, ⟨p.gen, cat (p.all ++ [t]), false⟩, st') ∧ Hale ck lg L st' ⟨p.gen, p.text, p.all ++ [t], p.sure⟩ ∧ st'.left = -1 := by
  have hs := Go.Proofs.YtchhojkhfdkhfaaGreatDoor.append_still hl (lo ck lg p.gen) lg (cat p.all) t
  have hu : stoAppend st ck lg ⟨p.gen, cat p.all, false⟩ t = ((walAppend st (lo ck lg p.gen) lg (cat p.all) t).1, Sto.told ⟨p.gen, (walAppend st (lo ck lg p.gen) lg (cat p.all) t).2.1, false⟩ (walAppend st (lo ck lg p.gen) lg (cat p.all) t).1, (walAppend st (lo ck lg p.gen) lg (cat p.all) t).2.2) := by
    unfold stoAppend
    rw [if_neg (by simp)]
  rcases h.append hc t with ⟨c, h1, h2⟩ | ⟨st', h1, h2⟩ | ⟨st', h1, _⟩
  · have e : (walAppend st (lo ck lg p.gen) lg (cat p.all) t).1 = c := by rw [hu] at h2; exact (Prod.mk.inj h2).1
    unfold walAppend at e
    rw [if_neg (by omega), if_neg (by omega)] at e
    exfalso
    rcases puts_some (lo ck lg p.gen) (prs lg (blkOf (cat p.all)) (blkOf (cat p.all ++ frm t))) 0 st (by rw [prs_length]; have := h.long; have := lo_fit hc p.gen; omega) (prs_full fun k _ => blkOf_size _ _) with ⟨W, c', p1, p2, p3, _⟩
    split at e
    · have e : (puts (lo ck lg p.gen) (prs lg (blkOf (cat p.all)) (blkOf (cat p.all ++ frm t))) 0 st).1 = c := e
      rcases p3 with h5 | h5
      · have := h5.1; omega
      · have : (puts (lo ck lg p.gen) (prs lg (blkOf (cat p.all)) (blkOf (cat p.all ++ frm t))) 0 st).1 = 50 := h5; omega
    · have e : (0 : Nat) = c := e
      omega
  · refine ⟨st', h1, h2, ?_⟩
    rw [hu] at h1
    rw [← (Prod.mk.inj (Prod.mk.inj h1).2).2]
    exact hs.2
  · rw [hu] at h1
    exact absurd (Prod.mk.inj h1).1 hs.1
theorem Hale.sync_still {ck lg L : Nat} {st : St} {p : Past} (hc : Conf ck lg L) (h : Hale ck lg L st p) (hl : st.left = -1) :
    ∃ st', stoSync st ⟨p.gen, cat p.all, false⟩ = (0, ⟨p.gen, cat p.all, false⟩, st') ∧ Hale ck lg L st' ⟨p.gen, p.text, p.all, p.all.length⟩ ∧ st'.left = -1 := by
  have hs := Go.Proofs.YtchhojkhfdkhfaaGreatDoor.sync_still hl
  have hu : stoSync st ⟨p.gen, cat p.all, false⟩ = (st.sync.1, Sto.told ⟨p.gen, cat p.all, false⟩ st.sync.1, st.sync.2) := by
    unfold stoSync
    rw [if_neg (by simp)]
  rcases h.sync hc with ⟨st', h1, h2⟩ | h1
  · refine ⟨st', h1, h2, ?_⟩
    rw [hu] at h1
    rw [← (Prod.mk.inj (Prod.mk.inj h1).2).2]
    exact hs.1.2
  · rw [hu] at h1
    exact absurd (Prod.mk.inj h1).1 hs.1.1
theorem Hale.trim_still {ck lg L : Nat} {st : St} {p : Past} (hc : Conf ck lg L) (h : Hale ck lg L st p) (hl : st.left = -1) (hg : 1 ≤ p.gen ∧ p.gen < 4611686018427387904) (t : ByteArray) (ht : t.size ≤ (ck - 1) * 256) :
    ∃ st', stoTrim st ck lg ⟨p.gen, cat p.all, false⟩ t = (0, ⟨p.gen + 1, cat [], false⟩, st') ∧ Hale ck lg L st' ⟨p.gen + 1, t, [], 0⟩ ∧ st'.left = -1 := by
  have h2 := hc.ck2
  have h256 := hc.ck256
  have hr : room (2 * (ck : Int)) = ((2 * (ck : Int)) / 2 - 1) * 256 := by unfold room; rw [if_neg (by omega)]
  have k1 := clear_still hl (lo ck lg (p.gen + 1)) lg
  have k2 := save_still k1.2 0 (2 * (ck : Int)) (p.gen + 1) t
  have k3 := open_still k2.2 (lo ck lg (p.gen + 1)) lg
  have hs : (stoTrim st ck lg ⟨p.gen, cat p.all, false⟩ t).1 ≠ 50 ∧ (stoTrim st ck lg ⟨p.gen, cat p.all, false⟩ t).2.2.left = -1 := by
    unfold stoTrim
    rw [if_neg (by simp), if_neg (show ¬ 4611686018427387904 ≤ p.gen by omega)]
    split
    · exact ⟨by show (4 : Nat) ≠ 50; decide, hl⟩
    · split
      · exact ⟨k1.1, k1.2⟩
      · split
        · exact ⟨k2.1, k2.2⟩
        · split
          · exact ⟨k3.1, k3.2⟩
          · exact ⟨by show (0 : Nat) ≠ 50; decide, k3.2⟩
  rcases h.trim hc hg t with ⟨h1, _⟩ | ⟨st', h1, h2⟩ | ⟨st', h1, _⟩
  · rw [hr] at h1; omega
  · refine ⟨st', h1, h2, ?_⟩
    have := hs.2
    rw [h1] at this
    exact this
  · have := hs.1
    rw [h1] at this
    exact absurd rfl this
/-- With nothing picked a crash leaves what is sure. -/
theorem crash_nothing {st : St} (h : st.Ok) : st.crash [] = ⟨st.sure, [], -1⟩ := by
  unfold St.crash
  rw [crashed_nothing _ _ _ h.there]
theorem Hale.bare {ck lg L : Nat} {st : St} {p : Past} (h : Hale ck lg L st p) : Found ck lg st.sure ⟨p.gen, p.text, p.all.take p.sure, p.sure⟩ := by
  have hs := h.well.hold.some
  have hlt : (p.all.take p.sure).length = p.sure := by rw [List.length_take]; omega
  have hle := ends_le p.all p.sure
  have hfit := h.well.hold.fits
  have hct := cat_take p.all p.sure
  refine ⟨h.keep, ⟨fun t ht => h.well.hold.short t (List.mem_of_mem_take ht), ?_, by show p.sure ≤ (p.all.take p.sure).length; omega⟩, fun k hk => ?_⟩
  · show (cat (p.all.take p.sure)).size ≤ lg * 255
    unfold ends at hle
    omega
  · show Fine (cat (p.all.take p.sure)) (ends (p.all.take p.sure) p.sure) k (st.sure.getD (lo ck lg p.gen + k) noText)
    rw [h.well.hold.sure k hk]
    refine ⟨(cat (p.all.take p.sure)).size, ends_le _ _, Nat.le_refl _, ?_⟩
    have := Good.pre (cat (p.all.take p.sure)) k (cat (p.all.take p.sure)).size (Nat.le_refl _)
    rw [pre_all] at this
    exact this
/-- What is opened behind a crash with nothing picked. -/
theorem Hale.crash_open {ck lg L : Nat} {st : St} {p : Past} (hc : Conf ck lg L) (h : Hale ck lg L st p) (hg : 1 ≤ p.gen ∧ p.gen ≤ 4611686018427387904) :
    ∃ st', stoOpen (st.crash []) (ck : Int) (lg : Int) = ((0, p.gen, p.text, cat (p.all.take p.sure), p.all.take p.sure), st') ∧ Hale ck lg L st' ⟨p.gen, p.text, p.all.take p.sure, p.sure⟩ ∧ st'.left = -1 := by
  have hs := h.well.hold.some
  have hlt : (p.all.take p.sure).length = p.sure := by rw [List.length_take]; omega
  rw [crash_nothing h.ok]
  obtain ⟨r, st', h1, h2, h3, h4, h5⟩ := h.bare.open hc h.long hg
  have h1 : p.sure ≤ r := h1
  have h2 : r ≤ (p.all.take p.sure).length := h2
  have hr : r = p.sure := by omega
  subst hr
  simp only [List.take_take, Nat.min_self] at h3 h4
  exact ⟨st', h3, h4, h5⟩
/-- The first Save, on a disk whose first block is bytes 0. -/
theorem keepS_first (N : Nat) (h4 : 4 ≤ N) (S : List ByteArray) (hfull : ∀ x ∈ S, x.size = 256) (hlen : N ≤ S.length) (hz : S.getD 0 noText = zblock) (t : ByteArray) (ht : t.size ≤ (N / 2 - 1) * 256) :
    ∃ S', saveAt (slN N 1) 1 t ⟨S, [], -1⟩ = (0, ⟨S', [], -1⟩) ∧ S'.length = S.length ∧ KeepS N S' 1 t ∧ ∀ j, N ≤ j → S'.getD j noText = S.getD j noText := by
  have hnb := nb_fit ht h4
  have h1 : slN N 1 = N / 2 := by unfold slN; simp
  have h0 : slN N (1 + 1) = 0 := by unfold slN; simp
  rcases save_cases (slN N 1) 1 t S (-1) (by omega) (by omega) with ⟨l2, e, b1, b2⟩ | ⟨l2, e, b1, b2⟩ | ⟨j, l2, hj, e, b1, b2⟩ | ⟨l2, e, b1, b2⟩ | ⟨l2, e, b1⟩ | ⟨l2, e, b1⟩
  · omega
  · omega
  · omega
  · omega
  · omega
  · have hl2 : l2 = -1 := by omega
    subst hl2
    have hS1 : ∀ x ∈ S.set (slN N 1) zblock, x.size = 256 := full_set hfull _ _ zblock_size
    have hS2 : ∀ x ∈ laid (S.set (slN N 1) zblock) (tws (slN N 1 + 1) t 0 (nb t.size)), x.size = 256 := laid_full _ _ hS1 (fun w hw => (tws_mem hw).2.2)
    have hl2 : (laid (S.set (slN N 1) zblock) (tws (slN N 1 + 1) t 0 (nb t.size))).length = S.length := by rw [laid_length, List.length_set]
    refine ⟨_, e, by rw [List.length_set, hl2], ⟨full_set hS2 _ _ (headT_size _ _), by rw [List.length_set, hl2]; exact hlen, ht, getD_set_same _ _ _ (by omega), fun i hi => ?_, ?_⟩, fun j hj => ?_⟩
    · rw [getD_set_other _ _ _ _ (by omega)]
      exact laid_tws _ t (nb t.size) 0 _ (by rw [List.length_set]; omega) i (by omega) (by omega)
    · rw [h0, getD_set_other _ _ _ _ (by omega), laid_other7 _ _ _ (fun w hw => by have := tws_mem hw; omega), getD_set_other _ _ _ _ (by omega), hz]
      exact Oth.zero
    · rw [getD_set_other _ _ _ _ (by omega), laid_other7 _ _ _ (fun w hw => by have := tws_mem hw; omega), getD_set_other _ _ _ _ (by omega)]
theorem load_none (S : List ByteArray) (N : Nat) (h4 : 4 ≤ N) (hN : N ≤ 4096) (he : N % 2 = 0) (hl : N ≤ S.length) (hz : ∀ j, j < N → S.getD j noText = zblock) : (⟨S, [], -1⟩ : St).load 0 (N : Int) = ((0, noText), 5) := by
  have hr : room (N : Int) ≠ 0 := by unfold room; rw [if_neg (by omega)]; omega
  have hm : (⟨S, [], -1⟩ : St).mayC 0 (N : Int) := ⟨hr, by omega, by show (0 : Int) ≤ (S.length : Int) - N; omega⟩
  have hw : ∀ a k odd, 0 < k → a + k ≤ N → (wholeT (blocksAt ⟨S, [], -1⟩ a k) odd).1 = 0 := fun a k odd hk ha => by
    have := whole_less (blocksAt ⟨S, [], -1⟩ a k) odd 1 (by decide) (by
      rw [blocks_getD _ _ _ 0 hk rfl]
      show Oth (S.getD (a + 0) noText) 1
      rw [hz _ (by omega)]
      exact Oth.zero)
    omega
  have hs : ∀ k, slotAt 0 (N : Int) k = slN N k := fun k => by unfold slotAt slN; simp
  have h0 := slN_le N 0
  have h1 := slN_le N 1
  unfold St.load
  rw [if_neg (fun hh => hh hm), if_neg (show ¬ (-1 : Int) = 0 by decide)]
  simp only [hs, Int.toNat_natCast]
  rw [if_pos ⟨hw _ _ _ (by omega) (by omega), hw _ _ _ (by omega) (by omega)⟩]
theorem new_at (L j : Nat) (h : j < L) : (List.replicate L zblock).getD j noText = zblock := by
  rw [List.getD_eq_getElem?_getD, List.getElem?_replicate, if_pos h]
  rfl
/-- Make, on a new disk. -/
theorem make_new {ck lg L : Nat} (hc : Conf ck lg L) : ∃ st', stoMake (St.new L) (ck : Int) (lg : Int) = (0, st') ∧ Hale ck lg L st' ⟨1, noText, [], 0⟩ ∧ st'.loose = [] ∧ st'.left = -1 := by
  have h2 := hc.ck2
  have h256 := hc.ck256
  have hfit := hc.fit
  have hlf := lo_fit hc 1
  have hL : (List.replicate L zblock).length = L := List.length_replicate ..
  have hfull : ∀ x ∈ List.replicate L zblock, x.size = 256 := fun x hx => by rw [List.eq_of_mem_replicate hx]; exact zblock_size
  have hok : (St.new L).Ok := ⟨by show (List.replicate L zblock).length ≤ 4096; rw [hL]; exact hc.few, by show 1 ≤ (List.replicate L zblock).length; rw [hL]; omega, hfull, fun w hw => absurd hw (by simp [St.new]), ⟨Int.le_refl (-1), by show (-1 : Int) ≤ 9223372036854775807; decide⟩⟩
  have e2 : (2 * (ck : Int)) = ((2 * ck : Nat) : Int) := by omega
  have hld := load_none (List.replicate L zblock) (2 * ck) (by omega) (by omega) (by omega) (by rw [hL]; omega) (fun j hj => new_at L j (by omega))
  have k1 := clear_still (st := St.new L) rfl (lo ck lg 1) lg
  have hokC := clear_ok hok (lo ck lg 1) lg
  unfold stoMake
  rw [if_neg (fun x => x (conf_may hc _ hL)), e2]
  rw [show (St.new L).load 0 ((2 * ck : Nat) : Int) = ((0, noText), 5) from hld]
  rw [if_neg (by decide), if_neg (fun x => x rfl), Int.toNat_natCast, Int.toNat_natCast]
  rcases clear_cases (lo ck lg 1) lg (St.new L) (by show _ ≤ (List.replicate L zblock).length; rw [hL]; omega) with ⟨W, c, e, hW⟩ | ⟨c, e⟩
  · rw [e] at k1
    exact absurd rfl k1.1
  · rw [e] at k1 hokC ⊢
    have hcl : c = -1 := k1.2
    subst hcl
    have hrep : ∀ j, j < L → (laid (laid (St.new L).sure (St.new L).loose) (zw (lo ck lg 1) lg)).getD j noText = zblock := fun j hj => by
      by_cases hin : lo ck lg 1 ≤ j ∧ j < lo ck lg 1 + lg
      · have := laid_zw lg (lo ck lg 1) (laid (St.new L).sure (St.new L).loose) (by rw [laid_length]; show _ ≤ (List.replicate L zblock).length; rw [hL]; omega) (j - lo ck lg 1) (by omega)
        rw [show lo ck lg 1 + (j - lo ck lg 1) = j from by omega] at this
        exact this
      · rw [laid_other7 _ _ _ (fun w hw => by have := zw_mem hw; omega)]
        exact new_at L j hj
    obtain ⟨S1, hS1⟩ : ∃ S1, S1 = laid (laid (St.new L).sure (St.new L).loose) (zw (lo ck lg 1) lg) := ⟨_, rfl⟩
    have hlen1 : S1.length = L := by rw [hS1, laid_length, laid_length]; exact hL
    simp only [← hS1] at hokC hrep ⊢
    obtain ⟨S', q1, q2, q3, q4⟩ := keepS_first (2 * ck) (by omega) S1 hokC.full (by omega) (hrep 0 (by omega)) noText (Nat.zero_le _)
    have hsv : (⟨S1, [], -1⟩ : St).save 0 ((2 * ck : Nat) : Int) 1 noText = (0, ⟨S', [], -1⟩) := by
      rw [← e2, save_is h2 h256 (by show 2 * ck ≤ S1.length; omega) (by decide) (Nat.zero_le _)]
      exact q1
    have hz : ∀ k, k < lg → S'.getD (lo ck lg 1 + k) noText = blkOf (cat []) k := fun k hk => by
      rw [q4 _ (by omega), hrep _ (by omega), zeros_good]
    have hokS : (⟨S', [], -1⟩ : St).Ok := by
      have := saveAt_ok hokC (slN (2 * ck) 1) 1 noText
      rw [q1] at this
      exact this
    refine ⟨⟨S', [], -1⟩, ?_, ⟨hokS, by show S'.length = L; omega, q3, ⟨⟨fun x hx => absurd hx (by simp), Nat.zero_le _, Nat.le_refl _, by show lo ck lg 1 + lg ≤ S'.length; omega, hz, trivial⟩, hz, fun w hw => absurd hw (by simp)⟩⟩, rfl, rfl⟩
    unfold andT
    rw [if_pos rfl]
    exact hsv
/-- Make, where there is one. -/
theorem make_there {ck lg L : Nat} {st : St} {p : Past} (hc : Conf ck lg L) (h : Hale ck lg L st p) (hl : st.loose = []) (hf : st.left = -1) (hg : 1 ≤ p.gen ∧ p.gen ≤ 4611686018427387904) : stoMake st (ck : Int) (lg : Int) = (7, st) := by
  have h2 := hc.ck2
  have h256 := hc.ck256
  obtain ⟨S, l, c⟩ := st
  have hl : l = [] := hl
  have hf : c = -1 := hf
  subst hl hf
  have e2 : (2 * (ck : Int)) = ((2 * ck : Nat) : Int) := by omega
  have hld := h.keep.load (-1) (by decide) (by omega) (by omega) (by omega) hg
  unfold stoMake
  rw [if_neg (fun x => x (conf_may hc _ h.long)), e2, hld, if_pos rfl]
/-- Open, where nothing is loose. -/
theorem Hale.open_bare {ck lg L : Nat} {st : St} {p : Past} (hc : Conf ck lg L) (h : Hale ck lg L st p) (hl : st.loose = []) (hf : st.left = -1) (hs : p.sure = p.all.length) (hg : 1 ≤ p.gen ∧ p.gen ≤ 4611686018427387904) :
    ∃ st', stoOpen st (ck : Int) (lg : Int) = ((0, p.gen, p.text, cat p.all, p.all), st') ∧ Hale ck lg L st' ⟨p.gen, p.text, p.all, p.all.length⟩ ∧ st'.left = -1 := by
  have e : st.crash [] = st := by
    rw [crash_nothing h.ok]
    obtain ⟨S, l, c⟩ := st
    have hl : l = [] := hl
    have hf : c = -1 := hf
    subst hl hf
    rfl
  have := h.crash_open hc hg
  rw [e, hs, List.take_length] at this
  exact this
end Go.Proofs.YtchhojkhfdkhfaaGreatDoor
namespace Go.Proofs.YtchhojkhfdkhfaaGreatDoor
open Frm
theorem conf82 : Conf 2 2 8 := ⟨by decide, by decide, by decide, by decide, by decide, by decide⟩
def aT : ByteArray := ⟨#[97]⟩
def bT8 : ByteArray := ⟨#[98]⟩
def cT8 : ByteArray := ⟨#[99]⟩
def xyT : ByteArray := ⟨#[120, 121]⟩
/-- A disk of eight blocks. -/
structure G8 (st : St) : Prop where
  ok : st.Ok
  long : st.sure.length = 8
  few : st.loose.length ≤ 1000
structure Chain (st1 st2 st3 st4 st5 st6 st7 st8 st9 st10 : St) : Prop where
  g1 : G8 st1
  g2 : G8 st2
  g3 : G8 st3
  g4 : G8 st4
  g5 : G8 st5
  g6 : G8 st6
  g7 : G8 st7
  g8 : G8 st8
  g9 : G8 st9
  g10 : G8 st10
  c5 : G8 (st5.crash [])
  c9 : G8 (st9.crash [])
  m1 : stoMake (St.new 8) 2 2 = (0, st1)
  m2 : stoMake st1 2 2 = (7, st1)
  o1 : stoOpen st1 2 2 = ((0, 1, noText, cat [], []), st2)
  a1 : stoAppend st2 2 2 ⟨1, cat [], false⟩ aT = (0, ⟨1, cat [aT], false⟩, st3)
  y1 : stoSync st3 ⟨1, cat [aT], false⟩ = (0, ⟨1, cat [aT], false⟩, st4)
  a2 : stoAppend st4 2 2 ⟨1, cat [aT], false⟩ bT8 = (0, ⟨1, cat [aT, bT8], false⟩, st5)
  o2 : stoOpen (st5.crash []) 2 2 = ((0, 1, noText, cat [aT], [aT]), st6)
  t1 : stoTrim st6 2 2 ⟨1, cat [aT], false⟩ xyT = (0, ⟨2, cat [], false⟩, st7)
  a3 : stoAppend st7 2 2 ⟨2, cat [], false⟩ cT8 = (0, ⟨2, cat [cT8], false⟩, st8)
  y2 : stoSync st8 ⟨2, cat [cT8], false⟩ = (0, ⟨2, cat [cT8], false⟩, st9)
  o3 : stoOpen (st9.crash []) 2 2 = ((0, 2, xyT, cat [cT8], [cT8]), st10)
theorem crash_g8 {st : St} (h : G8 st) : G8 (st.crash []) := ⟨h.ok.crash [], by rw [crash_nothing h.ok]; exact h.long, by rw [crash_few]; decide⟩
theorem toNat2 : (2 : Int).toNat = 2 := rfl
theorem chain : ∃ st1 st2 st3 st4 st5 st6 st7 st8 st9 st10, Chain st1 st2 st3 st4 st5 st6 st7 st8 st9 st10 := by
  obtain ⟨st1, e1, h1, l1, f1⟩ := make_new conf82
  have e1 : stoMake (St.new 8) 2 2 = (0, st1) := e1
  have t1 : stoMake st1 2 2 = (7, st1) := make_there conf82 h1 l1 f1 (by decide)
  have g1 : G8 st1 := ⟨h1.ok, h1.long, by rw [l1]; decide⟩
  obtain ⟨st2, e2, h2, f2⟩ := h1.open_bare conf82 l1 f1 rfl (by decide)
  have e2 : stoOpen st1 2 2 = ((0, 1, noText, cat [], []), st2) := e2
  have h2 : Hale 2 2 8 st2 ⟨1, noText, [], 0⟩ := h2
  have g2 : G8 st2 := ⟨h2.ok, h2.long, by have := stoOpen_few st1 2 2; rw [e2, toNat2, l1] at this; exact Nat.le_trans this (by decide)⟩
  obtain ⟨st3, e3, h3, f3⟩ := h2.append_still conf82 f2 aT (by decide) (by decide)
  have e3 : stoAppend st2 2 2 ⟨1, cat [], false⟩ aT = (0, ⟨1, cat [aT], false⟩, st3) := e3
  have h3 : Hale 2 2 8 st3 ⟨1, noText, [aT], 0⟩ := h3
  have q3 : st3.loose.length ≤ st2.loose.length + 2 := by have := stoAppend_few st2 2 2 ⟨1, cat [], false⟩ aT; rw [e3] at this; exact this
  have q2 : st2.loose.length ≤ 4 := by have := stoOpen_few st1 2 2; rw [e2, toNat2, l1] at this; exact this
  obtain ⟨st4, e4, h4, f4⟩ := h3.sync_still conf82 f3
  have e4 : stoSync st3 ⟨1, cat [aT], false⟩ = (0, ⟨1, cat [aT], false⟩, st4) := e4
  have h4 : Hale 2 2 8 st4 ⟨1, noText, [aT], 1⟩ := h4
  have q4 : st4.loose.length ≤ st3.loose.length := by have := stoSync_few st3 ⟨1, cat [aT], false⟩; rw [e4] at this; exact this
  obtain ⟨st5, e5, h5, f5⟩ := h4.append_still conf82 f4 bT8 (by decide) (by decide)
  have e5 : stoAppend st4 2 2 ⟨1, cat [aT], false⟩ bT8 = (0, ⟨1, cat [aT, bT8], false⟩, st5) := e5
  have h5 : Hale 2 2 8 st5 ⟨1, noText, [aT, bT8], 1⟩ := h5
  have q5 : st5.loose.length ≤ st4.loose.length + 2 := by have := stoAppend_few st4 2 2 ⟨1, cat [aT], false⟩ bT8; rw [e5] at this; exact this
  have g5 : G8 st5 := ⟨h5.ok, h5.long, by omega⟩
  obtain ⟨st6, e6, h6, f6⟩ := h5.crash_open conf82 (by decide)
  have e6 : stoOpen (st5.crash []) 2 2 = ((0, 1, noText, cat [aT], [aT]), st6) := e6
  have h6 : Hale 2 2 8 st6 ⟨1, noText, [aT], 1⟩ := h6
  have q6 : st6.loose.length ≤ 4 := by have := stoOpen_few (st5.crash []) 2 2; rw [e6, toNat2, crash_few] at this; exact this
  obtain ⟨st7, e7, h7, f7⟩ := h6.trim_still conf82 f6 (by decide) xyT (by decide)
  have e7 : stoTrim st6 2 2 ⟨1, cat [aT], false⟩ xyT = (0, ⟨2, cat [], false⟩, st7) := e7
  have h7 : Hale 2 2 8 st7 ⟨2, xyT, [], 0⟩ := h7
  have q7 : st7.loose.length ≤ st6.loose.length + 6 + 1 + 2 := by have := stoTrim_few st6 2 2 ⟨1, cat [aT], false⟩ xyT; rw [e7] at this; exact this
  obtain ⟨st8, e8, h8, f8⟩ := h7.append_still conf82 f7 cT8 (by decide) (by decide)
  have e8 : stoAppend st7 2 2 ⟨2, cat [], false⟩ cT8 = (0, ⟨2, cat [cT8], false⟩, st8) := e8
  have h8 : Hale 2 2 8 st8 ⟨2, xyT, [cT8], 0⟩ := h8
  have q8 : st8.loose.length ≤ st7.loose.length + 2 := by have := stoAppend_few st7 2 2 ⟨2, cat [], false⟩ cT8; rw [e8] at this; exact this
  obtain ⟨st9, e9, h9, f9⟩ := h8.sync_still conf82 f8
  have e9 : stoSync st8 ⟨2, cat [cT8], false⟩ = (0, ⟨2, cat [cT8], false⟩, st9) := e9
  have h9 : Hale 2 2 8 st9 ⟨2, xyT, [cT8], 1⟩ := h9
  have q9 : st9.loose.length ≤ st8.loose.length := by have := stoSync_few st8 ⟨2, cat [cT8], false⟩; rw [e9] at this; exact this
  have g9 : G8 st9 := ⟨h9.ok, h9.long, by omega⟩
  obtain ⟨st10, e10, h10, f10⟩ := h9.crash_open conf82 (by decide)
  have e10 : stoOpen (st9.crash []) 2 2 = ((0, 2, xyT, cat [cT8], [cT8]), st10) := e10
  have q10 : st10.loose.length ≤ 4 := by have := stoOpen_few (st9.crash []) 2 2; rw [e10, toNat2, crash_few] at this; exact this
  exact ⟨st1, st2, st3, st4, st5, st6, st7, st8, st9, st10, ⟨g1, g2, ⟨h3.ok, h3.long, by omega⟩, ⟨h4.ok, h4.long, by omega⟩, g5, ⟨h6.ok, h6.long, by omega⟩, ⟨h7.ok, h7.long, by omega⟩, ⟨h8.ok, h8.long, by omega⟩, g9, ⟨h10.ok, h10.long, by omega⟩, crash_g8 g5, crash_g8 g9, e1, t1, e2, e3, e4, e5, e6, e7, e8, e9, e10⟩⟩
end Go.Proofs.YtchhojkhfdkhfaaGreatDoor
