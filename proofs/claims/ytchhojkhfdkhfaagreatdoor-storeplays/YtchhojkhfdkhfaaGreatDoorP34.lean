/- Joined texts. -/
import Derived.Test.YtchhojkhfdkhfaaGreatDoorP33
import Derived.Test.YtchhojkhfdkhfaaGreatDoorP31
import Derived.Test.YtchhojkhfdkhfaaGreatDoorP16
namespace Go.Proofs.YtchhojkhfdkhfaaGreatDoor
open Go Go.RowKit Frm
set_option maxRecDepth 10000 in
theorem copyHead (w : World) (h : ByteArray) (hh : h.size = 256) (ty : TypeId) :
   (Builtin.copy_ #[77,9] ty #[.slice (some ⟨w.heap.size,0,none⟩) 256 256,.string h]).run Tryz.prog (w.alloc (.cells Tryz.zeroCells171 171)).drew = .ok (goInt 256) (w.alloc (.cells (tc h).toArray 171)).drew := by
 have hz : Tryz.zeroCells171.size = 256 := by rw [z89_eq,List.size_toArray,Lib.byteCells_length,List.length_replicate]
 have hg : (w.alloc (.cells Tryz.zeroCells171 171)).drew.heap[w.heap.size]? = some (.cells Tryz.zeroCells171 171 (0,0)) := heap_alloc_last w _
 have h1 := run_copy_some7 (P := Tryz.prog) (w.alloc (.cells Tryz.zeroCells171 171)).drew 77 9 ty 5 w.heap.size 0 256 256 h Tryz.zeroCells171 171 Tryz.underlying77 size5 hg 256 (by rw [hh]; rfl) (by rw [hz]; omega)
 have hrow : (Tryz.zeroCells171.toList.take 0 ++ Lib.byteCells (h.data.toList.take 256) ++ Tryz.zeroCells171.toList.drop (0 + 256)).toArray = (tc h).toArray := by
   have e0 : h.data.toList.length = 256 := by rw [Array.length_toList]; exact hh
   rw [List.take_zero,List.nil_append,List.take_of_length_le (by omega),List.drop_of_length_le (by rw [Array.length_toList,hz]; omega),List.append_nil]
   rfl
 rw [hrow] at h1
 have e : (w.alloc (.cells Tryz.zeroCells171 171)).drew.setRow w.heap.size (tc h).toArray = (w.alloc (.cells (tc h).toArray 171)).drew := by
   have h2 : (w.alloc (.cells Tryz.zeroCells171 171)).drew.setRow w.heap.size (tc h).toArray = ((w.alloc (.cells Tryz.zeroCells171 171)).setRow w.heap.size (tc h).toArray).drew := rfl
   rw [h2,World.setRow_alloc_new]
 rw [h1,e]
 rfl
theorem two_set {X : World} {B : Nat} {x0 x1 : Value} {ty : TypeId} (h : X.heap[B]? = some (.cells #[x0,x1] ty (0,0))) (y0 y1 : Value) : ((X.setCell ⟨B,0,none⟩ y0).setCell ⟨B,1,none⟩ y1).heap[B]? = some (.cells #[y0,y1] ty (0,0)) := by
 rw [heap_set3 (heap_set3 h y0) y1]
 rfl
theorem whole_eq (l : List ByteArray) (odd : Nat) (h : ByteArray) (hl0 : l.getD 0 noText = h) : wholeT l odd =
   if numL (h.data.toList.take 8) < 1 \/ 4611686018427387904 < numL (h.data.toList.take 8) \/ numL (h.data.toList.take 8) % 2 ≠ odd \/ (l.length - 1) * 256 < numL ((h.data.toList.drop 8).take 4) then (0,noText)
   else if h = headT (numL (h.data.toList.take 8)) ((joined ((l.drop 1).take (nb (numL ((h.data.toList.drop 8).take 4))))).extract 0 (numL ((h.data.toList.drop 8).take 4))) /\
       (joined ((l.drop 1).take (nb (numL ((h.data.toList.drop 8).take 4))))).extract (numL ((h.data.toList.drop 8).take 4)) (joined ((l.drop 1).take (nb (numL ((h.data.toList.drop 8).take 4))))).size = zs ((joined ((l.drop 1).take (nb (numL ((h.data.toList.drop 8).take 4))))).size - numL ((h.data.toList.drop 8).take 4))
     then (numL (h.data.toList.take 8),(joined ((l.drop 1).take (nb (numL ((h.data.toList.drop 8).take 4))))).extract 0 (numL ((h.data.toList.drop 8).take 4))) else (0,noText) := by
 unfold wholeT
 rw [hl0]
set_option maxRecDepth 20000 in
set_option maxHeartbeats 4000000 in
theorem whole_any (q : Option Addr) (a : Int) (base odd : Nat) (v : Value) (l : List ByteArray) (w : World) (hO : OwnL7 w base v l) (h2 : 2 <= l.length) (hN : l.length <= 4096) (hl : ∀ t ∈ l,t.size = 256) :
   Calls Tryz.prog 84 #[.agg #[.pointer q,.int .i64 a,.int .i64 (l.length : Int),.int .u64 (odd : Int)],v] w fun e w' => e = .returned (.agg #[.int .u64 ((wholeT l odd).1 : Int),.string (wholeT l odd).2]) /\ Below w.heap.size w w' := by
 obtain ⟨g,c,rfl,hgc,hgl⟩ := hO.form (by omega)
 obtain ⟨h,hh⟩ : ∃ h,h = l[0] := ⟨_,rfl⟩
 have h256 : h.size = 256 := by rw [hh]; exact hl _ (List.getElem_mem _)
 have hz := Tryz.zeroValue171
 have hc0 := hO.at 0 (by omega)
 rw [<- hh] at hc0
 have hcp := copyHead ((w.alloc (.cells #[.pointer q,.int .i64 a,.int .i64 (l.length : Int),.int .u64 (odd : Int)] 138)).alloc (.cells #[.int .u64 0,.string ⟨#[]⟩] 136)) h h256
 have hs2 : ((w.alloc (.cells #[.pointer q,.int .i64 a,.int .i64 (l.length : Int),.int .u64 (odd : Int)] 138)).alloc (.cells #[.int .u64 0,.string ⟨#[]⟩] 136)).heap.size = w.heap.size + 1 + 1 := by simp
 rw [hs2] at hcp
 generalize hZ : Tryz.zeroCells171 = Z at *
 have hcD : (((w.alloc (.cells #[.pointer q,.int .i64 a,.int .i64 (l.length : Int),.int .u64 (odd : Int)] 138)).alloc (.cells #[.int .u64 0,.string ⟨#[]⟩] 136)).alloc (.cells Z 171)).drew.cell? ⟨g,0,none⟩ = some (.string h) := ((kept_cell (((two_below w _ _).alloc (by simp; omega) _).drew) g 0 hgl).trans hc0)
 have HH := hide hh
 clear hh
 have hpos : 0 < l.length := by omega
 have hpos2 : (0 : Int) < (l.length : Int) := by omega
 go_enter Tryz.func84,Tryz.ntmps84
 go_wp2_with fail
 go_region_law (fail)
 have HBV : Hid (Below w.heap.size w (((w.alloc (.cells #[.pointer q,.int .i64 a,.int .i64 (l.length : Int),.int .u64 (odd : Int)] 138)).alloc (.cells #[.int .u64 0,.string ⟨#[]⟩] 136)).alloc (.cells (tc h).toArray 171)).drew) := ((two_below w _ _).alloc (by simp; omega) _).drew
 have hV2 : (((w.alloc (.cells #[.pointer q,.int .i64 a,.int .i64 (l.length : Int),.int .u64 (odd : Int)] 138)).alloc (.cells #[.int .u64 0,.string ⟨#[]⟩] 136)).alloc (.cells (tc h).toArray 171)).drew.heap[w.heap.size + 1 + 1]? = some (.cells (tc h).toArray 171 (0,0)) := by
   have := heap_alloc_last ((w.alloc (.cells #[.pointer q,.int .i64 a,.int .i64 (l.length : Int),.int .u64 (odd : Int)] 138)).alloc (.cells #[.int .u64 0,.string ⟨#[]⟩] 136)) (.cells (tc h).toArray 171)
   rw [hs2] at this
   exact this
 have hV0 : (((w.alloc (.cells #[.pointer q,.int .i64 a,.int .i64 (l.length : Int),.int .u64 (odd : Int)] 138)).alloc (.cells #[.int .u64 0,.string ⟨#[]⟩] 136)).alloc (.cells (tc h).toArray 171)).drew.heap[w.heap.size]? = some (.cells #[.pointer q,.int .i64 a,.int .i64 (l.length : Int),.int .u64 (odd : Int)] 138 (0,0)) :=
   (Below.heap_alloc _ _ _ (by rw [hs2]; omega)).trans ((Below.heap_alloc _ _ _ (by simp)).trans (heap_alloc_last w _))
 have hV1 : (((w.alloc (.cells #[.pointer q,.int .i64 a,.int .i64 (l.length : Int),.int .u64 (odd : Int)] 138)).alloc (.cells #[.int .u64 0,.string ⟨#[]⟩] 136)).alloc (.cells (tc h).toArray 171)).drew.heap[w.heap.size + 1]? = some (.cells #[.int .u64 0,.string ⟨#[]⟩] 136 (0,0)) := by
   have h1 := heap_alloc_last (w.alloc (.cells #[.pointer q,.int .i64 a,.int .i64 (l.length : Int),.int .u64 (odd : Int)] 138)) (.cells #[.int .u64 0,.string ⟨#[]⟩] 136)
   have hs1 : (w.alloc (.cells #[.pointer q,.int .i64 a,.int .i64 (l.length : Int),.int .u64 (odd : Int)] 138)).heap.size = w.heap.size + 1 := by simp
   rw [hs1] at h1
   exact (Below.heap_alloc _ _ _ (by rw [hs2]; omega)).trans h1
 clear hc0 hcp hcD hs2 hz hZ
 generalize (((w.alloc (.cells #[.pointer q,.int .i64 a,.int .i64 (l.length : Int),.int .u64 (odd : Int)] 138)).alloc (.cells #[.int .u64 0,.string ⟨#[]⟩] 136)).alloc (.cells (tc h).toArray 171)).drew = V at *
 have hhl : h.data.toList.length = 256 := by rw [Array.length_toList]; exact h256
 have HN1 : Hid (Calls Tryz.prog 113 #[.slice (some ⟨w.heap.size + 1 + 1,0,none⟩) 8 256] V.drew fun e w' => e = .returned (.int .u64 ((numL (h.data.toList.take 8) : Nat) : Int)) /\ w' = V.drew) := by
   have := number_any (w.heap.size + 1 + 1) 0 256 8 h.data.toList 171 V.drew hV2 (by omega) (by omega)
   rw [List.drop_zero] at this
   exact this
 have HN2 : Hid (Calls Tryz.prog 113 #[.slice (some ⟨w.heap.size + 1 + 1,8,none⟩) 4 248] V.drew fun e w' => e = .returned (.int .u64 ((numL ((h.data.toList.drop 8).take 4) : Nat) : Int)) /\ w' = V.drew) := number_any (w.heap.size + 1 + 1) 8 248 4 h.data.toList 171 V.drew hV2 (by omega) (by omega)
 have HV0 := hide hV0
 have HV1 := hide hV1
 have HV2 := hide hV2
 go_wp2_with fail
 clear hV0 hV1 hV2
 go_region_law (first
   | (go_simp; go_at_call 113; (with_reducible refine HN1.out.mono ?_); rintro e w1 ⟨rfl,rfl⟩)
   | (go_simp; go_at_call 113; (with_reducible refine HN2.out.mono ?_); rintro e w1 ⟨rfl,rfl⟩))
 all_goals
   have c2 : V.drew.cell? ⟨w.heap.size,2,none⟩ = some (.int .i64 (l.length : Int)) := (cell_of_row V.drew _ 2 _ _ _ HV0.out).trans rfl
   have c3 : V.drew.cell? ⟨w.heap.size,3,none⟩ = some (.int .u64 (odd : Int)) := (cell_of_row V.drew _ 3 _ _ _ HV0.out).trans rfl
   have d0 : V.drew.cell? ⟨w.heap.size + 1,0,none⟩ = some (.int .u64 0) := (cell_of_row V.drew _ 0 _ _ _ HV1.out).trans rfl
   have d1 : V.drew.cell? ⟨w.heap.size + 1,1,none⟩ = some (.string ⟨#[]⟩) := (cell_of_row V.drew _ 1 _ _ _ HV1.out).trans rfl
   have hf : ∀ i,V.drew.frozen? ⟨w.heap.size + 1,i,none⟩ = false := fun i => by
     have := HV1.out
     exact free_of (u := V.drew) this i
   have f0 := hf 0
   have f1 := hf 1
   have hl0 : l.getD 0 noText = h := by rw [HH.out]; simp [List.getD,hpos]
   have hWh := whole_eq l odd h hl0
   have hgg : numL (h.data.toList.take 8) < 18446744073709551616 := by
     have := numL_lt (h.data.toList.take 8)
     rw [List.length_take,hhl] at this
     exact this
   generalize numL (h.data.toList.take 8) = gg at *
   generalize numL ((h.data.toList.drop 8).take 4) = nn at *
   have HWh := hide hWh
   have HBX : Hid (Below w.heap.size w V.drew) := HBV.out.drew
   have HX0 : Hid (V.drew.heap[w.heap.size]? = _) := HV0.out
   have HX1 : Hid (V.drew.heap[w.heap.size + 1]? = _) := HV1.out
   have HX2 : Hid (V.drew.heap[w.heap.size + 1 + 1]? = _) := HV2.out
   have HM := hide (fun u => mayBe_any gg u)
   clear HN1 HN2 hWh hl0 hf HBV HV0 HV1 HV2
   generalize V.drew = X at *
   by_cases hbad : gg < 1 \/ 4611686018427387904 < gg \/ gg % 2 ≠ odd \/ (l.length - 1) * 256 < nn
   · have HE : Hid (wholeT l odd = (0,noText)) := HWh.out.trans (if_pos hbad)
     have HEb : Hid (Below w.heap.size w ((X.setCell ⟨w.heap.size + 1,0,none⟩ (.int .u64 0)).setCell ⟨w.heap.size + 1,1,none⟩ (.string ⟨#[]⟩))) := (HBX.out.setCell (p := ⟨w.heap.size + 1,0,none⟩) (Nat.le_succ _) _).setCell (p := ⟨w.heap.size + 1,1,none⟩) (Nat.le_succ _) _
     have HER : Hid (((X.setCell ⟨w.heap.size + 1,0,none⟩ (.int .u64 0)).setCell ⟨w.heap.size + 1,1,none⟩ (.string ⟨#[]⟩)).heap[w.heap.size + 1]? = some (.cells #[.int .u64 0,.string ⟨#[]⟩] 136 (0,0))) := two_set HX1.out _ _
     by_cases hg : 1 <= gg /\ gg <= 4611686018427387904
     · have hd : decide (1 <= gg /\ gg <= 4611686018427387904) = true := decide_eq_true hg
       rw [hd] at HM
       have hm2 : (gg : Int) % 2 = ((gg % 2 : Nat) : Int) := by omega
       by_cases ho : gg % 2 = odd
       · have hr : (l.length - 1) * 256 < nn := by omega
         have hr2 : ((l.length : Int) - 1) * 256 < (nn : Int) := by omega
         have ho2 : (gg : Int) % 2 = (odd : Int) := by omega
         clear hbad hg hd hm2 ho hr
         go_wp2_with (go_at_call 107; refine (HM.out _).mono ?_; rintro e w1 ⟨rfl,rfl⟩)
         exact bodyPost_ret (results_cell_row Tryz.results84 _ _ (w.heap.size + 1) 136 _ (0,0) _ rfl HER.out Tryz.underlying136 rfl (by kernel_rfl)) rfl ⟨by rw [HE.out]; rfl,HEb.out⟩
       · have ho2 : ¬ ((gg : Int) % 2 = (odd : Int)) := by omega
         clear hbad hg hd hm2 ho
         go_wp2_with (go_at_call 107; refine (HM.out _).mono ?_; rintro e w1 ⟨rfl,rfl⟩)
         exact bodyPost_ret (results_cell_row Tryz.results84 _ _ (w.heap.size + 1) 136 _ (0,0) _ rfl HER.out Tryz.underlying136 rfl (by kernel_rfl)) rfl ⟨by rw [HE.out]; rfl,HEb.out⟩
     · have hd : decide (1 <= gg /\ gg <= 4611686018427387904) = false := decide_eq_false hg
       rw [hd] at HM
       clear hbad hg hd
       go_wp2_with (go_at_call 107; refine (HM.out _).mono ?_; rintro e w1 ⟨rfl,rfl⟩)
       exact bodyPost_ret (results_cell_row Tryz.results84 _ _ (w.heap.size + 1) 136 _ (0,0) _ rfl HER.out Tryz.underlying136 rfl (by kernel_rfl)) rfl ⟨by rw [HE.out]; rfl,HEb.out⟩
   · have HE := hide (HWh.out.trans (if_neg hbad))
     have hg : 1 <= gg /\ gg <= 4611686018427387904 := by omega
     have hd : decide (1 <= gg /\ gg <= 4611686018427387904) = true := decide_eq_true hg
     rw [hd] at HM
     have ho2 : (gg : Int) % 2 = (odd : Int) := by omega
     have hr2 : ¬ (((l.length : Int) - 1) * 256 < (nn : Int)) := by omega
     have hnn : nn <= 4095 * 256 := by omega
     have hnb : nb nn + 1 <= l.length := by unfold nb; omega
     have hnb2 : nn <= nb nn * 256 := by unfold nb; omega
     have HBl := hide (fun u => blocksFor_any nn u (by omega))
     have hl1 : ((l.drop 1).take (nb nn)).length = nb nn := by rw [List.length_take,List.length_drop]; omega
     have hl256 : ∀ t ∈ (l.drop 1).take (nb nn),t.size = 256 := fun t ht => hl t (List.mem_of_mem_drop (List.mem_of_mem_take ht))
     have hjs := joined_size _ hl256
     rw [hl1] at hjs
     have HJ : Hid (∀ u,Below X.heap.size X u -> Calls Tryz.prog 114 #[.slice (some ⟨g,1,none⟩) (nb nn) (c - 1),.string ⟨#[]⟩] u fun e w' => e = .returned (.string (joined ((l.drop 1).take (nb nn)))) /\ Below u.heap.size u w') := fun u hu => by
       have hbw := HBX.out.trans (hu.mono HBX.out.size)
       have := join_any g 1 (c - 1) ((l.drop 1).take (nb nn)) u (fun j hj => by
         rw [List.length_take,List.length_drop] at hj
         have e1 := (kept_cell hbw g (1 + j) hgl).trans (hO.at (1 + j) (by omega))
         rw [e1]
         simp [Nat.add_comm]) (Nat.lt_of_lt_of_le hgl hbw.size) (by omega) (by rw [hl1]; omega) (by rw [hjs]; omega)
       rw [hl1] at this
       exact this
     generalize joined ((l.drop 1).take (nb nn)) = b at *
     generalize nb nn = kb at *
     have hb1 : (nn : Int) <= (b.size : Int) := by omega
     have hbS : b.size <= 1100000 := by omega
     clear hl1 hl256 hbad hg hd hjs hnb2 hl
     go_wp2_with (first
       | (go_at_call 107; refine (HM.out _).mono ?_; rintro e w1 ⟨rfl,rfl⟩)
       | (go_at_call 115; refine (HBl.out _).mono ?_; rintro e w1 ⟨rfl,rfl⟩)
       | (go_at_call 114; refine (HJ.out _ (Below.refl _ _)).mono ?_; rintro e w2 ⟨rfl,hb2⟩))
     have HB2 := hide (HBX.out.trans (hb2.mono HBX.out.size))
     have hlt2 : w.heap.size + 1 + 1 < w1.heap.size := (Array.getElem?_eq_some_iff.1 HX2.out).1
     have HY0 := hide ((hb2.block _ (by omega)).trans HX0.out)
     have HY1 := hide ((hb2.block _ (by omega)).trans HX1.out)
     have HY2 := hide ((hb2.block _ hlt2).trans HX2.out)
     clear c2 c3 d0 d1 f0 f1 HBX HX0 HX1 HX2 HJ HBl HWh hb2 hlt2
     have hnz : (0 : Int) <= (nn : Int) := by omega
     refine wp_region_held_drew (S := fun _ => True) (by kernel_rfl) trivial (fun _ => ?_)
     refine takeAt7 0 50 (v := ?w0) rfl rfl (by kernel_rfl) (by kernel_rfl) (by kernel_rfl) (fun _ _ _ h => h) (Or.inl ⟨by rfl,?hw0⟩) trivial ?sest0
     case hw0 => (intro w hSw; clear hSw; go_simp; first | done | with_reducible rfl)
     simp only [List.setIfInBounds_toArray,List.set_cons_succ,List.set_cons_zero]
     refine takeAt7 1 51 (v := ?w1) rfl rfl (by kernel_rfl) (by kernel_rfl) (by kernel_rfl) (fun _ _ _ h => h) (Or.inl ⟨by rfl,?hw1⟩) trivial ?sest1
     case hw1 => (intro w hSw; clear hSw; go_simp; first | done | with_reducible rfl)
     simp only [List.setIfInBounds_toArray,List.set_cons_succ,List.set_cons_zero]
     refine takeAt7 2 52 (v := ?w2) rfl rfl (by kernel_rfl) (by kernel_rfl) (by kernel_rfl) (fun _ _ _ h => h) (Or.inl ⟨by rfl,?hw2⟩) trivial ?sest2
     case hw2 => (intro w hSw; clear hSw; go_simp; first | done | with_reducible rfl)
     simp only [List.setIfInBounds_toArray,List.set_cons_succ,List.set_cons_zero]
     refine takeAt7 3 53 (v := ?w3) rfl rfl (by kernel_rfl) (by kernel_rfl) (by kernel_rfl) (fun _ _ _ h => h) (Or.inl ⟨by rfl,?hw3⟩) trivial ?sest3
     case hw3 => (intro w hSw; clear hSw; go_simp; first | done | with_reducible rfl)
     simp only [List.setIfInBounds_toArray,List.set_cons_succ,List.set_cons_zero]
     refine takeAt7 4 54 (v := ?w4) rfl rfl (by kernel_rfl) (by kernel_rfl) (by kernel_rfl) (fun _ _ _ h => h) (Or.inl ⟨by rfl,?hw4⟩) trivial ?sest4
     case hw4 => (intro w hSw; clear hSw; go_simp; first | done | with_reducible rfl)
     simp only [List.setIfInBounds_toArray,List.set_cons_succ,List.set_cons_zero]
     refine takeAt7 5 55 (v := ?w5) rfl rfl (by kernel_rfl) (by kernel_rfl) (by kernel_rfl) (fun _ _ _ h => h) (Or.inl ⟨by rfl,?hw5⟩) trivial ?sest5
     case hw5 => (intro w hSw; clear hSw; go_simp; first | done | with_reducible rfl)
     simp only [List.setIfInBounds_toArray,List.set_cons_succ,List.set_cons_zero]
     refine takeAt7 6 10 (v := ?w6) rfl rfl (by kernel_rfl) (by kernel_rfl) (by kernel_rfl) (fun _ _ _ h => h) (Or.inl ⟨by rfl,?hw6⟩) trivial ?sest6
     case hw6 => (intro w hSw; clear hSw; go_simp; first | done | with_reducible rfl)
     simp only [List.setIfInBounds_toArray,List.set_cons_succ,List.set_cons_zero]
     refine takeAt7 7 11 (v := ?w7) rfl rfl (by kernel_rfl) (by kernel_rfl) (by kernel_rfl) (fun _ _ _ h => h) (Or.inl ⟨by rfl,?hw7⟩) trivial ?sest7
     case hw7 => (intro w hSw; clear hSw; go_simp; first | done | with_reducible rfl)
     simp only [List.setIfInBounds_toArray,List.set_cons_succ,List.set_cons_zero]
     refine wpAnyH_done (by kernel_rfl) ?_ _
     have hsz89 : (Tryz.prog.info? 171).map (·.size) = some (tc h).toArray.size := by rw [List.size_toArray,tc_length,h256]; exact size89
     have HHd := hide (fun u => headOf_any gg (b.extract 0 nn) u (by rw [ByteArray.size_extract]; omega))
     have heq : ∀ u,(Op.equalIn 10000 171 (.agg (tc h).toArray) (.agg (tc (headT gg (b.extract 0 nn))).toArray)).run Tryz.prog u = .ok (decide (h.data.toList = (headT gg (b.extract 0 nn)).data.toList)) u := fun u => eq89 _ _ u hhl (by rw [Array.length_toList]; exact headT_size _ _)
     have hdd : decide (h.data.toList = (headT gg (b.extract 0 nn)).data.toList) = decide (h = headT gg (b.extract 0 nn)) := decide_eq_decide.2 ⟨fun e => by rw [<- Lib.mk_data h,e,Lib.mk_data],fun e => by rw [<- e]⟩
     rw [hdd] at heq
     have hbe : (b.extract nn b.size).size = b.size - nn := by rw [ByteArray.size_extract]; omega
     have HTr := hide (fun u => trim_any (b.extract nn b.size) u (by rw [hbe]; omega))
     have HAz : Hid ((Lib.trimB (b.extract nn b.size).data.toList 0 = []) ↔ b.extract nn b.size = zs (b.size - nn)) := by
       refine (trim_nil _).trans ?_
       have := (allZ_list (b.extract nn b.size)).symm
       unfold AllZ at this
       rw [hbe] at this
       exact this
     generalize b.extract 0 nn = tx at *
     generalize hbh : b.extract nn b.size = bh at *
     generalize hTh : (tc h).toArray = D at *
     generalize hTk : (tc (headT gg tx)).toArray = E at *
     clear hTh hTk hdd hbe hbh hhl
     go_wp2_with fail
     refine wp_region_held_drew (S := fun z => z.heap[w.heap.size + 1 + 1]? = some (.cells D 171 (0,0))) (by kernel_rfl) HY2.out (fun hHeld => ?_)
     refine takeAt7 0 56 (v := ?v0) rfl rfl (by kernel_rfl) (by kernel_rfl) (by kernel_rfl) (fun _ _ _ h => h) (Or.inl ⟨by rfl,?hy0⟩) (by assumption) ?rest0
     case hy0 => (intro w hSw; (try dsimp only at hSw); refine exec_load_row 171 (.tmp 5) ?_ _ ?_ 171 D (0,0) _ hSw Tryz.underlying171 ?_ hsz89 <;> rfl)
     simp only [List.setIfInBounds_toArray,List.set_cons_succ,List.set_cons_zero]
     refine takeAt7 1 57 (v := ?v1) rfl rfl (by kernel_rfl) (by kernel_rfl) (by kernel_rfl) (fun _ _ _ h => h) (Or.inl ⟨by rfl,?hy1⟩) (by assumption) ?rest1
     case hy1 => (intro w hSw; (try dsimp only at hSw); go_simp; first | done | with_reducible rfl)
     simp only [List.setIfInBounds_toArray,List.set_cons_succ,List.set_cons_zero]
     refine takeAt7 2 58 (v := ?v2) rfl rfl (by kernel_rfl) (by kernel_rfl) (by kernel_rfl) (fun _ _ _ h => h) (Or.inl ⟨by rfl,?hy2⟩) (by assumption) ?rest2
     case hy2 => (intro w hSw; (try dsimp only at hSw); go_simp; first | done | with_reducible rfl)
     simp only [List.setIfInBounds_toArray,List.set_cons_succ,List.set_cons_zero]
     refine wpAnyH_ready (rs := [3]) (by kernel_rfl) (by simp) ?_
     refine AllReadyH.cons (o := { dst := some 59,op := Op.call { callee := Callee.value (Operand.func 111),args := #[Operand.tmp 57,Operand.tmp 58],argTypes := #[50,9] },type := 171,pos := "ckpt.go:164",after := #[{ on := 1,ground := Ground.data }, { on := 2,ground := Ground.data }],guard := none }) rfl (fun K hK => ?_) AllReadyH.nil
     go_simp
     refine (HHd.out _).mono ?_
     rintro e z3 ⟨rfl,hb3⟩
     have hHeld3 := (hb3.block _ (Array.getElem?_eq_some_iff.1 hHeld).1).trans hHeld
     have HB3 := hide (HB2.out.drew.drew.trans (hb3.mono HB2.out.size))
     have HZ1 := hide ((hb3.block _ (Array.getElem?_eq_some_iff.1 HY1.out).1).trans HY1.out)
     clear hb3
     go_wp2_with fail
     refine hK.out _ _ hHeld3 (fun _ => ?_)
     clear hK K
     (try go_frame)
     by_cases hEq : h = headT gg tx
     · have hdt : decide (h = headT gg tx) = true := decide_eq_true hEq
       rw [hdt] at heq
       clear hdt
       refine takeAt7 4 60 (v := ?v4b) rfl rfl (by kernel_rfl) (by kernel_rfl) (by kernel_rfl) (fun _ _ _ h => h) (Or.inl ⟨by rfl,?hy4b⟩) (by assumption) ?rest4b
       case hy4b => (intro w hSw; (try dsimp only at hSw); go_simp; first | done | with_reducible rfl)
       simp only [List.setIfInBounds_toArray,List.set_cons_succ,List.set_cons_zero]
       refine takeAt7 5 61 (v := ?v5b) rfl rfl (by kernel_rfl) (by kernel_rfl) (by kernel_rfl) (fun _ _ _ h => h) (Or.inl ⟨by rfl,?hy5b⟩) (by assumption) ?rest5b
       case hy5b => (intro w hSw; (try dsimp only at hSw); go_simp; first | done | with_reducible rfl)
       simp only [List.setIfInBounds_toArray,List.set_cons_succ,List.set_cons_zero]
       refine takeAt7 6 62 (v := ?v6b) rfl rfl (by kernel_rfl) (by kernel_rfl) (by kernel_rfl) (fun _ _ _ h => h) (Or.inl ⟨by rfl,?hy6b⟩) (by assumption) ?rest6b
       case hy6b => (intro w hSw; (try dsimp only at hSw); go_simp; first | done | with_reducible rfl)
       simp only [List.setIfInBounds_toArray,List.set_cons_succ,List.set_cons_zero]
       refine wpAnyH_ready (rs := [7]) (by kernel_rfl) (by simp) ?_
       refine AllReadyH.cons (o := { dst := some 63,op := Op.call { callee := Callee.value (Operand.func 116),args := #[Operand.tmp 62,Operand.const (Value.string { data := #[0] })],argTypes := #[9,9] },type := 9,pos := "ckpt.go:164",after := #[{ on := 6,ground := Ground.data }, { on := 5,ground := Ground.chain }, { on := 5,ground := Ground.guard }],guard := some (5,false) }) rfl (fun K hK => ?_) AllReadyH.nil
       go_simp
       refine (HTr.out _).mono ?_
       rintro e z4 ⟨rfl,hb4⟩
       have hHeld4 := (hb4.block _ (Array.getElem?_eq_some_iff.1 hHeld3).1).trans hHeld3
       have HB4 := hide (HB3.out.trans (hb4.mono HB3.out.size))
       have HZ4 := hide ((hb4.block _ (Array.getElem?_eq_some_iff.1 HZ1.out).1).trans HZ1.out)
       clear hb4
       go_wp2_with fail
       refine hK.out _ _ hHeld4 (fun _ => ?_)
       clear hK K
       (try go_frame)
       by_cases hz : Lib.trimB bh.data.toList 0 = []
       · rw [hz]
         refine takeAt7 8 64 (v := ?v8c) rfl rfl (by kernel_rfl) (by kernel_rfl) (by kernel_rfl) (fun _ _ _ h => h) (Or.inl ⟨by rfl,?hy8c⟩) (by assumption) ?rest8c
         case hy8c => (intro w hSw; (try dsimp only at hSw); go_simp; first | done | with_reducible rfl)
         simp only [List.setIfInBounds_toArray,List.set_cons_succ,List.set_cons_zero]
         refine takeAt7 9 65 (v := ?v9c) rfl rfl (by kernel_rfl) (by kernel_rfl) (by kernel_rfl) (fun _ _ _ h => h) (Or.inl ⟨by rfl,?hy9c⟩) (by assumption) ?rest9c
         case hy9c => (intro w hSw; (try dsimp only at hSw); go_simp; first | done | with_reducible rfl)
         simp only [List.setIfInBounds_toArray,List.set_cons_succ,List.set_cons_zero]
         refine wpAnyH_done (by kernel_rfl) ?_ _
         have hR : Hid (wholeT l odd = (gg,tx)) := HE.out.trans (if_pos ⟨hEq,HAz.out.1 hz⟩)
         have HO := trivial
         clear hEq hz hHeld hHeld3 hHeld4
         have d0 : z4.cell? ⟨w.heap.size + 1,0,none⟩ = some (.int .u64 0) := (cell_of_row z4 _ 0 _ _ _ HZ4.out).trans rfl
         have d1 : z4.cell? ⟨w.heap.size + 1,1,none⟩ = some (.string ⟨#[]⟩) := (cell_of_row z4 _ 1 _ _ _ HZ4.out).trans rfl
         have f0 : z4.frozen? ⟨w.heap.size + 1,0,none⟩ = false := free_of (u := z4) HZ4.out 0
         have f1 : z4.frozen? ⟨w.heap.size + 1,1,none⟩ = false := free_of (u := z4) HZ4.out 1
         have HER := hide (two_set HZ4.out (.int .u64 (gg : Int)) (.string tx))
         have HEb : Hid (Below w.heap.size w ((z4.setCell ⟨w.heap.size + 1,0,none⟩ (.int .u64 (gg : Int))).setCell ⟨w.heap.size + 1,1,none⟩ (.string tx))) := (HB4.out.setCell (p := ⟨w.heap.size + 1,0,none⟩) (Nat.le_succ _) _).setCell (p := ⟨w.heap.size + 1,1,none⟩) (Nat.le_succ _) _
         clear HE heq HHd HTr HAz HM HO
         go_wp2
         exact bodyPost_ret (results_cell_row Tryz.results84 _ _ (w.heap.size + 1) 136 _ (0,0) _ rfl HER.out Tryz.underlying136 rfl (by kernel_rfl)) rfl ⟨by rw [hR.out],HEb.out⟩
       · generalize hrr : Lib.trimB bh.data.toList 0 = rr at *
         have hrz : rr.isEmpty = false := by cases rr with | nil => exact absurd rfl hz | cons a r => rfl
         clear hrr
         refine takeAt7 8 64 (v := ?v8d) rfl rfl (by kernel_rfl) (by kernel_rfl) (by kernel_rfl) (fun _ _ _ h => h) (Or.inl ⟨by rfl,?hy8d⟩) (by assumption) ?rest8d
         case hy8d => (intro w hSw; (try dsimp only at hSw); go_simp; first | done | with_reducible rfl)
         simp only [List.setIfInBounds_toArray,List.set_cons_succ,List.set_cons_zero]
         refine takeAt7 9 65 (v := ?v9d) rfl rfl (by kernel_rfl) (by kernel_rfl) (by kernel_rfl) (fun _ _ _ h => h) (Or.inl ⟨by rfl,?hy9d⟩) (by assumption) ?rest9d
         case hy9d => (intro w hSw; (try dsimp only at hSw); go_simp; first | done | with_reducible rfl)
         simp only [List.setIfInBounds_toArray,List.set_cons_succ,List.set_cons_zero]
         refine wpAnyH_done (by kernel_rfl) ?_ _
         have hR : Hid (wholeT l odd = (0,noText)) := HE.out.trans (if_neg (fun hh => hz (HAz.out.2 hh.2)))
         have HO := trivial
         clear hEq hz hHeld hHeld3 hHeld4
         have d0 : z4.cell? ⟨w.heap.size + 1,0,none⟩ = some (.int .u64 0) := (cell_of_row z4 _ 0 _ _ _ HZ4.out).trans rfl
         have d1 : z4.cell? ⟨w.heap.size + 1,1,none⟩ = some (.string ⟨#[]⟩) := (cell_of_row z4 _ 1 _ _ _ HZ4.out).trans rfl
         have f0 : z4.frozen? ⟨w.heap.size + 1,0,none⟩ = false := free_of (u := z4) HZ4.out 0
         have f1 : z4.frozen? ⟨w.heap.size + 1,1,none⟩ = false := free_of (u := z4) HZ4.out 1
         have HER := hide (two_set HZ4.out (.int .u64 0) (.string ⟨#[]⟩))
         have HEb : Hid (Below w.heap.size w ((z4.setCell ⟨w.heap.size + 1,0,none⟩ (.int .u64 0)).setCell ⟨w.heap.size + 1,1,none⟩ (.string ⟨#[]⟩))) := (HB4.out.setCell (p := ⟨w.heap.size + 1,0,none⟩) (Nat.le_succ _) _).setCell (p := ⟨w.heap.size + 1,1,none⟩) (Nat.le_succ _) _
         clear HE heq HHd HTr HAz HM HO
         go_wp2
         exact bodyPost_ret (results_cell_row Tryz.results84 _ _ (w.heap.size + 1) 136 _ (0,0) _ rfl HER.out Tryz.underlying136 rfl (by kernel_rfl)) rfl ⟨by rw [hR.out]; rfl,HEb.out⟩
     · have hdt : decide (h = headT gg tx) = false := decide_eq_false hEq
       rw [hdt] at heq
       clear hdt
       refine takeAt7 4 60 (v := ?v4e) rfl rfl (by kernel_rfl) (by kernel_rfl) (by kernel_rfl) (fun _ _ _ h => h) (Or.inl ⟨by rfl,?hy4e⟩) (by assumption) ?rest4e
       case hy4e => (intro w hSw; (try dsimp only at hSw); go_simp; first | done | with_reducible rfl)
       simp only [List.setIfInBounds_toArray,List.set_cons_succ,List.set_cons_zero]
       refine takeAt7 5 61 (v := ?v5e) rfl rfl (by kernel_rfl) (by kernel_rfl) (by kernel_rfl) (fun _ _ _ h => h) (Or.inl ⟨by rfl,?hy5e⟩) (by assumption) ?rest5e
       case hy5e => (intro w hSw; (try dsimp only at hSw); go_simp; first | done | with_reducible rfl)
       simp only [List.setIfInBounds_toArray,List.set_cons_succ,List.set_cons_zero]
       refine takeAt7 6 62 (v := undef) rfl rfl (by kernel_rfl) (by kernel_rfl) (by kernel_rfl) (fun _ _ _ h => h) (Or.inr ⟨by rfl,rfl⟩) (by assumption) ?rest6e
       simp only [List.setIfInBounds_toArray,List.set_cons_succ,List.set_cons_zero]
       refine takeAt7 7 63 (v := undef) rfl rfl (by kernel_rfl) (by kernel_rfl) (by kernel_rfl) (fun _ _ _ h => h) (Or.inr ⟨by rfl,rfl⟩) (by assumption) ?rest7e
       simp only [List.setIfInBounds_toArray,List.set_cons_succ,List.set_cons_zero]
       refine takeAt7 8 64 (v := undef) rfl rfl (by kernel_rfl) (by kernel_rfl) (by kernel_rfl) (fun _ _ _ h => h) (Or.inr ⟨by rfl,rfl⟩) (by assumption) ?rest8e
       simp only [List.setIfInBounds_toArray,List.set_cons_succ,List.set_cons_zero]
       refine takeAt7 9 65 (v := ?v9e) rfl rfl (by kernel_rfl) (by kernel_rfl) (by kernel_rfl) (fun _ _ _ h => h) (Or.inl ⟨by rfl,?hy9e⟩) (by assumption) ?rest9e
       case hy9e => (intro w hSw; (try dsimp only at hSw); go_simp; first | done | with_reducible rfl)
       simp only [List.setIfInBounds_toArray,List.set_cons_succ,List.set_cons_zero]
       refine wpAnyH_done (by kernel_rfl) ?_ _
       have hR : Hid (wholeT l odd = (0,noText)) := HE.out.trans (if_neg (fun hh => hEq hh.1))
       have HO := trivial
       clear hEq hHeld hHeld3
       have d0 : z3.cell? ⟨w.heap.size + 1,0,none⟩ = some (.int .u64 0) := (cell_of_row z3 _ 0 _ _ _ HZ1.out).trans rfl
       have d1 : z3.cell? ⟨w.heap.size + 1,1,none⟩ = some (.string ⟨#[]⟩) := (cell_of_row z3 _ 1 _ _ _ HZ1.out).trans rfl
       have f0 : z3.frozen? ⟨w.heap.size + 1,0,none⟩ = false := free_of (u := z3) HZ1.out 0
       have f1 : z3.frozen? ⟨w.heap.size + 1,1,none⟩ = false := free_of (u := z3) HZ1.out 1
       have HER := hide (two_set HZ1.out (.int .u64 0) (.string ⟨#[]⟩))
       have HEb : Hid (Below w.heap.size w ((z3.setCell ⟨w.heap.size + 1,0,none⟩ (.int .u64 0)).setCell ⟨w.heap.size + 1,1,none⟩ (.string ⟨#[]⟩))) := (HB3.out.setCell (p := ⟨w.heap.size + 1,0,none⟩) (Nat.le_succ _) _).setCell (p := ⟨w.heap.size + 1,1,none⟩) (Nat.le_succ _) _
       clear HE heq HHd HTr HAz HM HO
       go_wp2
       exact bodyPost_ret (results_cell_row Tryz.results84 _ _ (w.heap.size + 1) 136 _ (0,0) _ rfl HER.out Tryz.underlying136 rfl (by kernel_rfl)) rfl ⟨by rw [hR.out]; rfl,HEb.out⟩
theorem whole_odd (l : List ByteArray) (odd : Nat) : (wholeT l odd).1 = 0 /\ (wholeT l odd).2 = noText \/ (wholeT l odd).1 % 2 = odd /\ (wholeT l odd).1 ≠ 0 := by
 rw [whole_eq l odd _ rfl]
 split
 · exact Or.inl ⟨rfl,rfl⟩
 · rename_i h1
   split
   · exact Or.inr ⟨by show numL _ % 2 = odd; omega,by show numL _ ≠ 0; omega⟩
   · exact Or.inl ⟨rfl,rfl⟩
def pick (x c : Nat × ByteArray) : Nat × ByteArray := if x.1 < c.1 then c else x
def slotW (st : St) (o n : Int) (k : Nat) : Nat × ByteArray := wholeT (blocksAt st (slotAt o n k) (n.toNat / 2)) k
def lastW (st : St) (o n : Int) : Nat -> Nat × ByteArray
 | 0 => (0,noText)
 | k + 1 => pick (lastW st o n k) (slotW st o n k)
theorem load_last (st : St) (o n : Int) (hm : st.mayC o n) (h0 : st.left ≠ 0) : st.load o n = if (lastW st o n 2).1 = 0 then ((0,noText),5) else (lastW st o n 2,0) := by
 have h1 := whole_odd (blocksAt st (slotAt o n 0) (n.toNat / 2)) 0
 have h2 := whole_odd (blocksAt st (slotAt o n 1) (n.toNat / 2)) 1
 unfold St.load
 rw [if_neg (fun h => h hm),if_neg h0]
 show (if _ then _ else _) = _
 unfold lastW lastW lastW slotW
 generalize wholeT (blocksAt st (slotAt o n 0) (n.toNat / 2)) 0 = a at *
 generalize wholeT (blocksAt st (slotAt o n 1) (n.toNat / 2)) 1 = b at *
 obtain ⟨a1,a2⟩ := a
 obtain ⟨b1,b2⟩ := b
 unfold pick
 simp only at *
 by_cases ha : 0 < a1
 · rw [if_pos ha]
   by_cases hb : a1 < b1
   · rw [if_pos hb,if_neg (by simp; omega),if_neg (by simp; omega),if_neg (by simp; omega)]
   · rw [if_neg hb,if_neg (by simp; omega),if_pos (show b1 < a1 by omega),if_neg (by simp; omega)]
 · have ha0 : a1 = 0 := by omega
   rw [if_neg ha]
   by_cases hb : 0 < b1
   · rw [if_pos hb,if_neg (by simp; omega),if_neg (by simp; omega),if_neg (by simp; omega)]
   · rw [if_neg hb,if_pos ⟨ha0,by omega⟩,if_pos rfl]
set_option maxRecDepth 20000 in
set_option maxHeartbeats 4000000 in
theorem load_in (q : Nat) (o n : Int) (st : St) (F : Nat -> Prop) (w : World) (hD : DAt w q st F) (hok : st.Ok) (hl : st.loose.length <= 10000) (hm : st.mayC o n) (h0 : st.left ≠ 0) :
   Calls Tryz.prog 47 #[.pointer (some ⟨q,0,none⟩),.int .i64 o,.int .i64 n] w fun e v => e = .returned (.tuple #[.int .u64 (((st.load o n).1.1 : Nat) : Int),.string (st.load o n).1.2,.int .i64 (((st.load o n).2 : Nat) : Int)]) /\ Below w.heap.size w v := by
 have hfa := fun u hu => fault_any7 q o n st F w u hD hok (by
   have := room_pos hm.1
   omega) hu
 have hc : faultC st o n = 0 := by unfold faultC; rw [if_pos hm]
 rw [hc] at hfa
 have HFa := hide (hfa _ (one_below w (.cells #[.pointer (some ⟨q,0,none⟩),.int .i64 o,.int .i64 n] 134)))
 obtain ⟨p1,p2,p3,p4⟩ := room_pos hm.1
 obtain ⟨m1,m2,m3⟩ := hm
 have hF := con.lt hD
 have hfew := hok.few
 have hsl : ∀ k : Nat,k < 2 -> slotAt o n k + n.toNat / 2 <= st.sure.length := fun k hk => by
   unfold slotAt
   rcases (by omega : k = 0 \/ k = 1) with rfl | rfl
   · simp; omega
   · simp; omega
 have HS : Hid (∀ (k : Nat) (u : World),k < 2 -> Calls Tryz.prog 82 #[.agg #[.pointer (some ⟨q,0,none⟩),.int .i64 o,.int .i64 n],.int .u64 (k : Int)] u fun e w' => e = .returned (.agg #[.pointer (some ⟨q,0,none⟩),.int .i64 ((slotAt o n k : Nat) : Int),.int .i64 ((n.toNat / 2 : Nat) : Int),.int .u64 (k : Int)]) /\ Below u.heap.size u w') := fun k u hk => by
   have := slotOf_any q o n k u ⟨m2,by omega⟩ ⟨by omega,p2⟩
   unfold slotV at this
   rw [Nat.mod_eq_of_lt hk] at this
   exact this
 have HR : Hid (∀ (k : Nat) (u : World),k < 2 -> Below w.heap.size w u -> Calls Tryz.prog 83 #[.agg #[.pointer (some ⟨q,0,none⟩),.int .i64 ((slotAt o n k : Nat) : Int),.int .i64 ((n.toNat / 2 : Nat) : Int),.int .u64 (k : Int)]] u fun e w' => ∃ v,e = .returned (.tuple #[v,.int .i64 0]) /\ OwnL7 w' u.heap.size v (blocksAt st (slotAt o n k) (n.toNat / 2)) /\ Below u.heap.size u w') := fun k u hk hu =>
   slotRead_any q (slotAt o n k) (n.toNat / 2) (k : Int) st F u (con.same hD (fun j hj => hu.block j (hF j hj))) hok hl (hsl k hk) h0
 have HW : Hid (∀ (k : Nat) (u : World) (base : Nat) (v : Value),k < 2 -> OwnL7 u base v (blocksAt st (slotAt o n k) (n.toNat / 2)) -> Calls Tryz.prog 84 #[.agg #[.pointer (some ⟨q,0,none⟩),.int .i64 ((slotAt o n k : Nat) : Int),.int .i64 ((n.toNat / 2 : Nat) : Int),.int .u64 (k : Int)],v] u fun e w' => e = .returned (.agg #[.int .u64 (((slotW st o n k).1 : Nat) : Int),.string (slotW st o n k).2]) /\ Below u.heap.size u w') := fun k u base v hk hv => by
   have := whole_any (some ⟨q,0,none⟩) ((slotAt o n k : Nat) : Int) base k v (blocksAt st (slotAt o n k) (n.toNat / 2)) u hv (by rw [blocksAt_length]; omega) (by rw [blocksAt_length]; omega) (blocksAt_full hok _ _ (hsl k hk))
   rw [blocksAt_length] at this
   exact this
 have HLast := hide (load_last st o n ⟨m1,m2,m3⟩ h0)
 have HC0 := hide (heap_alloc_last w (.cells #[.pointer (some ⟨q,0,none⟩),.int .i64 o,.int .i64 n] 134))
 have HB0 := hide (one_below w (.cells #[.pointer (some ⟨q,0,none⟩),.int .i64 o,.int .i64 n] 134))
 clear hfa hc hD hok hl h0 hF hfew hsl
 generalize n.toNat / 2 = N2 at *
 go_enter Tryz.func47,Tryz.ntmps47
 go_wp2_with fail
 generalize w.alloc (.cells #[.pointer (some ⟨q,0,none⟩),.int .i64 o,.int .i64 n] 134) = W at *
 refine HFa.out.mono ?_
 rintro e w1 ⟨rfl,hb1⟩
 have hlt1 : w.heap.size < W.heap.size := (Array.getElem?_eq_some_iff.1 HC0.out).1
 have HC1 := hide ((hb1.block _ hlt1).trans HC0.out)
 have HB1 := hide (HB0.out.trans (hb1.mono HB0.out.size))
 clear HFa HC0 HB0 hb1 hlt1
 go_wp2_with fail
 have HL0 := hide (heap_alloc_last w1 (.cells #[.int .u64 0,.string ⟨#[]⟩] 136))
 have HA0 := hide ((Below.heap_alloc w1 (.cells #[.int .u64 0,.string ⟨#[]⟩] 136) w.heap.size (Array.getElem?_eq_some_iff.1 HC1.out).1).trans HC1.out)
 have HW0 := hide (HB1.out.alloc HB1.out.size (.cells #[.int .u64 0,.string ⟨#[]⟩] 136))
 have HLge : Hid (w.heap.size < w1.heap.size) := (Array.getElem?_eq_some_iff.1 HC1.out).1
 clear HC1 HB1
 generalize w1.alloc (.cells #[.int .u64 0,.string ⟨#[]⟩] 136) = V0 at *
 generalize w1.heap.size = L at *
 go_loopw [12,13,14,15,16,26] (fun _ _ _ _ _ i wr => ∃ k : Nat,k <= 2 /\ i = .int .u64 (k : Int) /\ wr.heap[w.heap.size]? = some (.cells #[.pointer (some ⟨q,0,none⟩),.int .i64 o,.int .i64 n] 134 (0,0)) /\ wr.heap[L]? = some (.cells #[.int .u64 (((lastW st o n k).1 : Nat) : Int),.string (lastW st o n k).2] 136 (0,0)) /\ Below w.heap.size w wr) (fun _ _ _ _ _ i _ => 2 - (intOf i).toNat)
 case atStart => exact ⟨0,by omega,rfl,HA0.out,HL0.out,HW0.out⟩
 case round =>
   obtain ⟨k,hk,rfl,hA,hL,hB⟩ := hrel
   have HA := hide hA
   have HL := hide hL
   have HB := hide hB
   by_cases hlt : k < 2
   · have hk2 : (k : Int) < 2 := by omega
     have c0 : wr.cell? ⟨w.heap.size,0,none⟩ = some (.pointer (some ⟨q,0,none⟩)) := (cell_of_row wr _ 0 _ _ _ hA).trans rfl
     have c1 : wr.cell? ⟨w.heap.size,1,none⟩ = some (.int .i64 o) := (cell_of_row wr _ 1 _ _ _ hA).trans rfl
     have c2 : wr.cell? ⟨w.heap.size,2,none⟩ = some (.int .i64 n) := (cell_of_row wr _ 2 _ _ _ hA).trans rfl
     have KS := hide (HS.out k wr hlt)
     clear hA hL hB
     go_wp2_with fail
     refine KS.out.mono ?_
     rintro e w2 ⟨rfl,hb2⟩
     clear c0 c1 c2 KS
     go_wp2_with fail
     have hb3 := bnext hb2 (one_below w2 (.cells #[.pointer (some ⟨q,0,none⟩),.int .i64 ((slotAt o n k : Nat) : Int),.int .i64 (N2 : Int),.int .u64 (k : Int)] 138))
     have hS3 := heap_alloc_last w2 (.cells #[.pointer (some ⟨q,0,none⟩),.int .i64 ((slotAt o n k : Nat) : Int),.int .i64 (N2 : Int),.int .u64 (k : Int)] 138)
     have KR := hide (HR.out k _ hlt (HB.out.trans (hb3.mono HB.out.size)))
     generalize w2.alloc (.cells #[.pointer (some ⟨q,0,none⟩),.int .i64 ((slotAt o n k : Nat) : Int),.int .i64 (N2 : Int),.int .u64 (k : Int)] 138) = U3 at *
     generalize w2.heap.size = S at *
     refine KR.out.mono ?_
     rintro e w4 ⟨bv,rfl,hO4,hb4⟩
     have hS4 := (hb4.block _ (Array.getElem?_eq_some_iff.1 hS3).1).trans hS3
     have HW4 := hide (HW.out k w4 _ bv hlt hO4)
     have HB4 := hide (bnext hb3 hb4)
     have c0 : w4.cell? ⟨S,0,none⟩ = some (.pointer (some ⟨q,0,none⟩)) := (cell_of_row w4 _ 0 _ _ _ hS4).trans rfl
     have c1 : w4.cell? ⟨S,1,none⟩ = some (.int .i64 ((slotAt o n k : Nat) : Int)) := (cell_of_row w4 _ 1 _ _ _ hS4).trans rfl
     have c2 : w4.cell? ⟨S,2,none⟩ = some (.int .i64 (N2 : Int)) := (cell_of_row w4 _ 2 _ _ _ hS4).trans rfl
     have c3 : w4.cell? ⟨S,3,none⟩ = some (.int .u64 (k : Int)) := (cell_of_row w4 _ 3 _ _ _ hS4).trans rfl
     clear hS3 hS4 hb2 hb3 hb4 hO4 KR
     go_wp2_with fail
     refine HW4.out.mono ?_
     rintro e w5 ⟨rfl,hb5⟩
     have hb6 := (bnext (bnext HB4.out hb5) (one_below w5 (.cells #[.int .u64 (((slotW st o n k).1 : Nat) : Int),.string (slotW st o n k).2] 136)))
     have hLt : L < wr.heap.size := (Array.getElem?_eq_some_iff.1 HL.out).1
     have HA6 := hide ((hb6.block _ (Array.getElem?_eq_some_iff.1 HA.out).1).trans HA.out)
     have hL6 := (hb6.block _ hLt).trans HL.out
     have hC6 := heap_alloc_last w5 (.cells #[.int .u64 (((slotW st o n k).1 : Nat) : Int),.string (slotW st o n k).2] 136)
     have hCL : w5.heap.size ≠ L := by have := (bnext HB4.out hb5).size; omega
     have HB6 := hide (HB.out.trans (hb6.mono HB.out.size))
     have HL6 := hide hL6
     have e0 : (w5.alloc (.cells #[.int .u64 (((slotW st o n k).1 : Nat) : Int),.string (slotW st o n k).2] 136)).cell? ⟨w5.heap.size,0,none⟩ = some (.int .u64 (((slotW st o n k).1 : Nat) : Int)) := new_cell w5 _ 136 0 rfl
     have e1 : (w5.alloc (.cells #[.int .u64 (((slotW st o n k).1 : Nat) : Int),.string (slotW st o n k).2] 136)).cell? ⟨w5.heap.size,1,none⟩ = some (.string (slotW st o n k).2) := new_cell w5 _ 136 1 rfl
     have g0 : (w5.alloc (.cells #[.int .u64 (((slotW st o n k).1 : Nat) : Int),.string (slotW st o n k).2] 136)).cell? ⟨L,0,none⟩ = some (.int .u64 (((lastW st o n k).1 : Nat) : Int)) := (cell_of_row _ _ 0 _ _ _ hL6).trans rfl
     have g1 : (w5.alloc (.cells #[.int .u64 (((slotW st o n k).1 : Nat) : Int),.string (slotW st o n k).2] 136)).cell? ⟨L,1,none⟩ = some (.string (lastW st o n k).2) := (cell_of_row _ _ 1 _ _ _ hL6).trans rfl
     have f0 := free_of hL6 0
     have f1 := free_of hL6 1
     have hLw : w.heap.size <= L := Nat.le_of_lt HLge.out
     have HB7 := hide ((HB6.out.setCell (p := ⟨L,0,none⟩) hLw (.int .u64 (((slotW st o n k).1 : Nat) : Int))).setCell (p := ⟨L,1,none⟩) hLw (.string (slotW st o n k).2))
     have HL7 := hide (two_set hL6 (.int .u64 (((slotW st o n k).1 : Nat) : Int)) (.string (slotW st o n k).2))
     have hwL : w.heap.size ≠ L := Nat.ne_of_lt HLge.out
     have HA7 : Hid ((((w5.alloc (.cells #[.int .u64 (((slotW st o n k).1 : Nat) : Int),.string (slotW st o n k).2] 136)).setCell ⟨L,0,none⟩ (.int .u64 (((slotW st o n k).1 : Nat) : Int))).setCell ⟨L,1,none⟩ (.string (slotW st o n k).2)).heap[w.heap.size]? = some (.cells #[.pointer (some ⟨q,0,none⟩),.int .i64 o,.int .i64 n] 134 (0,0))) :=
       (Below.heap_setCell _ ⟨L,1,none⟩ _ _ hwL).trans ((Below.heap_setCell _ ⟨L,0,none⟩ _ _ hwL).trans HA6.out)
     have HP : Hid (lastW st o n (k + 1) = pick (lastW st o n k) (slotW st o n k)) := rfl
     clear c0 c1 c2 c3 hb5 hb6 hL6 hC6 HW4 HB4 hLt
     generalize slotW st o n k = c at *
     generalize lastW st o n k = x at *
     by_cases hgt : x.1 < c.1
     · have hgt2 : (x.1 : Int) < (c.1 : Int) := by omega
       have HQ : Hid (lastW st o n (k + 1) = c) := by rw [Hid,HP.out]; unfold pick; rw [if_pos hgt]
       go_wp2
       go_roundw
       case rel => exact ⟨k + 1,hlt,by go_num,HA7.out,by rw [HQ.out]; exact HL7.out,HB7.out⟩
       case measure => simp [intOf]; omega
     · have hgt2 : ¬ (x.1 : Int) < (c.1 : Int) := by omega
       have HQ : Hid (lastW st o n (k + 1) = x) := by rw [Hid,HP.out]; unfold pick; rw [if_neg hgt]
       go_wp2
       go_roundw
       case rel => exact ⟨k + 1,hlt,by go_num,HA6.out,by rw [HQ.out]; exact HL6.out,HB6.out⟩
       case measure => simp [intOf]; omega
   · have hke : k = 2 := by omega
     subst hke
     have g0 : wr.cell? ⟨L,0,none⟩ = some (.int .u64 (((lastW st o n 2).1 : Nat) : Int)) := (cell_of_row _ _ 0 _ _ _ hL).trans rfl
     have g1 : wr.cell? ⟨L,1,none⟩ = some (.string (lastW st o n 2).2) := (cell_of_row _ _ 1 _ _ _ hL).trans rfl
     clear hA hL hB hlt hk
     generalize lastW st o n 2 = x at *
     by_cases hx : x.1 = 0
     · have hx2 : (x.1 : Int) = 0 := by omega
       have HQ : Hid (st.load o n = ((0,noText),5)) := by rw [Hid,HLast.out,if_pos hx]
       clear hx HLast
       go_wp2
       go_ret3
       rw [HQ.out]
       exact ⟨rfl,HB.out⟩
     · have hx2 : ¬ ((x.1 : Int) = 0) := by omega
       have HQ : Hid (st.load o n = (x,0)) := by rw [Hid,HLast.out,if_neg hx]
       clear hx HLast
       go_wp2_with fail
       go_quiet (fail)
       go_wp2
       go_ret3
       rw [HQ.out]
       exact ⟨rfl,below_drewN HB.out _⟩
theorem load_fault (pq : Option Addr) (o n : Int) (w : World) (c : Nat) (hc : c ≠ 0) (hF : Calls Tryz.prog 81 #[.agg #[.pointer pq,.int .i64 o,.int .i64 n]] (w.alloc (.cells #[.pointer pq,.int .i64 o,.int .i64 n] 134)) fun e v => e = .returned (.int .i64 (c : Int)) /\ Below (w.alloc (.cells #[.pointer pq,.int .i64 o,.int .i64 n] 134)).heap.size (w.alloc (.cells #[.pointer pq,.int .i64 o,.int .i64 n] 134)) v) :
   Calls Tryz.prog 47 #[.pointer pq,.int .i64 o,.int .i64 n] w fun e v => e = .returned (.tuple #[.int .u64 0,.string noText,.int .i64 (c : Int)]) /\ Below w.heap.size w v := by
 have HF := hide hF
 have HB := hide (one_below w (.cells #[.pointer pq,.int .i64 o,.int .i64 n] 134))
 have hz : ¬ ((c : Int) = 0) := by omega
 clear hF hc
 go_enter Tryz.func47,Tryz.ntmps47
 go_wp2_with fail
 generalize w.alloc (.cells #[.pointer pq,.int .i64 o,.int .i64 n] 134) = W at *
 refine HF.out.mono ?_
 rintro e w1 ⟨rfl,hb1⟩
 have HB1 := hide (bnext HB.out hb1)
 clear hb1 HF HB
 go_wp2
 go_ret3
 exact ⟨rfl,HB1.out⟩
set_option maxRecDepth 20000 in
set_option maxHeartbeats 4000000 in
theorem load_down (q : Nat) (o n : Int) (st : St) (F : Nat -> Prop) (w : World) (hD : DAt w q st F) (hok : st.Ok) (hl : st.loose.length <= 10000) (hm : st.mayC o n) (h0 : st.left = 0) :
   Calls Tryz.prog 47 #[.pointer (some ⟨q,0,none⟩),.int .i64 o,.int .i64 n] w fun e v => e = .returned (.tuple #[.int .u64 0,.string noText,.int .i64 50]) /\ Below w.heap.size w v := by
 have hfa := fun u hu => fault_any7 q o n st F w u hD hok (by
   have := room_pos hm.1
   omega) hu
 have hc : faultC st o n = 0 := by unfold faultC; rw [if_pos hm]
 rw [hc] at hfa
 have HFa := hide (hfa _ (one_below w (.cells #[.pointer (some ⟨q,0,none⟩),.int .i64 o,.int .i64 n] 134)))
 obtain ⟨p1,p2,p3,p4⟩ := room_pos hm.1
 obtain ⟨m1,m2,m3⟩ := hm
 have hF := con.lt hD
 have hfew := hok.few
 have hsl : slotAt o n 0 <= 9000 := by
   unfold slotAt
   simp; omega
 have HS : Hid (∀ (u : World),Calls Tryz.prog 82 #[.agg #[.pointer (some ⟨q,0,none⟩),.int .i64 o,.int .i64 n],.int .u64 0] u fun e w' => e = .returned (.agg #[.pointer (some ⟨q,0,none⟩),.int .i64 ((slotAt o n 0 : Nat) : Int),.int .i64 ((n.toNat / 2 : Nat) : Int),.int .u64 0]) /\ Below u.heap.size u w') := fun u =>
   slotOf_any q o n 0 u ⟨m2,by omega⟩ ⟨by omega,p2⟩
 have HR : Hid (∀ (u : World),Below w.heap.size w u -> Calls Tryz.prog 83 #[.agg #[.pointer (some ⟨q,0,none⟩),.int .i64 ((slotAt o n 0 : Nat) : Int),.int .i64 ((n.toNat / 2 : Nat) : Int),.int .u64 0]] u fun e w' => e = .returned (.tuple #[.slice none 0 0,.int .i64 50]) /\ Below u.heap.size u w') := fun u hu =>
   slotRead_down q ((slotAt o n 0 : Nat) : Int) ((n.toNat / 2 : Nat) : Int) 0 st F u (con.same hD (fun j hj => hu.block j (hF j hj))) hok hl (by omega) (by omega) h0
 have HC0 := hide (heap_alloc_last w (.cells #[.pointer (some ⟨q,0,none⟩),.int .i64 o,.int .i64 n] 134))
 have HB0 := hide (one_below w (.cells #[.pointer (some ⟨q,0,none⟩),.int .i64 o,.int .i64 n] 134))
 clear hfa hc hD hok hl h0 hF hfew hsl
 generalize n.toNat / 2 = N2 at *
 generalize slotAt o n 0 = sa at *
 go_enter Tryz.func47,Tryz.ntmps47
 go_wp2_with fail
 generalize w.alloc (.cells #[.pointer (some ⟨q,0,none⟩),.int .i64 o,.int .i64 n] 134) = W at *
 refine HFa.out.mono ?_
 rintro e w1 ⟨rfl,hb1⟩
 have hlt1 : w.heap.size < W.heap.size := (Array.getElem?_eq_some_iff.1 HC0.out).1
 have hC1 := (hb1.block _ hlt1).trans HC0.out
 have HA0 := hide ((Below.heap_alloc w1 (.cells #[.int .u64 0,.string ⟨#[]⟩] 136) w.heap.size (Array.getElem?_eq_some_iff.1 hC1).1).trans hC1)
 have HB1 := (HB0.out.trans (hb1.mono HB0.out.size))
 have HW0 := hide (HB1.alloc HB1.size (.cells #[.int .u64 0,.string ⟨#[]⟩] 136))
 clear HFa HC0 HB0 hb1 hlt1 hC1 HB1
 go_wp2_with fail
 generalize w1.alloc (.cells #[.int .u64 0,.string ⟨#[]⟩] 136) = V0 at *
 generalize w1.heap.size = L at *
 go_loopw [12,13,14,15,16,26] (fun _ _ _ _ _ i wr => i = .int .u64 0 /\ wr = V0) (fun _ _ _ _ _ _ _ => 0)
 case atStart => exact ⟨rfl,rfl⟩
 case round =>
   obtain ⟨rfl,hwr⟩ := hrel
   obtain rfl := hwr.symm
   have c0 : V0.cell? ⟨w.heap.size,0,none⟩ = some (.pointer (some ⟨q,0,none⟩)) := (cell_of_row V0 _ 0 _ _ _ HA0.out).trans rfl
   have c1 : V0.cell? ⟨w.heap.size,1,none⟩ = some (.int .i64 o) := (cell_of_row V0 _ 1 _ _ _ HA0.out).trans rfl
   have c2 : V0.cell? ⟨w.heap.size,2,none⟩ = some (.int .i64 n) := (cell_of_row V0 _ 2 _ _ _ HA0.out).trans rfl
   go_wp2_with fail
   refine (HS.out _).mono ?_
   rintro e w2 ⟨rfl,hb2⟩
   clear c0 c1 c2 HS
   go_wp2_with fail
   have hb3 := bnext hb2 (one_below w2 (.cells #[.pointer (some ⟨q,0,none⟩),.int .i64 (sa : Int),.int .i64 (N2 : Int),.int .u64 0] 138))
   have KR := hide (HR.out _ (HW0.out.trans (hb3.mono HW0.out.size)))
   have HB3 := hide (HW0.out.trans (hb3.mono HW0.out.size))
   generalize w2.alloc (.cells #[.pointer (some ⟨q,0,none⟩),.int .i64 (sa : Int),.int .i64 (N2 : Int),.int .u64 0] 138) = U3 at *
   refine KR.out.mono ?_
   rintro e w4 ⟨rfl,hb4⟩
   have HB4 := hide (HB3.out.trans (hb4.mono HB3.out.size))
   clear hb2 hb3 hb4 KR HB3
   go_wp2
   go_ret3
   exact ⟨rfl,HB4.out⟩
theorem pLoad (q : Nat) (o n : Int) (st : St) (F : Nat -> Prop) (w : World) (hD : DAt w q st F) (hok : st.Ok) (hl : st.loose.length <= 10000) (hn : -9223372036854775808 <= n /\ n <= 9223372036854775807) :
   Calls Tryz.prog 47 #[.pointer (some ⟨q,0,none⟩),.int .i64 o,.int .i64 n] w fun e v => e = .returned (.tuple #[.int .u64 (((st.load o n).1.1 : Nat) : Int),.string (st.load o n).1.2,.int .i64 (((st.load o n).2 : Nat) : Int)]) /\ Below w.heap.size w v := by
 by_cases hm : st.mayC o n
 · by_cases h0 : st.left = 0
   · have e : st.load o n = ((0,noText),50) := by unfold St.load; rw [if_neg (fun h => h hm),if_pos h0]
     rw [e]
     exact load_down q o n st F w hD hok hl hm h0
   · exact load_in q o n st F w hD hok hl hm h0
 · have e : st.load o n = ((0,noText),2) := by unfold St.load; rw [if_pos hm]
   rw [e]
   have := fault_any7 q o n st F w _ hD hok hn (one_below w (.cells #[.pointer (some ⟨q,0,none⟩),.int .i64 o,.int .i64 n] 134))
   unfold faultC at this
   rw [if_neg hm] at this
   exact load_fault (some ⟨q,0,none⟩) o n w 2 (by decide) this
end Go.Proofs.YtchhojkhfdkhfaaGreatDoor
