/- The program's checkpoints: Save. -/
import Derived.Test.YtiebhdgpnloieaaDoorGC
import Derived.Test.YtiebhdgpnloieaaDoorCg
namespace Go.Proofs.YtiebhdgpnloieaaDoor
open Go Go.RowKit Frm
/-- A value of a struct or array is built. -/
theorem exec_build {P : Program} {ev : Operand → Value} {o : Oper} {w : World} (t : TypeId) (parts : Array (Nat × Operand)) (ho : o.op = .build t parts) (cells : Array Value) (hb : P.built t (parts.map fun (i, x) => (i, ev x)).toList = some cells) :
    (execOp ev o).run P w = .ok (.value (.agg cells)) w := by
  unfold execOp
  simp only [ho, Sem.run_bind, run_build w t _ cells hb, Result.andThen_ok]
  rfl
theorem exec_build0 {P : Program} {ev : Operand → Value} {o : Oper} {w : World} (t : TypeId) (ho : o.op = .build t #[]) (cells : Array Value) (hb : P.built t [] = some cells) :
    (execOp ev o).run P w = .ok (.value (.agg cells)) w := exec_build t #[] ho cells (by simpa using hb)
theorem andT_assoc (x : Nat × St) (f g : St → Nat × St) : andT (andT x f) g = andT x (fun s => andT (f s) g) := by
  by_cases h : x.1 = 0
  · have e : ∀ k : St → Nat × St, andT x k = k x.2 := fun k => by unfold andT; rw [if_pos h]
    rw [e, e]
  · have e : ∀ k : St → Nat × St, andT x k = x := fun k => by unfold andT; rw [if_neg h]
    rw [e, e, e]
theorem andT_end (x : Nat × St) : andT x (fun s => (0, s)) = x := by
  by_cases h : x.1 = 0
  · unfold andT; rw [if_pos h]; exact Prod.ext h.symm rfl
  · unfold andT; rw [if_neg h]
/-- The six steps of Save. -/
def six (a gen : Nat) (t : ByteArray) : List (St → Nat × St) := [fun s => s.write (a : Int) zblock, St.sync, putsT (a + 1) t (nb t.size) 0, St.sync, fun s => s.write (a : Int) (headT gen t), St.sync]
theorem runs_six (a gen : Nat) (t : ByteArray) (st : St) : runs (six a gen t) st = saveAt a gen t st := by
  unfold six saveAt
  simp only [runs, andT_assoc, andT_end]
theorem zbuilt : Tryd.prog.built 89 [] = some Tryd.zeroCells89 := by kernel_rfl
theorem z89_tc : Tryd.zeroCells89 = (tc zblock).toArray := by rw [z89_eq]; rfl
def syV (q : Nat) : Value := .func (.func 38) #[.pointer (some ⟨q, 0, none⟩)] #[]
def txV (p : Nat) : Value := .func (.func 60) #[] #[.pointer (some ⟨p, 0, none⟩)]
set_option maxRecDepth 10000 in
set_option maxHeartbeats 1000000 in
theorem six_any (q a gen : Nat) (kk gi : Int) (t : ByteArray) (st : St) (F : Nat → Prop) (w U z1 z2 z3 z4 : World) (vS : Value) (Bs : List Nat) (hD : DAt w q st F) (hok : st.Ok) (hl : st.loose.length + 3000 ≤ 10000) (ha : a ≤ 8192) (hn : nb t.size ≤ 391)
    (hU : Below w.heap.size w U) (h1 : WrAt z1 U.heap.size q ((a : Int) + 0) zblock ∧ Below U.heap.size U z1 ∧ z1.heap.size = U.heap.size + 3) (hT : WT q a kk gi t z1 (nb t.size) vS Bs z2) (h3 : Below z2.heap.size z2 z3)
    (h4 : WrAt z4 z3.heap.size q ((a : Int) + 0) (headT gen t) ∧ Below z3.heap.size z3 z4 ∧ z4.heap.size = z3.heap.size + 3) :
    Calls Tryd.prog 36 #[.slice (some ⟨z4.heap.size, 0, none⟩) 6 6] (z4.alloc (.cells #[wrV U.heap.size, syV q, txV (z1.heap.size + 1), syV q, wrV z3.heap.size, syV q] 87)) fun e v =>
      e = .returned (.int .i64 (((saveAt a gen t st).1 : Nat) : Int)) ∧ (∃ F', DAt v q (saveAt a gen t st).2 F' ∧ Loc F F' w v) ∧ (∀ k, w.heap.size ≤ k → k < z4.heap.size → v.heap[k]? = z4.heap[k]?) := by
  obtain ⟨r1, b1, s1⟩ := h1
  obtain ⟨r4, b4, s4⟩ := h4
  have b2 : Below z1.heap.size z1 z2 := hT.below
  have hlt := hT.lt
  have l2 := b2.size
  have l3 := h3.size
  have l4 := b4.size
  have lU := hU.size
  have b5 : Below z4.heap.size z4 (z4.alloc (.cells #[wrV U.heap.size, syV q, txV (z1.heap.size + 1), syV q, wrV z3.heap.size, syV q] 87)) := one_below z4 _
  have l5 : (z4.alloc (.cells #[wrV U.heap.size, syV q, txV (z1.heap.size + 1), syV q, wrV z3.heap.size, syV q] 87)).heap.size = z4.heap.size + 1 := by simp
  have hc := fun i v h => new_cell z4 #[wrV U.heap.size, syV q, txV (z1.heap.size + 1), syV q, wrV z3.heap.size, syV q] 87 i (v := v) h
  rw [← runs_six]
  generalize z4.alloc (.cells #[wrV U.heap.size, syV q, txV (z1.heap.size + 1), syV q, wrV z3.heap.size, syV q] 87) = z5 at *
  have k45 := b5
  have k35 : Below z3.heap.size z3 z5 := b4.trans (b5.mono (by omega))
  have k25 : Below z2.heap.size z2 z5 := h3.trans (k35.mono (by omega))
  have k15 : Below z1.heap.size z1 z5 := b2.trans (k25.mono (by omega))
  have kw : Below w.heap.size w z5 := (hU.trans (b1.mono (by omega))).trans (k15.mono (by omega))
  have hT5 := hT.keep k25
  have hF := con.lt hD
  have hcast : (a : Int) + 0 = ((a : Nat) : Int) := by omega
  rw [hcast] at r1 r4
  have hact : ∀ j (hj : j < [wrV U.heap.size, syV q, txV (z1.heap.size + 1), syV q, wrV z3.heap.size, syV q].length) (hf : j < (six a gen t).length), ActAt z5 q (fun k => U.heap.size ≤ k ∧ k < z4.heap.size) [wrV U.heap.size, syV q, txV (z1.heap.size + 1), syV q, wrV z3.heap.size, syV q][j] (six a gen t)[j] (nb t.size + 1) := by
    intro j hj hf
    have hj6 : j < 6 := hj
    rcases (by omega : j = 0 ∨ j = 1 ∨ j = 2 ∨ j = 3 ∨ j = 4 ∨ j = 5) with rfl | rfl | rfl | rfl | rfl | rfl
    · show ActAt z5 q _ (wrV U.heap.size) (fun s => s.write (a : Int) zblock) _
      exact act_write z5 q U.heap.size _ _ _ _ (r1.below k15) ⟨by omega, by omega, by omega⟩ (by omega) (by omega)
    · exact act_sync z5 q _ _
    · show ActAt z5 q _ (txV (z1.heap.size + 1)) (putsT (a + 1) t (nb t.size) 0) _
      have hrow := hT5.row
      have hacts := hT.acts
      have hacts5 := hT5.acts
      have hlen := hT.len
      have hnew := hT.new
      have hr2 := hT.row
      rw [← hlen] at hrow hr2 ⊢
      exact act_text z5 (z1.heap.size + 1) q (a + 1) _ t vS Bs _ (by omega) (by omega) hT5.cells.1 hrow ⟨⟨by omega, by omega⟩, fun j hj => ⟨by have := hnew j hj; omega, by have := own_lt hr2 hj; omega⟩, fun j hj => by
        obtain ⟨x1, x2⟩ := hacts j hj
        have := x1.lt
        exact ⟨⟨by omega, by omega⟩, ⟨by omega, by omega⟩, ⟨by omega, by omega⟩⟩⟩ (fun j hj => (hacts5 j hj).1) (by omega)
    · exact act_sync z5 q _ _
    · show ActAt z5 q _ (wrV z3.heap.size) (fun s => s.write (a : Int) (headT gen t)) _
      exact act_write z5 q z3.heap.size _ _ _ _ (r4.below k45) ⟨by omega, by omega, by omega⟩ (by omega) (by omega)
    · exact act_sync z5 q _ _
  have := inOrder_any q z4.heap.size 0 6 (nb t.size + 1) [wrV U.heap.size, syV q, txV (z1.heap.size + 1), syV q, wrV z3.heap.size, syV q] (six a gen t) (fun k => U.heap.size ≤ k ∧ k < z4.heap.size) st F z5 rfl (by show 6 ≤ 5000; omega)
    (fun j hj => by
      have hj6 : j < 6 := hj
      rw [Nat.zero_add]
      rcases (by omega : j = 0 ∨ j = 1 ∨ j = 2 ∨ j = 3 ∨ j = 4 ∨ j = 5) with rfl | rfl | rfl | rfl | rfl | rfl <;> exact hc _ _ rfl) (by omega) (fun hf => by have := hF _ hf; omega) hact
    (con.same hD (fun k hk => kw.block k (hF k hk))) hok (fun k hk => ⟨by omega, fun hf => by have := hF k hf; omega⟩) (by show st.loose.length + 6 * (nb t.size + 1) ≤ 10000; omega)
  refine this.mono ?_
  rintro e v ⟨he, F', h6, l6⟩
  exact ⟨he, ⟨F', h6, (Loc.of_below F kw).trans l6⟩, fun k hk hk4 => (l6.block k (by omega) (fun hf => by have := hF k hf; omega)).trans (k45.block k hk4)⟩
theorem info87b : (Tryd.prog.info? 87).map (fun i => (i.zero, i.size)) = some (some (.nilFunc), 1) := by kernel_rfl
set_option maxRecDepth 20000 in
set_option maxHeartbeats 4000000 in
theorem save_in (q a kk : Nat) (o n : Int) (gen : Nat) (t : ByteArray) (st : St) (F : Nat → Prop) (w : World) (r : Int) (hD : DAt w q st F) (hok : st.Ok) (hl : st.loose.length + 3000 ≤ 10000) (hg : 1 ≤ gen ∧ gen ≤ 4611686018427387904) (hr : (t.size : Int) ≤ r) (gi : Int) (ha : a ≤ 8192) (ht : t.size ≤ 100000)
    (hF : ∀ u, Below w.heap.size w u → Calls Tryd.prog 33 #[.agg #[.pointer (some ⟨q, 0, none⟩), .int .i64 o, .int .i64 n]] u fun e v => e = .returned (.int .i64 0) ∧ Below u.heap.size u v)
    (hR : ∀ u, Calls Tryd.prog 7 #[.int .i64 n] u fun e v => e = .returned (.int .i64 r) ∧ v = u)
    (hS : ∀ u, Calls Tryd.prog 35 #[.agg #[.pointer (some ⟨q, 0, none⟩), .int .i64 o, .int .i64 n], .int .u64 (gen : Int)] u fun e v => e = .returned (.agg #[.pointer (some ⟨q, 0, none⟩), .int .i64 (a : Int), .int .i64 (kk : Int), .int .u64 gi]) ∧ Below u.heap.size u v) :
    Calls Tryd.prog 16 #[.pointer (some ⟨q, 0, none⟩), .int .i64 o, .int .i64 n, .int .u64 (gen : Int), .string t] w fun e v => e = .returned (.int .i64 (((saveAt a gen t st).1 : Nat) : Int)) ∧ ∃ F', DAt v q (saveAt a gen t st).2 F' ∧ Loc F F' w v := by
  have HF := hide hF
  have HR := hide hR
  have HS := hide hS
  have hd : decide (1 ≤ gen ∧ gen ≤ 4611686018427387904) = true := decide_eq_true hg
  have HM : Hid (∀ u, Calls Tryd.prog 34 #[.int .u64 (gen : Int)] u fun e w' => e = .returned (.bool true) ∧ w' = u) := fun u => by
    have := mayBe_any gen u
    rw [hd] at this
    exact this
  have HC : Hid (∀ v, Below (w.alloc (.cells #[.pointer (some ⟨q, 0, none⟩), .int .i64 o, .int .i64 n] 80)).heap.size (w.alloc (.cells #[.pointer (some ⟨q, 0, none⟩), .int .i64 o, .int .i64 n] 80)) v → v.cell? ⟨w.heap.size, 0, none⟩ = some (.pointer (some ⟨q, 0, none⟩)) ∧ v.cell? ⟨w.heap.size, 1, none⟩ = some (.int .i64 o) ∧ v.cell? ⟨w.heap.size, 2, none⟩ = some (.int .i64 n)) := fun v hv => by
    have hlt : w.heap.size < (w.alloc (.cells #[.pointer (some ⟨q, 0, none⟩), .int .i64 o, .int .i64 n] 80)).heap.size := by simp
    exact ⟨(kept_cell hv _ 0 hlt).trans (new_cell w _ 80 0 rfl), (kept_cell hv _ 1 hlt).trans (new_cell w _ 80 1 rfl), (kept_cell hv _ 2 hlt).trans (new_cell w _ 80 2 rfl)⟩
  clear hF hR hS hd
  go_enter Tryd.func16, Tryd.ntmps16
  go_wp2_with (first
    | (go_at_call 33; refine (HF.out _ (one_below w _)).mono ?_; rintro e w1 ⟨rfl, hb1⟩; obtain ⟨d0, d1, d2⟩ := HC.out _ hb1)
    | (go_at_call 34; refine (HM.out _).mono ?_; rintro e w2 ⟨rfl, rfl⟩)
    | (go_at_call 7; refine (HR.out _).mono ?_; rintro e w2 ⟨rfl, rfl⟩)
    | (go_at_call 35; refine (HS.out _).mono ?_; rintro e w3 ⟨rfl, hb3⟩))
  have HBU : Hid (Below w.heap.size w (w3.alloc (.cells #[.pointer (some ⟨q, 0, none⟩), .int .i64 (a : Int), .int .i64 (kk : Int), .int .u64 gi] 84))) := by
    have h1 := (one_below w (.cells #[.pointer (some ⟨q, 0, none⟩), .int .i64 o, .int .i64 n] 80))
    have h2 := bnext h1 hb1
    have h3 := bnext h2 hb3
    exact bnext h3 (one_below w3 _)
  have HSl := hide (heap_alloc_last w3 (.cells #[.pointer (some ⟨q, 0, none⟩), .int .i64 (a : Int), .int .i64 (kk : Int), .int .u64 gi] 84))
  have HGe : Hid (w.heap.size ≤ w3.heap.size) := by
    have h1 := (one_below w (.cells #[.pointer (some ⟨q, 0, none⟩), .int .i64 o, .int .i64 n] 80))
    exact (bnext (bnext h1 hb1) hb3).size
  have hszb : w3.heap.size < (w3.alloc (.cells #[.pointer (some ⟨q, 0, none⟩), .int .i64 (a : Int), .int .i64 (kk : Int), .int .u64 gi] 84)).heap.size := by simp
  clear HF HR HS HM HC d0 d1 d2 hb1 hb3 hr
  generalize w3.alloc (.cells #[.pointer (some ⟨q, 0, none⟩), .int .i64 (a : Int), .int .i64 (kk : Int), .int .u64 gi] 84) = U at *
  generalize w3.heap.size = B4 at *
  have HD := hide hD
  have HOk := hide hok
  have hF := con.lt hD
  have HFl := hide hF
  have hsz84 : (Tryd.prog.info? 84).map (·.size) = some (#[.pointer (some ⟨q, 0, none⟩), .int .i64 (a : Int), .int .i64 (kk : Int), .int .u64 gi] : Array Value).size := by kernel_rfl
  have HW1 := hide (fun u => writing_any q (a : Int) (kk : Int) gi 0 zblock u zblock_size (by unfold wrap64; omega))
  have HW2 := hide (fun u => writingText_any q a (kk : Int) gi t u ha (by omega))
  have HW3 := hide (fun u => headOf_any gen t u (by omega))
  have HW4 := hide (fun u => writing_any q (a : Int) (kk : Int) gi 0 (headT gen t) u (headT_size gen t) (by unfold wrap64; omega))
  have hzb := zbuilt
  rw [z89_tc] at hzb
  have HZB := hide hzb
  have HRun := hide (runs_six a gen t st)
  have hnb : nb t.size ≤ 391 := by unfold nb; omega
  have HNb := hide hnb
  have HHl := hide hl
  have HAa := hide ha
  clear hD hok hF hl hg ha ht hzb hnb
  generalize hZB : (tc zblock).toArray = ZB at *
  clear hZB
  generalize hHB : (tc (headT gen t)).toArray = HB at *
  clear hHB
  refine wp_region_held_drew (S := fun z => z.heap[B4]? = some (.cells #[.pointer (some ⟨q, 0, none⟩), .int .i64 (a : Int), .int .i64 (kk : Int), .int .u64 gi] 84 (0, 0))) (by kernel_rfl) HSl.out (fun hHeld => ?_)
  refine takeAt 0 37 (v := ?v0) rfl rfl (by kernel_rfl) (by kernel_rfl) (by kernel_rfl) (fun _ _ _ h => h) (Or.inl ⟨by rfl, ?hy0⟩) (by assumption) ?rest0
  case hy0 => (intro w hSw; (try dsimp only at hSw); refine exec_load_row 84 (.tmp 13) ?_ B4 ?_ 84 _ (0, 0) _ hSw Tryd.underlying84 ?_ hsz84 <;> rfl)
  simp only [List.setIfInBounds_toArray, List.set_cons_succ, List.set_cons_zero]
  refine takeAt 1 38 (v := ?v1) rfl rfl (by kernel_rfl) (by kernel_rfl) (by kernel_rfl) (fun _ _ _ h => h) (Or.inl ⟨by rfl, ?hy1⟩) (by assumption) ?rest1
  case hy1 => (intro w hSw; refine exec_build0 89 ?_ ZB HZB.out; rfl)
  simp only [List.setIfInBounds_toArray, List.set_cons_succ, List.set_cons_zero]
  refine takeAt 3 40 (v := ?v3) rfl rfl (by kernel_rfl) (by kernel_rfl) (by kernel_rfl) (fun _ _ _ h => h) (Or.inl ⟨by rfl, ?hy3⟩) (by assumption) ?rest3
  case hy3 => (intro w hSw; (try dsimp only at hSw); go_simp; first | done | with_reducible rfl)
  simp only [List.setIfInBounds_toArray, List.set_cons_succ, List.set_cons_zero]
  refine takeAt 4 41 (v := ?v4) rfl rfl (by kernel_rfl) (by kernel_rfl) (by kernel_rfl) (fun _ _ _ h => h) (Or.inl ⟨by rfl, ?hy4⟩) (by assumption) ?rest4
  case hy4 => (intro w hSw; (try dsimp only at hSw); go_simp; first | done | with_reducible rfl)
  simp only [List.setIfInBounds_toArray, List.set_cons_succ, List.set_cons_zero]
  refine takeAt 5 42 (v := ?v5) rfl rfl (by kernel_rfl) (by kernel_rfl) (by kernel_rfl) (fun _ _ _ h => h) (Or.inl ⟨by rfl, ?hy5⟩) (by assumption) ?rest5
  case hy5 => (intro w hSw; (try dsimp only at hSw); refine exec_load_row 84 (.tmp 13) ?_ B4 ?_ 84 _ (0, 0) _ hSw Tryd.underlying84 ?_ hsz84 <;> rfl)
  simp only [List.setIfInBounds_toArray, List.set_cons_succ, List.set_cons_zero]
  refine takeAt 6 43 (v := ?v6) rfl rfl (by kernel_rfl) (by kernel_rfl) (by kernel_rfl) (fun _ _ _ h => h) (Or.inl ⟨by rfl, ?hy6⟩) (by assumption) ?rest6
  case hy6 => (intro w hSw; (try dsimp only at hSw); go_simp; first | done | with_reducible rfl)
  simp only [List.setIfInBounds_toArray, List.set_cons_succ, List.set_cons_zero]
  refine takeAt 8 45 (v := ?v8) rfl rfl (by kernel_rfl) (by kernel_rfl) (by kernel_rfl) (fun _ _ _ h => h) (Or.inl ⟨by rfl, ?hy8⟩) (by assumption) ?rest8
  case hy8 => (intro w hSw; (try dsimp only at hSw); go_simp; first | done | with_reducible rfl)
  simp only [List.setIfInBounds_toArray, List.set_cons_succ, List.set_cons_zero]
  refine takeAt 9 46 (v := ?v9) rfl rfl (by kernel_rfl) (by kernel_rfl) (by kernel_rfl) (fun _ _ _ h => h) (Or.inl ⟨by rfl, ?hy9⟩) (by assumption) ?rest9
  case hy9 => (intro w hSw; (try dsimp only at hSw); go_simp; first | done | with_reducible rfl)
  simp only [List.setIfInBounds_toArray, List.set_cons_succ, List.set_cons_zero]
  refine takeAt 10 47 (v := ?v10) rfl rfl (by kernel_rfl) (by kernel_rfl) (by kernel_rfl) (fun _ _ _ h => h) (Or.inl ⟨by rfl, ?hy10⟩) (by assumption) ?rest10
  case hy10 => (intro w hSw; (try dsimp only at hSw); refine exec_load_row 84 (.tmp 13) ?_ B4 ?_ 84 _ (0, 0) _ hSw Tryd.underlying84 ?_ hsz84 <;> rfl)
  simp only [List.setIfInBounds_toArray, List.set_cons_succ, List.set_cons_zero]
  refine takeAt 11 48 (v := ?v11) rfl rfl (by kernel_rfl) (by kernel_rfl) (by kernel_rfl) (fun _ _ _ h => h) (Or.inl ⟨by rfl, ?hy11⟩) (by assumption) ?rest11
  case hy11 => (intro w hSw; (try dsimp only at hSw); go_simp; first | done | with_reducible rfl)
  simp only [List.setIfInBounds_toArray, List.set_cons_succ, List.set_cons_zero]
  refine takeAt 12 49 (v := ?v12) rfl rfl (by kernel_rfl) (by kernel_rfl) (by kernel_rfl) (fun _ _ _ h => h) (Or.inl ⟨by rfl, ?hy12⟩) (by assumption) ?rest12
  case hy12 => (intro w hSw; (try dsimp only at hSw); go_simp; first | done | with_reducible rfl)
  simp only [List.setIfInBounds_toArray, List.set_cons_succ, List.set_cons_zero]
  refine takeAt 15 52 (v := ?v15) rfl rfl (by kernel_rfl) (by kernel_rfl) (by kernel_rfl) (fun _ _ _ h => h) (Or.inl ⟨by rfl, ?hy15⟩) (by assumption) ?rest15
  case hy15 => (intro w hSw; (try dsimp only at hSw); go_simp; first | done | with_reducible rfl)
  simp only [List.setIfInBounds_toArray, List.set_cons_succ, List.set_cons_zero]
  refine takeAt 16 53 (v := ?v16) rfl rfl (by kernel_rfl) (by kernel_rfl) (by kernel_rfl) (fun _ _ _ h => h) (Or.inl ⟨by rfl, ?hy16⟩) (by assumption) ?rest16
  case hy16 => (intro w hSw; (try dsimp only at hSw); go_simp; first | done | with_reducible rfl)
  simp only [List.setIfInBounds_toArray, List.set_cons_succ, List.set_cons_zero]
  refine wpAnyH_ready (rs := [2]) (by kernel_rfl) (by simp) ?_
  refine AllReadyH.cons (o := { dst := some 39, op := Op.call { callee := Callee.value (Operand.func 37), args := #[Operand.tmp 37, Operand.const (Value.int IntKind.i64 0), Operand.tmp 38], argTypes := #[84, 3, 71] }, type := 87, pos := "ckpt.go:62", after := #[{ on := 0, ground := Ground.data }, { on := 1, ground := Ground.data }], guard := none }) rfl (fun K hK => ?_) AllReadyH.nil
  go_simp
  refine (HW1.out _).mono ?_
  rintro e z1 ⟨rfl, hwr1, hbz1, hsz1⟩
  have hHeld1 := (hbz1.block B4 hszb).trans hHeld
  have hbu1 : Below U.heap.size U z1 := ⟨hbz1.os, hbz1.tape, hbz1.output, hbz1.size, hbz1.block⟩
  have HZ1 : Hid (WrAt z1 U.heap.size q ((a : Int) + 0) zblock ∧ Below U.heap.size U z1 ∧ z1.heap.size = U.heap.size + 3) := ⟨hwr1, hbu1, hsz1⟩
  clear hbu1
  have hlt1 : B4 < z1.heap.size := Nat.lt_of_lt_of_le hszb hbz1.size
  clear hwr1 hbz1 hsz1
  go_wp2_with fail
  refine hK.out _ _ hHeld1 (fun _ => ?_)
  clear hK K
  (try go_frame)
  refine wpAnyH_ready (rs := [7]) (by kernel_rfl) (by simp) ?_
  refine AllReadyH.cons (o := { dst := some 44, op := Op.call { callee := Callee.value (Operand.func 39), args := #[Operand.tmp 42, Operand.tmp 43], argTypes := #[84, 9] }, type := 87, pos := "ckpt.go:64", after := #[{ on := 5, ground := Ground.data }, { on := 6, ground := Ground.data }, { on := 2, ground := Ground.chain }], guard := none }) rfl (fun K hK => ?_) AllReadyH.nil
  go_simp
  refine (HW2.out _).mono ?_
  rintro e z2 ⟨vS, Bs, rfl, hT⟩
  have hbz2 := hT.below
  have hHeld2 := (hbz2.block B4 hlt1).trans hHeld1
  have HT := hide hT
  have HB2 := hide hbz2
  have hlt2 : B4 < z2.heap.size := Nat.lt_of_lt_of_le hlt1 hbz2.size
  clear hT hbz2
  go_wp2_with fail
  refine hK.out _ _ hHeld2 (fun _ => ?_)
  clear hK K
  (try go_frame)
  refine wpAnyH_ready (rs := [13]) (by kernel_rfl) (by simp) ?_
  refine AllReadyH.cons (o := { dst := some 50, op := Op.call { callee := Callee.value (Operand.func 40), args := #[Operand.tmp 48, Operand.tmp 49], argTypes := #[34, 9] }, type := 89, pos := "ckpt.go:66", after := #[{ on := 11, ground := Ground.data }, { on := 12, ground := Ground.data }, { on := 7, ground := Ground.chain }], guard := none }) rfl (fun K hK => ?_) AllReadyH.nil
  go_simp
  refine (HW3.out _).mono ?_
  rintro e z3 ⟨rfl, hbz3⟩
  have hHeld3 := (hbz3.block B4 hlt2).trans hHeld2
  have HB3 := hide hbz3
  have hlt3 : B4 < z3.heap.size := Nat.lt_of_lt_of_le hlt2 hbz3.size
  clear hbz3
  go_wp2_with fail
  refine hK.out _ _ hHeld3 (fun _ => ?_)
  clear hK K
  (try go_frame)
  refine wpAnyH_ready (rs := [14]) (by kernel_rfl) (by simp) ?_
  refine AllReadyH.cons (o := { dst := some 51, op := Op.call { callee := Callee.value (Operand.func 37), args := #[Operand.tmp 47, Operand.const (Value.int IntKind.i64 0), Operand.tmp 50], argTypes := #[84, 3, 71] }, type := 87, pos := "ckpt.go:66", after := #[{ on := 10, ground := Ground.data }, { on := 13, ground := Ground.data }, { on := 13, ground := Ground.chain }], guard := none }) rfl (fun K hK => ?_) AllReadyH.nil
  go_simp
  refine (HW4.out _).mono ?_
  rintro e z4 ⟨rfl, hwr4, hbz4, hsz4⟩
  have hHeld4 := (hbz4.block B4 hlt3).trans hHeld3
  have HZ4 := hide (And.intro hwr4 (And.intro hbz4 hsz4))
  have hlt4 : B4 < z4.heap.size := Nat.lt_of_lt_of_le hlt3 hbz4.size
  clear hwr4 hbz4 hsz4
  go_wp2_with fail
  refine hK.out _ _ hHeld4 (fun _ => ?_)
  clear hK K
  (try go_frame)
  refine wpAnyH_ready (rs := [17]) (by kernel_rfl) (by simp) ?_
  refine AllReadyH.cons (o := { dst := some 54, op := Op.buildSlice 109 6 #[(0, Operand.tmp 39), (1, Operand.tmp 41), (2, Operand.tmp 44), (3, Operand.tmp 46), (4, Operand.tmp 51), (5, Operand.tmp 53)], type := 109, pos := "ckpt.go:61", after := #[{ on := 2, ground := Ground.data }, { on := 4, ground := Ground.data }, { on := 7, ground := Ground.data }, { on := 9, ground := Ground.data }, { on := 14, ground := Ground.data }, { on := 16, ground := Ground.data }], guard := none }) rfl (fun K hK => ?_) AllReadyH.nil
  have hHeld5 := (Below.heap_alloc z4 (.cells #[wrV U.heap.size, syV q, txV (z1.heap.size + 1), syV q, wrV z3.heap.size, syV q] 87) B4 hlt4).trans hHeld4
  unfold wrV
  go_simp
  change K _ (z4.alloc (.cells #[wrV U.heap.size, syV q, txV (z1.heap.size + 1), syV q, wrV z3.heap.size, syV q] 87))
  refine hK.out _ _ hHeld5 (fun _ => ?_)
  clear hK K
  (try go_frame)
  refine wpAnyH_ready (rs := [18]) (by kernel_rfl) (by simp) ?_
  refine AllReadyH.cons (o := { dst := some 55, op := Op.call { callee := Callee.value (Operand.func 36), args := #[Operand.tmp 54], argTypes := #[109] }, type := 27, pos := "ckpt.go:61", after := #[{ on := 17, ground := Ground.data }, { on := 14, ground := Ground.chain }], guard := none }) rfl (fun K hK => ?_) AllReadyH.nil
  go_simp
  refine (six_any q a gen (kk : Int) gi t st F w U z1 z2 z3 z4 vS Bs HD.out HOk.out HHl.out HAa.out HNb.out HBU.out HZ1.out HT.out HB3.out HZ4.out).mono ?_
  rintro e z6 ⟨rfl, ⟨F6, hd6, hl6⟩, hk6⟩
  have hHeld6 := (hk6 B4 HGe.out hlt4).trans hHeld4
  have HE := hide (And.intro hd6 hl6)
  clear hd6 hl6 hk6
  go_wp2_with fail
  refine hK.out _ _ hHeld6 (fun _ => ?_)
  clear hK K
  (try go_frame)
  refine takeAt 19 10 (v := ?v19) rfl rfl (by kernel_rfl) (by kernel_rfl) (by kernel_rfl) (fun _ _ _ h => h) (Or.inl ⟨by rfl, ?hy19⟩) (by assumption) ?rest19
  case hy19 => (intro w hSw; (try dsimp only at hSw); go_simp; first | done | with_reducible rfl)
  simp only [List.setIfInBounds_toArray, List.set_cons_succ, List.set_cons_zero]
  refine wpAnyH_done (by kernel_rfl) ?_ _
  clear hHeld hHeld1 hHeld2 hHeld3 hHeld4 hHeld5 hHeld6
  go_wp2
  go_ret
  exact ⟨rfl, F6, HE.out.1, HE.out.2⟩
end Go.Proofs.YtiebhdgpnloieaaDoor
