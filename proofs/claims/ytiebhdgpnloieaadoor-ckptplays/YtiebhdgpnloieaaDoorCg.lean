/- The program's checkpoints: numbers as bytes, heads. -/
import Derived.Test.YtiebhdgpnloieaaDoorReg
import Derived.Test.YtiebhdgpnloieaaDoorFrmMore
namespace Go.Proofs.YtiebhdgpnloieaaDoor
open Go Go.RowKit Frm
/-- Bytes written, the first i of a number's. -/
def lput (l : List UInt8) (off n : Nat) : Nat → List UInt8
  | 0 => l
  | i + 1 => (lput l off n i).set (off + i) (lowAt n i)
theorem lput_length (l : List UInt8) (off n : Nat) : ∀ i, (lput l off n i).length = l.length
  | 0 => rfl
  | i + 1 => by unfold lput; rw [List.length_set, lput_length l off n i]
theorem low_int (n k : Nat) : (n : Int) / 2 ^ (8 * k) % 256 = (((lowAt n k).toNat : Nat) : Int) := by
  rw [lowAt_toNat, show (256 : Nat) = 2 ^ 8 from rfl, ← Nat.pow_mul]
  simp
theorem bc_set (l : List UInt8) (j : Nat) (b : UInt8) : (Lib.byteCells l).toArray.setIfInBounds j (.int .u8 ((b.toNat : Nat) : Int)) = (Lib.byteCells (l.set j b)).toArray := by
  unfold Lib.byteCells
  rw [List.setIfInBounds_toArray, List.map_set]
set_option maxRecDepth 10000 in
set_option maxHeartbeats 1000000 in
theorem put_any (g off c len n : Nat) (l : List UInt8) (ty : TypeId) (w : World) (hg : w.heap[g]? = some (.cells (Lib.byteCells l).toArray ty (0, 0))) (hl : off + len ≤ l.length) (h8 : len ≤ 8) (h256 : l.length ≤ 256) :
    Calls Tryd.prog 61 #[.slice (some ⟨g, off, none⟩) len c, .int .u64 (n : Int)] w fun e w' => (∃ v, e = .returned v) ∧ w'.heap[g]? = some (.cells (Lib.byteCells (lput l off n len)).toArray ty (0, 0)) ∧ Loc (fun k => k = g) (fun k => k = g) w w' := by
  have HL := hide hl
  have H256 := hide h256
  have HG := hide hg
  have HGl : Hid (g < w.heap.size) := (Array.getElem?_eq_some_iff.1 hg).1
  clear hl h256 hg
  go_enter Tryd.func61, Tryd.ntmps61
  go_wp2_with fail
  go_loopw [4, 7] (fun _ i wr => ∃ k : Nat, k ≤ len ∧ i = .int .i64 (k : Int) ∧ wr.heap[g]? = some (.cells (Lib.byteCells (lput l off n k)).toArray ty (0, 0)) ∧ Loc (fun k => k = g) (fun k => k = g) w wr) (fun _ i _ => len - (intOf i).toNat)
  case atStart => exact ⟨0, Nat.zero_le _, rfl, HG.out, Loc.refl _ _⟩
  case round =>
    obtain ⟨k, hk, rfl, hh, hloc⟩ := hrel
    have HH := hide hh
    have HLo := hide hloc
    by_cases hlt : k < len
    · have hk8 : k ≤ 8 := by omega
      have hll := lput_length l off n k
      have hin : off + k < (lput l off n k).length := by have := HL.out; omega
      have hc : wr.cell? ⟨g, off + k, none⟩ = some (.int .u8 (((lput l off n k)[off + k].toNat : Nat) : Int)) := by
        simp [World.cell?, hh, Lib.byteCells, hin]
      have hf : wr.frozen? ⟨g, off + k, none⟩ = false := by simp [World.frozen?, hh]
      have hw1 : wrap64 (8 * (k : Int)) = 8 * (k : Int) := by unfold wrap64; omega
      have h80 : ¬ (8 * (k : Int) < 0) := by omega
      clear hh hloc hll
      go_wp2
      refine ⟨⟨k + 1, hlt, by go_num, ?_, ?_⟩, ?_⟩
      · rw [heap_set3 HH.out, low_int, bc_set]
        rfl
      · exact HLo.out.trans (Loc.setCell wr ⟨g, off + k, none⟩ _ rfl)
      · simp [intOf]; omega
    · have hke : k = len := by omega
      subst hke
      clear hh hloc
      go_wp2
      go_end0
      exact ⟨⟨_, rfl⟩, HH.out, HLo.out⟩
theorem size89 : (Tryd.prog.info? 89).map (·.size) = some 256 := by kernel_rfl
theorem z89_eq : Tryd.zeroCells89 = (Lib.byteCells (List.replicate 256 0)).toArray := by kernel_rfl
theorem lput_eq (l : List UInt8) (off n : Nat) : ∀ i, off + i ≤ l.length → lput l off n i = l.take off ++ lowL n i ++ l.drop (off + i)
  | 0, _ => by
    show l = _
    unfold lowL
    simp
  | i + 1, h => by
    show (lput l off n i).set (off + i) (lowAt n i) = _
    have hl : (l.take off ++ lowL n i).length = off + i := by rw [List.length_append, List.length_take, lowL_length]; omega
    rw [lput_eq l off n i (by omega), List.set_append_right _ _ (by omega), hl, Nat.sub_self, lowL_succ, List.drop_eq_getElem_cons (show off + i < l.length by omega), List.set_cons_zero]
    simp only [List.append_assoc, List.cons_append, List.nil_append]
    rfl
set_option maxRecDepth 10000 in
/-- What makes a head. -/
theorem head_made (g : Nat) (t : ByteArray) : (lput (lput (lput (List.replicate 256 0) 0 g 8) 8 t.size 4) 12 (sumT t) 4).set 255 165 = headL g t := by
  rw [lput_eq (List.replicate 256 0) 0 g 8 (by rw [List.length_replicate]; omega)]
  have e1 : (List.replicate 256 (0 : UInt8)).take 0 ++ lowL g 8 ++ (List.replicate 256 0).drop (0 + 8) = lowL g 8 ++ List.replicate 248 0 := by simp
  rw [e1, lput_eq _ 8 t.size 4 (by rw [List.length_append, lowL_length, List.length_replicate]; omega)]
  have e2 : (lowL g 8 ++ List.replicate 248 (0 : UInt8)).take 8 ++ lowL t.size 4 ++ (lowL g 8 ++ List.replicate 248 0).drop (8 + 4) = lowL g 8 ++ lowL t.size 4 ++ List.replicate 244 0 := by
    rw [List.take_append_of_le_length (by rw [lowL_length]; omega), List.take_of_length_le (by rw [lowL_length]; omega), List.drop_append, List.drop_of_length_le (by rw [lowL_length]; omega), lowL_length, List.nil_append, List.drop_replicate]
  rw [e2, lput_eq _ 12 (sumT t) 4 (by simp [lowL_length])]
  have e3 : (lowL g 8 ++ lowL t.size 4 ++ List.replicate 244 (0 : UInt8)).take 12 ++ lowL (sumT t) 4 ++ (lowL g 8 ++ lowL t.size 4 ++ List.replicate 244 0).drop (12 + 4) = lowL g 8 ++ lowL t.size 4 ++ lowL (sumT t) 4 ++ List.replicate 240 0 := by
    have hl : (lowL g 8 ++ lowL t.size 4).length = 12 := by rw [List.length_append, lowL_length, lowL_length]
    rw [List.take_append_of_le_length (by omega), List.take_of_length_le (by omega), List.drop_append, List.drop_of_length_le (by omega), hl, List.nil_append, List.drop_replicate]
  rw [e3]
  have hl : (lowL g 8 ++ lowL t.size 4 ++ lowL (sumT t) 4).length = 16 := by rw [List.length_append, List.length_append, lowL_length, lowL_length, lowL_length]
  unfold headL
  rw [List.set_append_right _ _ (by omega), hl, show (List.replicate 240 (0 : UInt8)) = List.replicate 239 0 ++ [0] from List.replicate_succ' .., List.set_append_right _ _ (by simp), List.length_replicate]
  simp only [List.append_assoc]
  rfl
set_option maxRecDepth 10000 in
set_option maxHeartbeats 1000000 in
theorem headOf_any (g : Nat) (t : ByteArray) (w : World) (ht : t.size ≤ 100000000) :
    Calls Tryd.prog 40 #[.int .u64 (g : Int), .string t] w fun e w' => e = .returned (.agg (tc (headT g t)).toArray) ∧ Below w.heap.size w w' := by
  have hz := Tryd.zeroValue89
  rw [z89_eq] at hz
  have hs0 : (w.alloc (.cells (Lib.byteCells (List.replicate 256 0)).toArray 89)).heap.size = w.heap.size + 1 := by simp
  have hg0 := heap_alloc_last w (.cells (Lib.byteCells (List.replicate 256 0)).toArray 89)
  have hg1 := heap_alloc_last (w.alloc (.cells (Lib.byteCells (List.replicate 256 0)).toArray 89)) (.cells (Lib.byteCells (List.replicate 256 0)).toArray 89)
  rw [hs0] at hg1
  have HR0 : Hid (((w.alloc (.cells (Lib.byteCells (List.replicate 256 0)).toArray 89)).alloc (.cells (Lib.byteCells (List.replicate 256 0)).toArray 89)).heap[w.heap.size]? = some (.cells (Lib.byteCells (List.replicate 256 0)).toArray 89 (0, 0))) := (Below.heap_alloc _ _ _ (by rw [hs0]; omega)).trans hg0
  have HB0 := hide (two_below w (.cells (Lib.byteCells (List.replicate 256 0)).toArray 89) (.cells (Lib.byteCells (List.replicate 256 0)).toArray 89))
  have HP1 := hide (put_any (w.heap.size + 1) 0 256 8 g (List.replicate 256 0) 89 _ hg1 (by rw [List.length_replicate]; omega) (by omega) (by rw [List.length_replicate]; omega))
  have HL0 : Hid ((List.replicate 256 (0 : UInt8)).length = 256) := List.length_replicate ..
  have HM := hide (head_made g t)
  have HO := hide (fun u => of_any t u (by unfold maxLen; omega))
  have HZs : Hid ((Lib.byteCells (List.replicate 256 (0 : UInt8))).length = 256) := by unfold Hid; rw [Lib.byteCells_length, List.length_replicate]
  generalize hZ0 : List.replicate 256 (0 : UInt8) = Z0 at *
  clear hg0 hg1 hs0
  go_enter Tryd.func40, Tryd.ntmps40
  go_wp2_with fail
  generalize (w.alloc (.cells (Lib.byteCells Z0).toArray 89)).alloc (.cells (Lib.byteCells Z0).toArray 89) = W0 at *
  refine HP1.out.mono ?_
  rintro e w1 ⟨⟨v1, rfl⟩, h1, l1⟩
  have HP2 := hide (put_any (w.heap.size + 1) 8 248 4 t.size _ 89 w1 h1 (by rw [lput_length, HL0.out]; omega) (by omega) (by rw [lput_length, HL0.out]; omega))
  have HL1 := hide l1
  clear HP1 h1 l1
  go_wp2_with fail
  refine HP2.out.mono ?_
  rintro e w2 ⟨⟨v2, rfl⟩, h2, l2⟩
  have HL2 := hide (HL1.out.trans l2)
  have HH2 := hide h2
  clear HP2 h2 l2 HL1
  have hsm : ((sumT t : Nat) : Int) % 18446744073709551616 = ((sumT t : Nat) : Int) := by have := sumT_lt t; omega
  have hsm2 : IntKind.u64.wrap ((sumT t : Nat) : Int) = ((sumT t : Nat) : Int) := by rw [IntKind.wrap_u64]; have := sumT_lt t; omega
  have hO2 : Calls Tryd.prog 62 #[.string t] w2.drew fun e w' => e = .returned (.int .u32 ((sumT t : Nat) : Int)) ∧ Below w2.heap.size w2.drew w' := HO.out w2.drew
  have HO2 := hide hO2
  clear hO2 HO
  generalize hsum : sumT t = sm at *
  have hlt3 : w.heap.size + 1 < w2.heap.size := (Array.getElem?_eq_some_iff.1 HH2.out).1
  have HP3 : Hid (∀ u, Below w2.heap.size w2.drew u → Calls Tryd.prog 61 #[.slice (some ⟨w.heap.size + 1, 12, none⟩) 4 244, .int .u64 (sm : Int)] u fun e w' => (∃ v, e = .returned v) ∧ w'.heap[w.heap.size + 1]? = some (.cells (Lib.byteCells (lput (lput (lput Z0 0 g 8) 8 t.size 4) 12 sm 4)).toArray 89 (0, 0)) ∧ Loc (fun k => k = w.heap.size + 1) (fun k => k = w.heap.size + 1) W0 w') := fun u hu => by
    refine (put_any (w.heap.size + 1) 12 244 4 sm _ 89 u ((hu.block _ hlt3).trans HH2.out) (by rw [lput_length, lput_length, HL0.out]; omega) (by omega) (by rw [lput_length, lput_length, HL0.out]; omega)).mono ?_
    rintro e v ⟨he, h1, l1⟩
    exact ⟨he, h1, (HL2.out.drew.trans (Loc.of_below _ hu)).trans l1⟩
  clear HH2 HL2 hlt3
  go_wp2_with fail
  go_region_law (first
    | (go_simp; go_at_call 62; refine (HO2.out).mono ?_; rintro e w3 ⟨rfl, hb3⟩)
    | (go_simp; go_at_call 61; refine (HP3.out w3 hb3).mono ?_; rintro e w4 ⟨⟨v4, rfl⟩, h4, l4⟩))
  have HL4 := hide l4
  clear HP3 l4 hb3 HO2
  have hlen : (lput (lput (lput Z0 0 g 8) 8 t.size 4) 12 sm 4).length = 256 := by rw [lput_length, lput_length, lput_length, HL0.out]
  generalize lput (lput (lput Z0 0 g 8) 8 t.size 4) 12 sm 4 = X at *
  have hc : w4.cell? ⟨w.heap.size + 1, 255, none⟩ = some (.int .u8 (((X[255]'(by omega)).toNat : Nat) : Int)) := by
    simp [World.cell?, h4, Lib.byteCells, hlen]
  have hf : w4.frozen? ⟨w.heap.size + 1, 255, none⟩ = false := by simp [World.frozen?, h4]
  have hh5 : (w4.setCell ⟨w.heap.size + 1, 255, none⟩ (.int .u8 165)).heap[w.heap.size + 1]? = some (.cells (tc (headT g t)).toArray 89 (0, 0)) := by
    have := bc_set X 255 165
    rw [HM.out] at this
    rw [heap_set3 h4]
    exact congrArg (fun c => some (Obj.cells c 89 (0, 0))) this
  have hr5 : (w4.setCell ⟨w.heap.size + 1, 255, none⟩ (.int .u8 165)).heap[w.heap.size]? = some (.cells (Lib.byteCells Z0).toArray 89 (0, 0)) :=
    (Below.heap_setCell w4 ⟨w.heap.size + 1, 255, none⟩ _ w.heap.size (by show w.heap.size ≠ w.heap.size + 1; omega)).trans ((HL4.out.block _ (Array.getElem?_eq_some_iff.1 HR0.out).1 (by show w.heap.size ≠ w.heap.size + 1; omega)).trans HR0.out)
  have HB5 : Hid (Below w.heap.size w (w4.setCell ⟨w.heap.size + 1, 255, none⟩ (.int .u8 165))) := HB0.out.trans ((HL4.out.trans (Loc.setCell w4 ⟨w.heap.size + 1, 255, none⟩ _ rfl)).below (fun k hk => by subst hk; omega) (HB0.out.size))
  have HH5 := hide hh5
  have HR5 := hide hr5
  clear h4 hh5 hr5 hz
  have HZ1 : Hid ((Lib.byteCells Z0).toArray.size = 256) := by unfold Hid; rw [List.size_toArray, HZs.out]
  have HT1 : Hid ((tc (headT g t)).toArray.size = 256) := by unfold Hid; rw [List.size_toArray, tc_length, headT_size]
  have HOne := hide (tone (headT g t))
  generalize hDD : (tc (headT g t)).toArray = D at *
  have HDD := hide hDD
  clear hDD
  generalize (Lib.byteCells Z0).toArray = Z at *
  go_upto_region 6 with fail
  have hset : (w4.setCell ⟨w.heap.size + 1, 255, none⟩ (.int .u8 165)).heap.size = w4.heap.size := by simp [World.setCell]
  generalize w4.setCell ⟨w.heap.size + 1, 255, none⟩ (.int .u8 165) = W5 at *
  have HE : Hid (Below w.heap.size w (W5.setRow w.heap.size D)) := Frm.below_setRow HB5.out (Nat.le_refl _) D
  have HEh : Hid ((W5.setRow w.heap.size D).heap[w.heap.size]? = some (.cells D 89 (0, 0))) := setRow_heap W5 w.heap.size Z D 89 (0, 0) HR5.out
  apply wp_region_lit
  refine wpList_load_row rfl 89 (.tmp 5) rfl (w.heap.size + 1) rfl 89 D (0, 0) _ HH5.out Tryd.underlying89 rfl (by rw [HT1.out]; exact size89) ?_
  refine wpList_store_row rfl 89 (.tmp 4) (.tmp 20) rfl w.heap.size D rfl rfl 89 Z HR5.out (by rw [HT1.out]; exact size89) (by rw [HT1.out, HZ1.out]) HOne.out ?_
  apply wpList_nil
  generalize W5.setRow w.heap.size D = W6 at *
  go_wp2_with fail
  (try simp only [Exit.inBlock, Exit.then])
  exact bodyPost_ret (results_cell_row Tryd.results40 _ _ w.heap.size 89 D (0, 0) _ rfl HEh.out Tryd.underlying89 rfl (by rw [HT1.out]; exact size89)) rfl ⟨congrArg (fun c => Ending.returned (.agg c)) HDD.out.symm, HE.out⟩
theorem num_step (l : List UInt8) (off k : Nat) (h : off + k < l.length) : numL ((l.drop off).take (k + 1)) = numL ((l.drop off).take k) + l[off + k].toNat * 256 ^ k := by
  have hd : k < (l.drop off).length := by rw [List.length_drop]; omega
  have e : (l.drop off)[k] = l[off + k] := List.getElem_drop ..
  have hm : (List.take k (l.drop off)).length = k := by rw [List.length_take]; omega
  rw [List.take_succ_eq_append_getElem hd, numL_snoc, hm, e]
theorem or_step (x k : Nat) (b : UInt8) (hx : x < 256 ^ k) (hk : k < 8) : bits .or .u64 (x : Int) (IntKind.u64.wrap (IntKind.u64.wrap ((b.toNat : Nat) : Int) * 2 ^ (8 * k))) = ((x + b.toNat * 256 ^ k : Nat) : Int) := by
  have hb := b.toNat_lt
  have hp : 256 ^ k ≤ 256 ^ 7 := Nat.pow_le_pow_right (by decide) (by omega)
  have hm : b.toNat * 256 ^ k ≤ 255 * 256 ^ 7 := Nat.mul_le_mul (by omega) hp
  have hm2 : b.toNat * 256 ^ k < 18446744073709551616 := Nat.lt_of_le_of_lt hm (by decide)
  have hx2 : x < 18446744073709551616 := Nat.lt_of_lt_of_le hx (Nat.le_trans hp (by decide))
  have e1 : (2 : Int) ^ (8 * k) = ((256 ^ k : Nat) : Int) := by
    rw [show (256 : Nat) = 2 ^ 8 from rfl, ← Nat.pow_mul]
    simp
  have e2 : IntKind.u64.wrap ((b.toNat : Nat) : Int) = ((b.toNat : Nat) : Int) := by rw [IntKind.wrap_u64]; omega
  have e3 : IntKind.u64.wrap (((b.toNat * 256 ^ k : Nat) : Nat) : Int) = ((b.toNat * 256 ^ k : Nat) : Int) := by rw [IntKind.wrap_u64]; omega
  rw [e2, e1, ← Int.natCast_mul, e3, u64_or_nat _ _ hx2 hm2]
  have h3 := nat_join (8 * k) (b.toNat * 256 ^ k) x (by rw [show (256 : Nat) = 2 ^ 8 from rfl, ← Nat.pow_mul]; exact Nat.mul_mod_left _ _) (by rw [Nat.pow_mul]; exact hx)
  rw [Nat.or_comm, h3, Nat.add_comm]
set_option maxRecDepth 10000 in
set_option maxHeartbeats 1000000 in
theorem number_any (g off c len : Nat) (l : List UInt8) (ty : TypeId) (w : World) (hg : w.heap[g]? = some (.cells (Lib.byteCells l).toArray ty (0, 0))) (hl : off + len ≤ l.length) (h8 : len ≤ 8) :
    Calls Tryd.prog 64 #[.slice (some ⟨g, off, none⟩) len c] w fun e w' => e = .returned (.int .u64 ((numL ((l.drop off).take len) : Nat) : Int)) ∧ w' = w := by
  have HL := hide hl
  have HG := hide hg
  clear hl hg
  go_enter Tryd.func64, Tryd.ntmps64
  go_wp2_with fail
  go_loopw [3, 4, 7] (fun n _ i wr => ∃ k : Nat, k ≤ len ∧ i = .int .i64 (k : Int) ∧ n = .int .u64 ((numL ((l.drop off).take k) : Nat) : Int) ∧ wr = w) (fun _ _ i _ => len - (intOf i).toNat)
  case atStart => exact ⟨0, Nat.zero_le _, rfl, rfl, rfl⟩
  case round =>
    obtain ⟨k, hk, rfl, rfl, hw⟩ := hrel
    obtain rfl := hw
    by_cases hlt : k < len
    · have hk8 : k < 8 := by omega
      have hin : off + k < l.length := by have := HL.out; omega
      have hh := HG.out
      have hc : wr.cell? ⟨g, off + k, none⟩ = some (.int .u8 ((l[off + k].toNat : Nat) : Int)) := by
        simp [World.cell?, hh, Lib.byteCells, hin]
      have hw1 : wrap64 (8 * (k : Int)) = 8 * (k : Int) := by unfold wrap64; omega
      have h80 : ¬ (8 * (k : Int) < 0) := by omega
      clear hh
      have HX := hide (num_step l off k hin)
      have hx2 := numL_lt ((l.drop off).take k)
      have hlk : ((l.drop off).take k).length = k := by rw [List.length_take, List.length_drop]; omega
      rw [hlk] at hx2
      have HO := hide (fun x (hx : x < 256 ^ k) => or_step x k l[off + k] hx hk8)
      have HX2 := hide hx2
      clear hx2 hlk
      generalize numL ((l.drop off).take k) = x at *
      go_wp2
      refine ⟨⟨k + 1, hlt, by go_num, ?_, trivial⟩, ?_⟩
      · rw [HO.out x HX2.out, HX.out]
      · simp [intOf]; omega
    · have hke : k = len := by omega
      subst hke
      have hz : ¬ ((k : Int) < (k : Int)) := by omega
      go_wp2
      go_ret
      exact ⟨rfl, rfl⟩
end Go.Proofs.YtiebhdgpnloieaaDoor
