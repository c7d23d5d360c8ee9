/- What passZeros and Join do. -/
import Derived.Test.YtppebhnfiddbmaaDoorMore
import Derived.Test.YtppebhnfiddbmaaDoorPass
import Derived.Deep.CutRange
namespace Go.Proofs.YtppebhnfiddbmaaDoor
open Go Go.RowKit
theorem store_new38 (w : World) (f : Nat → Nat) : (storeCells ⟨w.heap.size, 0, none⟩ (rowN 32 f).toList 0).run Tryd.prog (w.alloc (.cells (rowN 32 fun _ => 0) 38)) = .ok () (w.alloc (.cells (rowN 32 f) 38)) :=
  run_storeCells_new w 38 _ _ (by rw [rowN_size]; exact info38) (by rw [rowN_size, rowN_size]) (rowN_one _ _)
theorem zv38 (w : World) : (zeroValue 38).run Tryd.prog w = .ok (.agg (rowN 32 fun _ => 0)) w := by
  rw [← lit38]; exact Tryd.zeroValue38 w
theorem idx38 (R : Array Value) (i : Nat) (hi : i < 32) (hs : R.size = 32) {v : Int} (h : R[i]? = some (.int .u32 v)) (w : World) :
    Sem.run Tryd.prog (Instr.index 38 (.agg R) (.int .i64 (i : Int))) w = .ok (.int .u32 v) w := by
  have hg : R[i]'(by omega) = .int .u32 v := by
    rw [Array.getElem?_eq_getElem (by omega)] at h; exact Option.some.inj h
  simp [Instr.index, Go.part, asIntOf, Sem.run_bind, Tryd.runUnderlying38, Tryd.sizeOf22, Tryd.isAgg22, hi, h]
theorem TabAt.set {w : World} (h : TabAt w) {b : Nat} (hb : 0 ≠ b) (i : Nat) (v : Value) : TabAt (w.setCell ⟨b, i, none⟩ v) := fun j hj =>
  (World.cell?_of_block (w := w) (Below.heap_setCell w ⟨b, i, none⟩ v 0 hb)).trans (h j hj)
theorem TabAt.setRow {w : World} (h : TabAt w) {b : Nat} (hb : 0 ≠ b) (cs : Array Value) : TabAt (w.setRow b cs) := fun j hj =>
  (World.cell?_of_block (w := w) (by unfold World.setRow; rw [Array.getElem?_modify, if_neg (fun k => hb k.symm)])).trans (h j hj)
theorem upto_set (f : Nat → Nat) (i e : Nat) : (if e = i then f i else if e < i then f e else 0) = if e < i + 1 then f e else 0 := by
  by_cases h : e = i
  · subst h; rw [if_pos rfl, if_pos (by omega)]
  · rw [if_neg h]
    by_cases h2 : e < i
    · rw [if_pos h2, if_pos (by omega)]
    · rw [if_neg h2, if_neg (by omega)]
attribute [local go_sem ↓] zv38
set_option maxRecDepth 10000 in
set_option maxHeartbeats 1000000 in
theorem passZeros_any (x n : Nat) (w : World) (hx : x < 4294967296) (hn : n ≤ 9223372036854775807) (hT : TabAt w) :
    Calls Tryd.prog 15 #[.int .u32 (x : Int), .int .i64 (n : Int)] w fun e w' => e = .returned (.int .u32 ((stps (8 * n) x : Nat) : Int)) ∧ Below w.heap.size w w' := by
  have HT := hide hT
  have HX := hide hx
  clear hT hx
  go_enter Tryd.func15, Tryd.ntmps15
  go_wp2_with fail
  refine (oneZero_any _).mono ?_
  rintro e w1 ⟨rfl, hb1⟩
  have hst := store_new38 w1 (fun i => stps 8 (2 ^ i))
  have hR := RowAt.new w1 32 38 (fun i => stps 8 (2 ^ i))
  have hbel := (hb1.alloc (w := w1) hb1.size (.cells (rowN 32 fun i => stps 8 (2 ^ i)) 38))
  have hsz := rowN_size 32 (fun i => stps 8 (2 ^ i))
  have hg := hb1.size
  have HR := hide hR
  have HB := hide hbel
  have HG := hide hg
  clear hR hbel hb1 hg
  generalize (rowN 32 fun i => stps 8 (2 ^ i)) = R at *
  go_wp2_with fail
  clear hst hsz
  generalize w1.alloc (.cells R 38) = W at *
  generalize hg1 : w1.heap.size = g at *
  have HT1 : Hid (TabAt W) := hide (HT.out.below HB.out)
  have HN : Hid (n ≤ 9223372036854775807) := hn
  clear hn
  clear hg1
  go_loopw [0, 1] (fun t m wr => ∃ j y q : Nat, y < 4294967296 ∧ q ≤ 9223372036854775807 ∧ t = .int .u32 (y : Int) ∧ m = .int .i64 (q : Int) ∧ stps (8 * q * 2 ^ j) y = stps (8 * n) x ∧ Below w.heap.size w wr ∧ RowAt wr g 32 38 fun i => stps (8 * 2 ^ j) (2 ^ i)) (fun _ m _ => (intOf m).toNat)
  case atStart => exact ⟨0, x, n, HX.out, HN.out, rfl, rfl, by rw [Nat.pow_zero, Nat.mul_one], HB.out, HR.out⟩
  case round =>
    obtain ⟨j, y, q, hy, hq, rfl, rfl, hrel, hbel, hrow⟩ := hrel
    have HE := hide hrel
    have HY := hide hy
    have HB := hide hbel
    have HRow := hide hrow
    have HT2 := hide (HT.out.below hbel)
    clear hrel hy hbel hrow
    by_cases h0 : q = 0
    · subst h0
      go_wp2_with fail
      go_ret
      have e := HE.out
      rw [show 8 * 0 * 2 ^ j = 0 from by simp] at e
      exact ⟨ret_u32 (by rw [← e]; rfl), HB.out⟩
    · have hpos : (0 : Int) < (q : Int) := by omega
      have HP := fun z hz => pass_any z (8 * 2 ^ j) g wr hz HT2.out HRow.out
      have HPass := hide HP
      clear HP
      go_upto_if 18 with fail
      go_cut [0] from 12 to 33 (fun t u => ∃ z : Nat, z < 4294967296 ∧ t = .int .u32 (z : Int) ∧ stps (8 * (q / 2) * 2 ^ (j + 1)) z = stps (8 * n) x ∧ u = wr)
      case first =>
        by_cases hodd : q % 2 = 1
        · have ho : (q : Int) % 2 = 1 := by omega
          have HO := hide hodd
          clear hodd
          go_wp2_with fail
          refine (HPass.out y HY.out).mono ?_
          rintro e w2 ⟨rfl, rfl⟩
          go_wp2_with fail
          go_meet
          case rel => exact ⟨stps (8 * 2 ^ j) y, stps_lt _ HY.out, rfl, (half_odd q j y HO.out).trans HE.out, rfl⟩
        · have ho : ¬ ((q : Int) % 2 = 1) := by omega
          have HO := hide hodd
          clear hodd
          go_wp2_with fail
          go_meet
          case rel => exact ⟨y, HY.out, rfl, (half_even q j y HO.out).trans HE.out, rfl⟩
      obtain ⟨z, hz, rfl, he, rfl⟩ := hcut
      clear HE HY
      have HZ := hide hz
      have HE := hide he
      clear hz he
      go_upto_region 8 with fail
      have hr1 : RowAt (wc.alloc (.cells (rowN 32 fun _ => 0) 38)) g 32 38 fun i => stps (8 * 2 ^ j) (2 ^ i) := HRow.out.alloc _
      have hr2 : RowAt (wc.alloc (.cells (rowN 32 fun _ => 0) 38)) wc.heap.size 32 38 fun _ => 0 := RowAt.new wc 32 38 _
      have hne : g < wc.heap.size := HRow.out.lt
      have hbel : Below w.heap.size w (wc.alloc (.cells (rowN 32 fun _ => 0) 38)) := HB.out.alloc HB.out.size _
      have htab : TabAt (wc.alloc (.cells (rowN 32 fun _ => 0) 38)) := HT2.out.below ((Below.refl _ _).alloc (Nat.le_refl _) _)
      clear HPass HRow HB HT2
      generalize wc.alloc (.cells (rowN 32 fun _ => 0) 38) = W2 at *
      have HSz : Hid (w.heap.size ≤ wc.heap.size) := Nat.le_trans HG.out (Nat.le_of_lt hne)
      generalize wc.heap.size = g2 at *
      have HNe := hide hne
      have hrd := fun i (hi : i < 32) => rowN_at (n := 32) (f := fun i => stps (8 * 2 ^ j) (2 ^ i)) hi
      have hsz := rowN_size 32 (fun i => stps (8 * 2 ^ j) (2 ^ i))
      apply wp_region_lit
      refine wpList_load_row rfl 38 _ rfl g rfl 38 (rowN 32 fun i => stps (8 * 2 ^ j) (2 ^ i)) (0, 0) _ hr1 Tryd.underlying38 rfl (by rw [rowN_size]; exact info38) ?_
      generalize (rowN 32 fun i => stps (8 * 2 ^ j) (2 ^ i)) = R2 at *
      have HRd := hide hrd
      have HW2 := hide (And.intro hr1 (And.intro hr2 (And.intro hbel htab)))
      clear hr1 hr2 hbel htab hne hrd
      go_wp2_with fail
      go_loopw [23] (fun v wr2 => ∃ i : Nat, i ≤ 32 ∧ v = .int .i64 (i : Int) ∧ Below w.heap.size w wr2 ∧ TabAt wr2 ∧ (RowAt wr2 g 32 38 fun i => stps (8 * 2 ^ j) (2 ^ i)) ∧ RowAt wr2 g2 32 38 fun e => if e < i then stps (8 * 2 ^ (j + 1)) (2 ^ e) else 0) (fun v _ => 32 - (intOf v).toNat)
      case atStart => exact ⟨0, Nat.zero_le _, rfl, HW2.out.2.2.1, HW2.out.2.2.2, HW2.out.1, HW2.out.2.1.congr fun i _ => by rw [if_neg (by omega)]⟩
      case round =>
        obtain ⟨i, hi, rfl, hbel, htab, hr1, hr2⟩ := hrel
        by_cases hlt : i < 32
        · have hat := fun u => idx38 R2 i hlt hsz (HRd.out i hlt) u
          have hc := hr2.cell hlt
          have hf := hr2.free i
          have HP := pass_any (stps (8 * 2 ^ j) (2 ^ i)) (8 * 2 ^ j) g wr (stps_lt _ (Nat.pow_lt_pow_right (a := 2) (by decide) hlt)) htab hr1
          rw [twice] at HP
          have HPass := hide HP
          have HAll := hide (And.intro hbel (And.intro htab (And.intro hr1 hr2)))
          clear HP hbel htab hr1 hr2
          go_wp2_with fail
          refine HPass.out.mono ?_
          rintro e w3 ⟨rfl, rfl⟩
          go_wp2
          go_roundw
          case rel => exact ⟨i + 1, hlt, by go_num, HAll.out.1.setCell HSz.out _, HAll.out.2.1.set (by have := HNe.out; omega) _ _, HAll.out.2.2.1.other (Nat.ne_of_lt HNe.out), (HAll.out.2.2.2.set i _).congr fun e _ => upto_set (fun e => stps (8 * 2 ^ (j + 1)) (2 ^ e)) i e⟩
          case measure => simp [intOf]; omega
        · have hie : i = 32 := by omega
          subst hie
          have hr3 : RowAt wr g2 32 38 fun e => stps (8 * 2 ^ (j + 1)) (2 ^ e) := hr2.congr fun e he => by rw [if_pos he]
          clear hr2
          have HAll := hide (And.intro hbel (And.intro htab (And.intro hr1 hr3)))
          clear hbel htab hr1 hr3
          go_upto_region 13 with fail
          apply wp_region_lit
          refine wpList_load_row rfl 38 _ rfl g2 rfl 38 (rowN 32 fun i => stps (8 * 2 ^ (j + 1)) (2 ^ i)) (0, 0) _ HAll.out.2.2.2 Tryd.underlying38 rfl (by rw [rowN_size]; exact info38) ?_
          refine wpList_store_row rfl 38 _ _ rfl g (rowN 32 fun i => stps (8 * 2 ^ (j + 1)) (2 ^ i)) rfl rfl 38 _ HAll.out.2.2.1 (by rw [rowN_size]; exact info38) (by rw [rowN_size, rowN_size]) (rowN_one _ _) ?_
          apply wpList_nil
          have hb2 := below_setRow HAll.out.1 HG.out (rowN 32 fun i => stps (8 * 2 ^ (j + 1)) (2 ^ i))
          have hr2 := HAll.out.2.2.1.setAll (fun i => stps (8 * 2 ^ (j + 1)) (2 ^ i))
          generalize (rowN 32 fun i => stps (8 * 2 ^ (j + 1)) (2 ^ i)) = R3 at *
          have HRes := hide (And.intro hb2 hr2)
          clear hb2 hr2
          go_wp2_with fail
          go_roundw
          case rel => exact ⟨j + 1, z, q / 2, HZ.out, by omega, rfl, by go_num, HE.out, HRes.out.1, HRes.out.2⟩
          case measure => simp [intOf]; omega

theorem join_lt {a b : Nat} (n : Nat) (ha : a < 4294967296) (hb : b < 4294967296) : join a b n < 4294967296 := by
  rw [← join_zeros]; exact Nat.xor_lt_two_pow (n := 32) (stps_lt _ ha) hb
set_option maxHeartbeats 400000 in
theorem join_any (a b n : Nat) (w : World) (ha : a < 4294967296) (hb : b < 4294967296) (hn : n ≤ 9223372036854775807) (hT : TabAt w) :
    Calls Tryd.prog 12 #[.int .u32 (a : Int), .int .u32 (b : Int), .int .i64 (n : Int)] w fun e w' => e = .returned (.int .u32 ((join a b n : Nat) : Int)) ∧ Below w.heap.size w w' := by
  have HP := hide (passZeros_any a n w ha hn hT)
  have e := u32_xor (stps (8 * n) a) b (stps_lt _ ha) hb
  rw [join_zeros] at e
  have HE := hide e
  have hneg : ¬ ((n : Int) < 0) := by omega
  clear e ha hb hn hT
  go_enter Tryd.func12, Tryd.ntmps12
  go_wp2_with fail
  refine HP.out.mono ?_
  rintro e w1 ⟨rfl, hb1⟩
  have HB := hide hb1
  clear hb1
  go_wp2
  go_ret
  exact ⟨ret_u32 HE.out, HB.out⟩
set_option maxHeartbeats 400000 in
theorem join_neg (a b n : Int) (w : World) (hn : n < 0) :
    Calls Tryd.prog 12 #[.int .u32 a, .int .u32 b, .int .i64 n] w fun e w' => e = .returned (.int .u32 0) ∧ Below w.heap.size w w' := by
  go_enter Tryd.func12, Tryd.ntmps12
  go_wp2
  go_ret
  exact ⟨rfl, Below.refl _ _⟩
end Go.Proofs.YtppebhnfiddbmaaDoor
