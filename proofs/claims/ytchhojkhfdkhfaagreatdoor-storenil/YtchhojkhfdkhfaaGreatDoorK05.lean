/- What the smallest function of package sum does. Arrays of numbers as rows of cells. What bytesAlone does: the table. What More and Of do. The program's checkpoints: numbers as bytes, heads. Lists of numbers. The document's own log: may. The document's own disk by its footprint: contracts in the form of the program's. -/
import Derived.Test.YtchhojkhfdkhfaaGreatDoorK04
import Derived.Deep.WholeRow
import Derived.Deep.Cut
import Derived.Test.YtchhojkhfdkhfaaGreatDoorK00
import Derived.Test.YtchhojkhfdkhfaaGreatDoorK03
import Derived.Laws.AppendOwnNone
namespace Go.Proofs.YtchhojkhfdkhfaaGreatDoor.Frm
open Go Go.RowKit

theorem u32_xor (a b : Nat) (ha : a < 4294967296) (hb : b < 4294967296) : bits .xor .u32 (a : Int) (b : Int) = ((a ^^^ b : Nat) : Int) := u32_xor_nat a b ha hb

set_option maxHeartbeats 400000 in
theorem shift_any (c : Nat) (w : World) (hc : c < 4294967296) :
    Calls Tryz.prog 167 #[.int .u32 (c : Int)] w fun e w' => e = .returned (.int .u32 ((stp c : Nat) : Int)) ∧ w' = w := by
  have ha := and_one c hc
  have HC : Hid (c < 4294967296) := hc
  clear hc
  by_cases hodd : c % 2 = 1
  · have hb : bits .and .u32 (c : Int) 1 = 1 := by rw [ha, hodd]; rfl
    have HO : Hid (c % 2 = 1) := hodd
    clear ha hodd
    go_enter Tryz.func167, Tryz.ntmps167
    go_wp2
    go_ret
    exact ⟨ret_u32 (by rw [stp_odd HO.out]; exact xor_poly c HC.out), rfl⟩
  · have hev : c % 2 = 0 := by omega
    have hb : bits .and .u32 (c : Int) 1 = 0 := by rw [ha, hev]; rfl
    have HO : Hid (c % 2 = 0) := hev
    clear ha hodd hev
    go_enter Tryz.func167, Tryz.ntmps167
    go_wp2
    go_ret
    exact ⟨ret_u32 (by rw [stp_even HO.out]; omega), rfl⟩

end Go.Proofs.YtchhojkhfdkhfaaGreatDoor.Frm
namespace Go.Proofs.YtchhojkhfdkhfaaGreatDoor.Frm
open Go Go.RowKit

/-- The first n numbers of f, as cells. -/
def rowN (n : Nat) (f : Nat → Nat) : Array Value := Array.ofFn (n := n) fun i => .int .u32 ((f i.val : Nat) : Int)
theorem rowN_size (n : Nat) (f : Nat → Nat) : (rowN n f).size = n := by unfold rowN; simp
theorem rowN_at {n : Nat} {f : Nat → Nat} {i : Nat} (h : i < n) : (rowN n f)[i]? = some (.int .u32 ((f i : Nat) : Int)) := by unfold rowN; simp [h]
theorem rowN_congr {n : Nat} {f g : Nat → Nat} (h : ∀ i, i < n → f i = g i) : rowN n f = rowN n g := by
  unfold rowN
  congr 1
  funext i
  rw [h i.val i.isLt]
theorem rowN_set {n : Nat} (f : Nat → Nat) (i v : Nat) : (rowN n f).setIfInBounds i (.int .u32 ((v : Nat) : Int)) = rowN n fun e => if e = i then v else f e := by
  apply Array.ext_getElem?
  intro e
  by_cases he : e < n
  · rw [rowN_at he, Array.getElem?_setIfInBounds, rowN_at he, rowN_size]
    by_cases h : i = e
    · subst h; rw [if_pos rfl, if_pos he, if_pos rfl]
    · rw [if_neg h, if_neg (fun k => h k.symm)]
  · rw [Array.getElem?_eq_none (by rw [Array.size_setIfInBounds, rowN_size]; omega), Array.getElem?_eq_none (by rw [rowN_size]; omega)]
theorem rowN_one (n : Nat) (f : Nat → Nat) : (rowN n f).all (·.oneCell') = true := by
  rw [Array.all_eq_true_iff_forall_mem]
  intro v hv
  unfold rowN at hv
  obtain ⟨i, rfl⟩ := Array.mem_ofFn.1 hv
  rfl
theorem info58 : (Tryz.prog.info? 224).map (·.size) = some 256 := by kernel_rfl
theorem zero58 : (Tryz.prog.info? 224).map (fun i => (i.zero, i.size)) = some (some (.agg (Array.replicate 256 (.int .u32 0))), 256) := by kernel_rfl
theorem rep_row (n : Nat) : Array.replicate n (.int .u32 0) = rowN n fun _ => 0 := by
  apply Array.ext_getElem?
  intro i
  by_cases h : i < n
  · rw [rowN_at h, Array.getElem?_replicate, if_pos h]; rfl
  · rw [Array.getElem?_eq_none (by simp; omega), Array.getElem?_eq_none (by rw [rowN_size]; omega)]
theorem zv58 (w : World) : (zeroValue 224).run Tryz.prog w = .ok (.agg (rowN 256 fun _ => 0)) w := by
  rw [← rep_row]; exact (zero_of_info zero58).1 w
/-- Block b is a row of n numbers. -/
def RowAt (w : World) (b n : Nat) (t : TypeId) (f : Nat → Nat) : Prop := w.heap[b]? = some (.cells (rowN n f) t (0, 0))
theorem RowAt.cell {w : World} {b n : Nat} {t : TypeId} {f : Nat → Nat} (h : RowAt w b n t f) {i : Nat} (hi : i < n) : w.cell? ⟨b, i, none⟩ = some (.int .u32 ((f i : Nat) : Int)) := by
  rw [cell_of_row w b i _ t (0, 0) h]; exact rowN_at hi
theorem RowAt.free {w : World} {b n : Nat} {t : TypeId} {f : Nat → Nat} (h : RowAt w b n t f) (i : Nat) : w.frozen? ⟨b, i, none⟩ = false := by
  unfold RowAt at h; simp [World.frozen?, h]
theorem RowAt.lt {w : World} {b n : Nat} {t : TypeId} {f : Nat → Nat} (h : RowAt w b n t f) : b < w.heap.size := (Array.getElem?_eq_some_iff.1 h).1
theorem RowAt.congr {w : World} {b n : Nat} {t : TypeId} {f g : Nat → Nat} (h : RowAt w b n t f) (hf : ∀ i, i < n → f i = g i) : RowAt w b n t g := by
  unfold RowAt; rw [← rowN_congr hf]; exact h
theorem RowAt.set {w : World} {b n : Nat} {t : TypeId} {f : Nat → Nat} (h : RowAt w b n t f) (i v : Nat) : RowAt (w.setCell ⟨b, i, none⟩ (.int .u32 ((v : Nat) : Int))) b n t fun e => if e = i then v else f e := by
  unfold RowAt
  rw [setCell_eq_setRow w b i _ t (0, 0) _ h, rowN_set]
  exact setRow_heap w b _ _ t _ h
theorem RowAt.other {w : World} {b c n i : Nat} {t : TypeId} {f : Nat → Nat} {v : Value} (h : RowAt w b n t f) (hn : b ≠ c) : RowAt (w.setCell ⟨c, i, none⟩ v) b n t f := by
  unfold RowAt; rw [Below.heap_setCell w ⟨c, i, none⟩ v b hn]; exact h
theorem RowAt.setAll {w : World} {b n : Nat} {t : TypeId} {f : Nat → Nat} (h : RowAt w b n t f) (g : Nat → Nat) : RowAt (w.setRow b (rowN n g)) b n t g := setRow_heap w b _ _ t _ h
theorem RowAt.below {w w' : World} {b n : Nat} {t : TypeId} {f : Nat → Nat} (h : RowAt w b n t f) (hb : Below w.heap.size w w') : RowAt w' b n t f := (hb.block b h.lt).trans h
theorem RowAt.new (w : World) (n : Nat) (t : TypeId) (f : Nat → Nat) : RowAt (w.alloc (.cells (rowN n f) t)) w.heap.size n t f := heap_alloc_last w _
theorem RowAt.alloc {w : World} {b n : Nat} {t : TypeId} {f : Nat → Nat} (h : RowAt w b n t f) (o : Obj) : RowAt (w.alloc o) b n t f := (Below.heap_alloc w o b h.lt).trans h
theorem RowAt.drew {w : World} {b n : Nat} {t : TypeId} {f : Nat → Nat} (h : RowAt w b n t f) : RowAt w.drew b n t f := h
theorem below_setRow {B : Nat} {a w : World} (h : Below B a w) {c : Nat} (hc : B ≤ c) (cs : Array Value) : Below B a (w.setRow c cs) :=
  ⟨h.os, h.tape, h.output, by unfold World.setRow; simpa using h.size, fun k hk => by
    unfold World.setRow; rw [Array.getElem?_modify, if_neg (by omega)]; exact h.block k hk⟩
/-- What a whole array is, loaded. -/
theorem RowAt.load {w : World} {b n : Nat} {t e : TypeId} {f : Nat → Nat} (h : RowAt w b n t f) (hu : Tryz.prog.underlying t = some (.array n e)) (hi : (Tryz.prog.info? t).map (·.size) = some n) :
    (loadVar t ⟨b, 0, none⟩).run Tryz.prog w = .ok (.agg (rowN n f)) w :=
  run_loadVar_row w b t t _ (0, 0) _ h hu rfl (by rw [rowN_size]; exact hi)
theorem RowAt.store {w : World} {b n : Nat} {t : TypeId} {f : Nat → Nat} (h : RowAt w b n t f) (g : Nat → Nat) (hi : (Tryz.prog.info? t).map (·.size) = some n) :
    (storeVar t ⟨b, 0, none⟩ (.agg (rowN n g))).run Tryz.prog w = .ok () (w.setRow b (rowN n g)) :=
  run_storeVar_row w b t t _ _ h (by rw [rowN_size]; exact hi) (by rw [rowN_size, rowN_size]) (rowN_one n g)
end Go.Proofs.YtchhojkhfdkhfaaGreatDoor.Frm
namespace Go.Proofs.YtchhojkhfdkhfaaGreatDoor.Frm
open Go Go.RowKit
theorem hide {p : Prop} (h : p) : Hid p := h
/-- What is kept from round to round. -/
def Two (w : World) (n : Nat) (t : TypeId) (f : Nat → Nat) (u : World) : Prop := Below w.heap.size w u ∧ RowAt u w.heap.size n t (fun _ => 0) ∧ RowAt u (w.heap.size + 1) n t f
theorem Two.start (w : World) (n : Nat) (t : TypeId) : Two w n t (fun _ => 0) ((w.alloc (.cells (rowN n fun _ => 0) t)).alloc (.cells (rowN n fun _ => 0) t)) := by
  refine ⟨((Below.refl _ _).alloc (Nat.le_refl _) _).alloc (by simp) _, (RowAt.new w n t _).alloc _, ?_⟩
  have h := RowAt.new (w.alloc (.cells (rowN n fun _ => 0) t)) n t (fun _ => 0)
  rw [show (w.alloc (.cells (rowN n fun _ => 0) t)).heap.size = w.heap.size + 1 from by simp] at h
  exact h
theorem Two.set {w u : World} {n : Nat} {t : TypeId} {f : Nat → Nat} (h : Two w n t f u) (i v : Nat) : Two w n t (fun e => if e = i then v else f e) (u.setCell ⟨w.heap.size + 1, i, none⟩ (.int .u32 ((v : Nat) : Int))) :=
  ⟨h.1.setCell (by show w.heap.size ≤ w.heap.size + 1; omega) _, h.2.1.other (by omega), h.2.2.set i v⟩
theorem Two.congr {w u : World} {n : Nat} {t : TypeId} {f g : Nat → Nat} (h : Two w n t f u) (hf : ∀ i, i < n → f i = g i) : Two w n t g u := ⟨h.1, h.2.1, h.2.2.congr hf⟩
/-- The bit of round j: 128 at first, at last 0. -/
def bitOf (j : Nat) : Nat := 2 ^ (8 - j) / 2
theorem bitOf_lt {j : Nat} (hj : j < 8) : bitOf j = 2 ^ (7 - j) ∧ 2 * bitOf j = 2 ^ (8 - j) ∧ 0 < bitOf j := by
  have h : 2 ^ (8 - j) = 2 * 2 ^ (7 - j) := by rw [show 8 - j = (7 - j) + 1 from by omega, Nat.pow_succ, Nat.mul_comm]
  have hp := Nat.two_pow_pos (7 - j)
  unfold bitOf; omega
theorem bitOf_next {j : Nat} (hj : j < 8) : bitOf j / 2 = bitOf (j + 1) := by
  have h := (bitOf_lt hj).1
  rw [h]; unfold bitOf; rw [show 8 - (j + 1) = 7 - j from by omega]
theorem bitOf_le {j : Nat} (hj : j ≤ 8) : bitOf j ≤ 128 := by
  unfold bitOf
  have : 2 ^ (8 - j) ≤ 2 ^ 8 := Nat.pow_le_pow_right (by decide) (by omega)
  omega

set_option maxRecDepth 10000 in
set_option maxHeartbeats 1000000 in
theorem bytesAlone_any (w : World) :
    Calls Tryz.prog 161 #[] w fun e w' => e = .returned (.agg (rowN 256 fun i => stps 8 i)) ∧ Below w.heap.size w w' := by
  have hz := zv58
  go_enter Tryz.func161, Tryz.ntmps161
  go_wp2_with fail
  clear hz
  go_loopw [2, 3, 4] (fun m i _ wr => ∃ j : Nat, j ≤ 8 ∧ m = .int .u32 ((stps j 1 : Nat) : Int) ∧ i = .int .i64 ((bitOf j : Nat) : Int) ∧ Two w 256 224 (lay j 0) wr) (fun _ i _ _ => (intOf i).toNat)
  case atStart => exact ⟨0, Nat.zero_le _, rfl, rfl, (Two.start w 256 224).congr fun i hi => (lay_start i hi).symm⟩
  case round =>
    obtain ⟨j, hj, rfl, rfl, hR⟩ := hrel
    by_cases hlt : j < 8
    · obtain ⟨hb1, hb2, hb0⟩ := bitOf_lt hlt
      have hb3 := bitOf_le hj
      have HN := hide (bitOf_next hlt)
      have hbz : (0 : Int) < ((bitOf j : Nat) : Int) := by omega
      have HS := fun u => shift_any (stps j 1) u (stps_lt j (by decide))
      rw [← stps_succ] at HS
      have HSh : Hid (∀ u, Calls Tryz.prog 167 #[.int .u32 ((stps j 1 : Nat) : Int)] u fun e w' => e = .returned (.int .u32 ((stps (j + 1) 1 : Nat) : Int)) ∧ w' = u) := HS
      have HM := hide (stps_lt (j + 1) (c := 1) (by decide))
      have HR := hide hR
      have HB := hide (And.intro hb1 hb2)
      clear hR HS hb1 hb2
      generalize hbit : bitOf j = B at *
      have HBit := hide hbit
      clear hbit
      go_wp2_with fail
      refine (HSh.out _).mono ?_
      rintro e w1 ⟨rfl, rfl⟩
      go_wp2_with fail
      generalize hg6 : decide ((0 : Int) < (B : Int)) = g6
      clear hg6
      go_loopw [4] (fun i wr2 => ∃ k : Nat, k ≤ 2 ^ j ∧ i = .int .i64 ((k * (2 * B) : Nat) : Int) ∧ Two w 256 224 (lay j k) wr2) (fun i _ => 256 - (intOf i).toNat)
      case atStart => exact ⟨0, Nat.zero_le _, by rw [Nat.zero_mul]; rfl, HR.out⟩
      case round =>
        obtain ⟨k, hk, rfl, hR2⟩ := hrel
        by_cases hk8 : k < 2 ^ j
        · have hin := lay_in j k hlt hk8
          have hmore := (lay_more j k hlt).2 hk8
          have hnew := lay_new j k hlt
          have hsucc := fun i => lay_succ j k i hlt
          rw [← HB.out.2] at hin hmore hnew
          rw [← HB.out.1] at hin hnew
          simp only [← HB.out.1, ← HB.out.2] at hsucc
          have hc := hR2.2.2.cell hmore
          have hf := hR2.2.2.free (k * (2 * B) + B)
          have hxor := u32_xor (lay j k (k * (2 * B))) (stps (j + 1) 1) (lay_lt j k _ hmore) HM.out
          rw [hnew] at hxor
          have hc2 := hR2.2.2.cell hin
          have hT := (hR2.set (k * (2 * B) + B) (stps 8 (k * (2 * B) + B))).congr fun i _ => (hsucc i).symm
          have HT := hide hT
          have e1 : k * (2 * B) + 2 * B = (k + 1) * (2 * B) := by rw [Nat.add_mul, Nat.one_mul]
          clear hR2 hnew hsucc hT
          generalize hbe : k * (2 * B) = below at *
          have HBe := hide hbe
          have HE1 := hide e1
          have HK := hide hk8
          clear hbe e1 hk hk8
          go_wp2
          have e1 := HE1.out
          exact ⟨⟨k + 1, HK.out, by refine congrArg _ ?_; omega, HT.out⟩, by simp [intOf]; omega⟩
        · have hke : k = 2 ^ j := by omega
          have hstop : ¬ (k * (2 * B) < 256) := fun h => hk8 ((lay_more j k hlt).1 (by rw [← HB.out.2]; exact h))
          have HR2 : Hid (Two w 256 224 (lay (j + 1) 0) wr) := hide (hR2.congr fun i hi => by rw [hke]; exact lay_next j i hlt hi)
          clear hR2 hke hk hk8
          generalize k * (2 * B) = below at *
          go_wp2
          go_roundw
          case rel => exact ⟨j + 1, hlt, rfl, by refine congrArg _ ?_; have := HN.out; omega, HR2.out⟩
          case measure => simp [intOf]; omega
    · have hje : j = 8 := by omega
      subst hje
      have hR2 : Two w 256 224 (fun i => stps 8 i) wr := hR.congr fun i hi => lay_end i
      clear hR
      have HR2 := hide hR2
      clear hR2
      have hb : bitOf 8 = 0 := rfl
      rw [hb]
      clear hb
      go_upto_region 11 with fail
      apply wp_region_lit
      refine wpList_load_row rfl 224 _ rfl (w.heap.size + 1) rfl 224 (rowN 256 fun i => stps 8 i) (0, 0) _ HR2.out.2.2 Tryz.underlying224 rfl (by rw [rowN_size]; exact info58) ?_
      refine wpList_store_row rfl 224 _ _ rfl w.heap.size (rowN 256 fun i => stps 8 i) rfl rfl 224 _ HR2.out.2.1 (by rw [rowN_size]; exact info58) (by rw [rowN_size, rowN_size]) (rowN_one _ _) ?_
      apply wpList_nil
      have hres := HR2.out.2.1.setAll (fun i => stps 8 i)
      have hbel := below_setRow HR2.out.1 (Nat.le_refl _) (rowN 256 fun i => stps 8 i)
      have hsz : (Tryz.prog.info? 224).map (·.size) = some (rowN 256 fun i => stps 8 i).size := by rw [rowN_size]; exact info58
      unfold RowAt at hres
      generalize hrow : (rowN 256 fun i => stps 8 i) = R at *
      have HRow := hide hrow
      clear hrow
      have HRes := hide (And.intro hres (And.intro hbel hsz))
      clear hres hbel hsz
      go_wp2_with fail
      (try simp only [Exit.inBlock, Exit.then])
      exact bodyPost_ret (results_cell_row Tryz.results161 _ _ w.heap.size 224 R (0, 0) _ rfl HRes.out.1 Tryz.underlying224 rfl HRes.out.2.2) rfl ⟨by rw [HRow.out], HRes.out.2.1⟩
end Go.Proofs.YtchhojkhfdkhfaaGreatDoor.Frm
namespace Go.Proofs.YtchhojkhfdkhfaaGreatDoor.Frm
open Go Go.RowKit
theorem store_new58 (w : World) (f : Nat → Nat) : (storeCells ⟨w.heap.size, 0, none⟩ (rowN 256 f).toList 0).run Tryz.prog (w.alloc (.cells (rowN 256 fun _ => 0) 224)) = .ok () (w.alloc (.cells (rowN 256 f) 224)) :=
  run_storeCells_new w 224 _ _ (by rw [rowN_size]; exact info58) (by rw [rowN_size, rowN_size]) (rowN_one _ _)
set_option maxRecDepth 10000 in
set_option maxHeartbeats 1000000 in
theorem more_core (c : Nat) (s : ByteArray) (F : Nat → Nat) (w : World) (hc : c < 4294967296) (hs : s.size ≤ maxLen)
    (h0 : F 0 = cpl c) (hF : ∀ k, F k < 4294967296) (hn : ∀ k (h : k < s.size), F (k + 1) = upd (F k) s[k].toNat) :
    Calls Tryz.prog 152 #[.int .u32 (c : Int), .string s] w fun e w' => e = .returned (.int .u32 ((cpl (F s.size) : Nat) : Int)) ∧ Below w.heap.size w w' := by
  unfold maxLen at hs
  have H0 := hide h0
  have HF := hide hF
  have HN := hide hn
  have HC := hide hc
  clear h0 hF hn hc
  have hz := zv58
  go_enter Tryz.func152, Tryz.ntmps152
  go_wp2_with fail
  refine (bytesAlone_any _).mono ?_
  rintro e w1 ⟨rfl, hb1⟩
  have hst := store_new58 w1 (fun i => stps 8 i)
  have hR := RowAt.new w1 256 224 (fun i => stps 8 i)
  have hbel := (hb1.alloc (w := w1) hb1.size (.cells (rowN 256 fun i => stps 8 i) 224))
  have hsz := rowN_size 256 (fun i => stps 8 i)
  have HR := hide hR
  have HB := hide hbel
  clear hR hbel hb1
  generalize (rowN 256 fun _ => 0) = Z at *
  generalize (rowN 256 fun i => stps 8 i) = R at *
  go_wp2_with fail
  clear hst hsz hz
  generalize w1.alloc (.cells R 224) = W at *
  generalize w1.heap.size = g at *
  go_loop [0, 6, 12] (fun t _ i => ∃ k : Nat, k ≤ s.size ∧ i = .int .i64 k ∧ t = .int .u32 ((F k : Nat) : Int)) (fun _ _ i => s.size - (intOf i).toNat)
  case atStart => exact ⟨0, Nat.zero_le _, rfl, val_u32 (by rw [H0.out]; exact u32_xor c 4294967295 HC.out (by decide))⟩
  case round =>
    obtain ⟨k, hk, rfl, rfl⟩ := hrel
    by_cases hlt : k < s.size
    · have hb := s[k].toNat_lt
      have hm : F k % 256 < 256 := Nat.mod_lt _ (by decide)
      have hx8 : bits .xor .u8 ((F k : Int) % 256) ((s[k].toNat : Nat) : Int) = ((F k % 256 ^^^ s[k].toNat : Nat) : Int) := by
        have h := u8_xor_nat (F k % 256) s[k].toNat hm hb
        rw [show ((F k % 256 : Nat) : Int) = (F k : Int) % 256 from by omega] at h
        exact h
      have hi : F k % 256 ^^^ s[k].toNat < 256 := Nat.xor_lt_two_pow (n := 8) hm hb
      have hc := HR.out.cell hi
      have hx32 := u32_xor (stps 8 (F k % 256 ^^^ s[k].toNat)) (F k / 256) (stps_lt 8 (by omega)) (by have := HF.out k; omega)
      rw [upd_by (F k) _ hb, ← HN.out k hlt, show ((F k / 256 : Nat) : Int) = (F k : Int) / 256 from by omega] at hx32
      generalize F k % 256 ^^^ s[k].toNat = idx at *
      generalize stps 8 idx = sv at *
      clear hm hb
      go_wp2
      go_round
      case rel => exact ⟨k + 1, by omega, by go_num, rfl⟩
      case measure => simp [intOf]; omega
    · go_wp2_with fail
      go_ret
      have hke : k = s.size := by omega
      subst hke
      exact ⟨ret_u32 (u32_xor _ 4294967295 (HF.out _) (by decide)), HB.out⟩

theorem more_any (c : Nat) (s : ByteArray) (w : World) (hc : c < 4294967296) (hs : s.size ≤ maxLen) :
    Calls Tryz.prog 152 #[.int .u32 (c : Int), .string s] w fun e w' => e = .returned (.int .u32 ((more c (bytesOf s) : Nat) : Int)) ∧ Below w.heap.size w w' := by
  have h := more_core c s (fun k => fold (cpl c) ((bytesOf s).take k)) w hc hs rfl
    (fun k => fold_lt _ (cpl_lt hc) (fun b hm => bytesOf_lt s b (List.mem_of_mem_take hm)))
    (fun k hk => by
      have e : (bytesOf s).take (k + 1) = (bytesOf s).take k ++ [s[k].toNat] := by
        have hk2 : k < (s.data.toList.map UInt8.toNat).length := by simpa using hk
        unfold bytesOf
        rw [List.take_succ_eq_append_getElem hk2]
        simp
        rfl
      show fold (cpl c) ((bytesOf s).take (k + 1)) = _
      rw [e, fold_append]
      rfl)
  have e : (bytesOf s).take s.size = bytesOf s := List.take_of_length_le (by rw [bytesOf_length]; exact Nat.le_refl _)
  simp only [e] at h
  exact h
set_option maxHeartbeats 400000 in
theorem of_any (s : ByteArray) (w : World) (hs : s.size ≤ maxLen) :
    Calls Tryz.prog 133 #[.string s] w fun e w' => e = .returned (.int .u32 ((more 0 (bytesOf s) : Nat) : Int)) ∧ Below w.heap.size w w' := by
  have HM : Hid (∀ u, Calls Tryz.prog 152 #[.int .u32 0, .string s] u fun e w' => e = .returned (.int .u32 ((more 0 (bytesOf s) : Nat) : Int)) ∧ Below u.heap.size u w') := fun u => more_any 0 s u (by decide) hs
  go_enter Tryz.func133, Tryz.ntmps133
  go_wp2_with fail
  refine (HM.out _).mono ?_
  rintro e w1 ⟨rfl, hb1⟩
  have HB := hide hb1
  clear hb1
  go_wp2
  go_ret
  exact ⟨rfl, HB.out⟩
end Go.Proofs.YtchhojkhfdkhfaaGreatDoor.Frm
namespace Go.Proofs.YtchhojkhfdkhfaaGreatDoor
open Go Go.RowKit Frm
/-- Bytes written, the first i of a number's. -/
def lput (l : List UInt8) (off n : Nat) : Nat → List UInt8
  | 0 => l
  | i + 1 => (lput l off n i).set (off + i) (lowAt n i)
theorem lput_length (l : List UInt8) (off n : Nat) : ∀ i, (lput l off n i).length = l.length
  | 0 => rfl
  | i + 1 => by unfold lput; rw [List.length_set, lput_length l off n i]
theorem low_int (n k : Nat) : (n : Int) / 2 ^ (8 * k) % 256 = (((lowAt n k).toNat : Nat) : Int) := by
  rw [lowAt_toNat, show (256 : Nat) = 2 ^ 8 from rfl, ← Nat.pow_mul]
  simp
theorem bc_set (l : List UInt8) (j : Nat) (b : UInt8) : (Lib.byteCells l).toArray.setIfInBounds j (.int .u8 ((b.toNat : Nat) : Int)) = (Lib.byteCells (l.set j b)).toArray := by
  unfold Lib.byteCells
  rw [List.setIfInBounds_toArray, List.map_set]
set_option maxRecDepth 10000 in
set_option maxHeartbeats 1000000 in
theorem put_any (g off c len n : Nat) (l : List UInt8) (ty : TypeId) (w : World) (hg : w.heap[g]? = some (.cells (Lib.byteCells l).toArray ty (0, 0))) (hl : off + len ≤ l.length) (h8 : len ≤ 8) (h256 : l.length ≤ 256) :
    Calls Tryz.prog 132 #[.slice (some ⟨g, off, none⟩) len c, .int .u64 (n : Int)] w fun e w' => (∃ v, e = .returned v) ∧ w'.heap[g]? = some (.cells (Lib.byteCells (lput l off n len)).toArray ty (0, 0)) ∧ Loc (fun k => k = g) (fun k => k = g) w w' := by
  have HL := hide hl
  have H256 := hide h256
  have HG := hide hg
  have HGl : Hid (g < w.heap.size) := (Array.getElem?_eq_some_iff.1 hg).1
  clear hl h256 hg
  go_enter Tryz.func132, Tryz.ntmps132
  go_wp2_with fail
  go_loopw [4, 7] (fun _ i wr => ∃ k : Nat, k ≤ len ∧ i = .int .i64 (k : Int) ∧ wr.heap[g]? = some (.cells (Lib.byteCells (lput l off n k)).toArray ty (0, 0)) ∧ Loc (fun k => k = g) (fun k => k = g) w wr) (fun _ i _ => len - (intOf i).toNat)
  case atStart => exact ⟨0, Nat.zero_le _, rfl, HG.out, Loc.refl _ _⟩
  case round =>
    obtain ⟨k, hk, rfl, hh, hloc⟩ := hrel
    have HH := hide hh
    have HLo := hide hloc
    by_cases hlt : k < len
    · have hk8 : k ≤ 8 := by omega
      have hll := lput_length l off n k
      have hin : off + k < (lput l off n k).length := by have := HL.out; omega
      have hc : wr.cell? ⟨g, off + k, none⟩ = some (.int .u8 (((lput l off n k)[off + k].toNat : Nat) : Int)) := by
        simp [World.cell?, hh, Lib.byteCells, hin]
      have hf : wr.frozen? ⟨g, off + k, none⟩ = false := by simp [World.frozen?, hh]
      have hw1 : wrap64 (8 * (k : Int)) = 8 * (k : Int) := by unfold wrap64; omega
      have h80 : ¬ (8 * (k : Int) < 0) := by omega
      clear hh hloc hll
      go_wp2
      refine ⟨⟨k + 1, hlt, by go_num, ?_, ?_⟩, ?_⟩
      · rw [heap_set3 HH.out, low_int, bc_set]
        rfl
      · exact HLo.out.trans (Loc.setCell wr ⟨g, off + k, none⟩ _ rfl)
      · simp [intOf]; omega
    · have hke : k = len := by omega
      subst hke
      clear hh hloc
      go_wp2
      go_end0
      exact ⟨⟨_, rfl⟩, HH.out, HLo.out⟩
theorem size89 : (Tryz.prog.info? 171).map (·.size) = some 256 := by kernel_rfl
theorem z89_eq : Tryz.zeroCells171 = (Lib.byteCells (List.replicate 256 0)).toArray := by kernel_rfl
theorem lput_eq (l : List UInt8) (off n : Nat) : ∀ i, off + i ≤ l.length → lput l off n i = l.take off ++ lowL n i ++ l.drop (off + i)
  | 0, _ => by
    show l = _
    unfold lowL
    simp
  | i + 1, h => by
    show (lput l off n i).set (off + i) (lowAt n i) = _
    have hl : (l.take off ++ lowL n i).length = off + i := by rw [List.length_append, List.length_take, lowL_length]; omega
    rw [lput_eq l off n i (by omega), List.set_append_right _ _ (by omega), hl, Nat.sub_self, lowL_succ, List.drop_eq_getElem_cons (show off + i < l.length by omega), List.set_cons_zero]
    simp only [List.append_assoc, List.cons_append, List.nil_append]
    rfl
set_option maxRecDepth 10000 in
/-- What makes a head. -/
theorem head_made (g : Nat) (t : ByteArray) : (lput (lput (lput (List.replicate 256 0) 0 g 8) 8 t.size 4) 12 (sumT t) 4).set 255 165 = headL g t := by
  rw [lput_eq (List.replicate 256 0) 0 g 8 (by rw [List.length_replicate]; omega)]
  have e1 : (List.replicate 256 (0 : UInt8)).take 0 ++ lowL g 8 ++ (List.replicate 256 0).drop (0 + 8) = lowL g 8 ++ List.replicate 248 0 := by simp
  rw [e1, lput_eq _ 8 t.size 4 (by rw [List.length_append, lowL_length, List.length_replicate]; omega)]
  have e2 : (lowL g 8 ++ List.replicate 248 (0 : UInt8)).take 8 ++ lowL t.size 4 ++ (lowL g 8 ++ List.replicate 248 0).drop (8 + 4) = lowL g 8 ++ lowL t.size 4 ++ List.replicate 244 0 := by
    rw [List.take_append_of_le_length (by rw [lowL_length]; omega), List.take_of_length_le (by rw [lowL_length]; omega), List.drop_append, List.drop_of_length_le (by rw [lowL_length]; omega), lowL_length, List.nil_append, List.drop_replicate]
  rw [e2, lput_eq _ 12 (sumT t) 4 (by simp [lowL_length])]
  have e3 : (lowL g 8 ++ lowL t.size 4 ++ List.replicate 244 (0 : UInt8)).take 12 ++ lowL (sumT t) 4 ++ (lowL g 8 ++ lowL t.size 4 ++ List.replicate 244 0).drop (12 + 4) = lowL g 8 ++ lowL t.size 4 ++ lowL (sumT t) 4 ++ List.replicate 240 0 := by
    have hl : (lowL g 8 ++ lowL t.size 4).length = 12 := by rw [List.length_append, lowL_length, lowL_length]
    rw [List.take_append_of_le_length (by omega), List.take_of_length_le (by omega), List.drop_append, List.drop_of_length_le (by omega), hl, List.nil_append, List.drop_replicate]
  rw [e3]
  have hl : (lowL g 8 ++ lowL t.size 4 ++ lowL (sumT t) 4).length = 16 := by rw [List.length_append, List.length_append, lowL_length, lowL_length, lowL_length]
  unfold headL
  rw [List.set_append_right _ _ (by omega), hl, show (List.replicate 240 (0 : UInt8)) = List.replicate 239 0 ++ [0] from List.replicate_succ' .., List.set_append_right _ _ (by simp), List.length_replicate]
  simp only [List.append_assoc]
  rfl
set_option maxRecDepth 10000 in
set_option maxHeartbeats 1000000 in
theorem headOf_any (g : Nat) (t : ByteArray) (w : World) (ht : t.size ≤ 100000000) :
    Calls Tryz.prog 111 #[.int .u64 (g : Int), .string t] w fun e w' => e = .returned (.agg (tc (headT g t)).toArray) ∧ Below w.heap.size w w' := by
  have hz := Tryz.zeroValue171
  rw [z89_eq] at hz
  have hs0 : (w.alloc (.cells (Lib.byteCells (List.replicate 256 0)).toArray 171)).heap.size = w.heap.size + 1 := by simp
  have hg0 := heap_alloc_last w (.cells (Lib.byteCells (List.replicate 256 0)).toArray 171)
  have hg1 := heap_alloc_last (w.alloc (.cells (Lib.byteCells (List.replicate 256 0)).toArray 171)) (.cells (Lib.byteCells (List.replicate 256 0)).toArray 171)
  rw [hs0] at hg1
  have HR0 : Hid (((w.alloc (.cells (Lib.byteCells (List.replicate 256 0)).toArray 171)).alloc (.cells (Lib.byteCells (List.replicate 256 0)).toArray 171)).heap[w.heap.size]? = some (.cells (Lib.byteCells (List.replicate 256 0)).toArray 171 (0, 0))) := (Below.heap_alloc _ _ _ (by rw [hs0]; omega)).trans hg0
  have HB0 := hide (two_below w (.cells (Lib.byteCells (List.replicate 256 0)).toArray 171) (.cells (Lib.byteCells (List.replicate 256 0)).toArray 171))
  have HP1 := hide (put_any (w.heap.size + 1) 0 256 8 g (List.replicate 256 0) 171 _ hg1 (by rw [List.length_replicate]; omega) (by omega) (by rw [List.length_replicate]; omega))
  have HL0 : Hid ((List.replicate 256 (0 : UInt8)).length = 256) := List.length_replicate ..
  have HM := hide (head_made g t)
  have HO := hide (fun u => of_any t u (by unfold maxLen; omega))
  have HZs : Hid ((Lib.byteCells (List.replicate 256 (0 : UInt8))).length = 256) := by unfold Hid; rw [Lib.byteCells_length, List.length_replicate]
  generalize hZ0 : List.replicate 256 (0 : UInt8) = Z0 at *
  clear hg0 hg1 hs0
  go_enter Tryz.func111, Tryz.ntmps111
  go_wp2_with fail
  generalize (w.alloc (.cells (Lib.byteCells Z0).toArray 171)).alloc (.cells (Lib.byteCells Z0).toArray 171) = W0 at *
  refine HP1.out.mono ?_
  rintro e w1 ⟨⟨v1, rfl⟩, h1, l1⟩
  have HP2 := hide (put_any (w.heap.size + 1) 8 248 4 t.size _ 171 w1 h1 (by rw [lput_length, HL0.out]; omega) (by omega) (by rw [lput_length, HL0.out]; omega))
  have HL1 := hide l1
  clear HP1 h1 l1
  go_wp2_with fail
  refine HP2.out.mono ?_
  rintro e w2 ⟨⟨v2, rfl⟩, h2, l2⟩
  have HL2 := hide (HL1.out.trans l2)
  have HH2 := hide h2
  clear HP2 h2 l2 HL1
  have hsm : ((sumT t : Nat) : Int) % 18446744073709551616 = ((sumT t : Nat) : Int) := by have := sumT_lt t; omega
  have hsm2 : IntKind.u64.wrap ((sumT t : Nat) : Int) = ((sumT t : Nat) : Int) := by rw [IntKind.wrap_u64]; have := sumT_lt t; omega
  have hO2 : Calls Tryz.prog 133 #[.string t] w2.drew fun e w' => e = .returned (.int .u32 ((sumT t : Nat) : Int)) ∧ Below w2.heap.size w2.drew w' := HO.out w2.drew
  have HO2 := hide hO2
  clear hO2 HO
  generalize hsum : sumT t = sm at *
  have hlt3 : w.heap.size + 1 < w2.heap.size := (Array.getElem?_eq_some_iff.1 HH2.out).1
  have HP3 : Hid (∀ u, Below w2.heap.size w2.drew u → Calls Tryz.prog 132 #[.slice (some ⟨w.heap.size + 1, 12, none⟩) 4 244, .int .u64 (sm : Int)] u fun e w' => (∃ v, e = .returned v) ∧ w'.heap[w.heap.size + 1]? = some (.cells (Lib.byteCells (lput (lput (lput Z0 0 g 8) 8 t.size 4) 12 sm 4)).toArray 171 (0, 0)) ∧ Loc (fun k => k = w.heap.size + 1) (fun k => k = w.heap.size + 1) W0 w') := fun u hu => by
    refine (put_any (w.heap.size + 1) 12 244 4 sm _ 171 u ((hu.block _ hlt3).trans HH2.out) (by rw [lput_length, lput_length, HL0.out]; omega) (by omega) (by rw [lput_length, lput_length, HL0.out]; omega)).mono ?_
    rintro e v ⟨he, h1, l1⟩
    exact ⟨he, h1, (HL2.out.drew.trans (Loc.of_below _ hu)).trans l1⟩
  clear HH2 HL2 hlt3
  go_wp2_with fail
  go_region_law (first
    | (go_simp; go_at_call 133; refine (HO2.out).mono ?_; rintro e w3 ⟨rfl, hb3⟩)
    | (go_simp; go_at_call 132; refine (HP3.out w3 hb3).mono ?_; rintro e w4 ⟨⟨v4, rfl⟩, h4, l4⟩))
  have HL4 := hide l4
  clear HP3 l4 hb3 HO2
  have hlen : (lput (lput (lput Z0 0 g 8) 8 t.size 4) 12 sm 4).length = 256 := by rw [lput_length, lput_length, lput_length, HL0.out]
  generalize lput (lput (lput Z0 0 g 8) 8 t.size 4) 12 sm 4 = X at *
  have hc : w4.cell? ⟨w.heap.size + 1, 255, none⟩ = some (.int .u8 (((X[255]'(by omega)).toNat : Nat) : Int)) := by
    simp [World.cell?, h4, Lib.byteCells, hlen]
  have hf : w4.frozen? ⟨w.heap.size + 1, 255, none⟩ = false := by simp [World.frozen?, h4]
  have hh5 : (w4.setCell ⟨w.heap.size + 1, 255, none⟩ (.int .u8 165)).heap[w.heap.size + 1]? = some (.cells (tc (headT g t)).toArray 171 (0, 0)) := by
    have := bc_set X 255 165
    rw [HM.out] at this
    rw [heap_set3 h4]
    exact congrArg (fun c => some (Obj.cells c 171 (0, 0))) this
  have hr5 : (w4.setCell ⟨w.heap.size + 1, 255, none⟩ (.int .u8 165)).heap[w.heap.size]? = some (.cells (Lib.byteCells Z0).toArray 171 (0, 0)) :=
    (Below.heap_setCell w4 ⟨w.heap.size + 1, 255, none⟩ _ w.heap.size (by show w.heap.size ≠ w.heap.size + 1; omega)).trans ((HL4.out.block _ (Array.getElem?_eq_some_iff.1 HR0.out).1 (by show w.heap.size ≠ w.heap.size + 1; omega)).trans HR0.out)
  have HB5 : Hid (Below w.heap.size w (w4.setCell ⟨w.heap.size + 1, 255, none⟩ (.int .u8 165))) := HB0.out.trans ((HL4.out.trans (Loc.setCell w4 ⟨w.heap.size + 1, 255, none⟩ _ rfl)).below (fun k hk => by subst hk; omega) (HB0.out.size))
  have HH5 := hide hh5
  have HR5 := hide hr5
  clear h4 hh5 hr5 hz
  have HZ1 : Hid ((Lib.byteCells Z0).toArray.size = 256) := by unfold Hid; rw [List.size_toArray, HZs.out]
  have HT1 : Hid ((tc (headT g t)).toArray.size = 256) := by unfold Hid; rw [List.size_toArray, tc_length, headT_size]
  have HOne := hide (tone (headT g t))
  generalize hDD : (tc (headT g t)).toArray = D at *
  have HDD := hide hDD
  clear hDD
  generalize (Lib.byteCells Z0).toArray = Z at *
  go_upto_region 6 with fail
  have hset : (w4.setCell ⟨w.heap.size + 1, 255, none⟩ (.int .u8 165)).heap.size = w4.heap.size := by simp [World.setCell]
  generalize w4.setCell ⟨w.heap.size + 1, 255, none⟩ (.int .u8 165) = W5 at *
  have HE : Hid (Below w.heap.size w (W5.setRow w.heap.size D)) := Frm.below_setRow HB5.out (Nat.le_refl _) D
  have HEh : Hid ((W5.setRow w.heap.size D).heap[w.heap.size]? = some (.cells D 171 (0, 0))) := setRow_heap W5 w.heap.size Z D 171 (0, 0) HR5.out
  apply wp_region_lit
  refine wpList_load_row rfl 171 (.tmp 5) rfl (w.heap.size + 1) rfl 171 D (0, 0) _ HH5.out Tryz.underlying171 rfl (by rw [HT1.out]; exact size89) ?_
  refine wpList_store_row rfl 171 (.tmp 4) (.tmp 20) rfl w.heap.size D rfl rfl 171 Z HR5.out (by rw [HT1.out]; exact size89) (by rw [HT1.out, HZ1.out]) HOne.out ?_
  apply wpList_nil
  generalize W5.setRow w.heap.size D = W6 at *
  go_wp2_with fail
  (try simp only [Exit.inBlock, Exit.then])
  exact bodyPost_ret (results_cell_row Tryz.results111 _ _ w.heap.size 171 D (0, 0) _ rfl HEh.out Tryz.underlying171 rfl (by rw [HT1.out]; exact size89)) rfl ⟨congrArg (fun c => Ending.returned (.agg c)) HDD.out.symm, HE.out⟩
theorem num_step (l : List UInt8) (off k : Nat) (h : off + k < l.length) : numL ((l.drop off).take (k + 1)) = numL ((l.drop off).take k) + l[off + k].toNat * 256 ^ k := by
  have hd : k < (l.drop off).length := by rw [List.length_drop]; omega
  have e : (l.drop off)[k] = l[off + k] := List.getElem_drop ..
  have hm : (List.take k (l.drop off)).length = k := by rw [List.length_take]; omega
  rw [List.take_succ_eq_append_getElem hd, numL_snoc, hm, e]
theorem or_step (x k : Nat) (b : UInt8) (hx : x < 256 ^ k) (hk : k < 8) : bits .or .u64 (x : Int) (IntKind.u64.wrap (IntKind.u64.wrap ((b.toNat : Nat) : Int) * 2 ^ (8 * k))) = ((x + b.toNat * 256 ^ k : Nat) : Int) := by
  have hb := b.toNat_lt
  have hp : 256 ^ k ≤ 256 ^ 7 := Nat.pow_le_pow_right (by decide) (by omega)
  have hm : b.toNat * 256 ^ k ≤ 255 * 256 ^ 7 := Nat.mul_le_mul (by omega) hp
  have hm2 : b.toNat * 256 ^ k < 18446744073709551616 := Nat.lt_of_le_of_lt hm (by decide)
  have hx2 : x < 18446744073709551616 := Nat.lt_of_lt_of_le hx (Nat.le_trans hp (by decide))
  have e1 : (2 : Int) ^ (8 * k) = ((256 ^ k : Nat) : Int) := by
    rw [show (256 : Nat) = 2 ^ 8 from rfl, ← Nat.pow_mul]
    simp
  have e2 : IntKind.u64.wrap ((b.toNat : Nat) : Int) = ((b.toNat : Nat) : Int) := by rw [IntKind.wrap_u64]; omega
  have e3 : IntKind.u64.wrap (((b.toNat * 256 ^ k : Nat) : Nat) : Int) = ((b.toNat * 256 ^ k : Nat) : Int) := by rw [IntKind.wrap_u64]; omega
  rw [e2, e1, ← Int.natCast_mul, e3, u64_or_nat _ _ hx2 hm2]
  have h3 := nat_join (8 * k) (b.toNat * 256 ^ k) x (by rw [show (256 : Nat) = 2 ^ 8 from rfl, ← Nat.pow_mul]; exact Nat.mul_mod_left _ _) (by rw [Nat.pow_mul]; exact hx)
  rw [Nat.or_comm, h3, Nat.add_comm]
set_option maxRecDepth 10000 in
set_option maxHeartbeats 1000000 in
theorem number_any (g off c len : Nat) (l : List UInt8) (ty : TypeId) (w : World) (hg : w.heap[g]? = some (.cells (Lib.byteCells l).toArray ty (0, 0))) (hl : off + len ≤ l.length) (h8 : len ≤ 8) :
    Calls Tryz.prog 113 #[.slice (some ⟨g, off, none⟩) len c] w fun e w' => e = .returned (.int .u64 ((numL ((l.drop off).take len) : Nat) : Int)) ∧ w' = w := by
  have HL := hide hl
  have HG := hide hg
  clear hl hg
  go_enter Tryz.func113, Tryz.ntmps113
  go_wp2_with fail
  go_loopw [3, 4, 7] (fun n _ i wr => ∃ k : Nat, k ≤ len ∧ i = .int .i64 (k : Int) ∧ n = .int .u64 ((numL ((l.drop off).take k) : Nat) : Int) ∧ wr = w) (fun _ _ i _ => len - (intOf i).toNat)
  case atStart => exact ⟨0, Nat.zero_le _, rfl, rfl, rfl⟩
  case round =>
    obtain ⟨k, hk, rfl, rfl, hw⟩ := hrel
    obtain rfl := hw
    by_cases hlt : k < len
    · have hk8 : k < 8 := by omega
      have hin : off + k < l.length := by have := HL.out; omega
      have hh := HG.out
      have hc : wr.cell? ⟨g, off + k, none⟩ = some (.int .u8 ((l[off + k].toNat : Nat) : Int)) := by
        simp [World.cell?, hh, Lib.byteCells, hin]
      have hw1 : wrap64 (8 * (k : Int)) = 8 * (k : Int) := by unfold wrap64; omega
      have h80 : ¬ (8 * (k : Int) < 0) := by omega
      clear hh
      have HX := hide (num_step l off k hin)
      have hx2 := numL_lt ((l.drop off).take k)
      have hlk : ((l.drop off).take k).length = k := by rw [List.length_take, List.length_drop]; omega
      rw [hlk] at hx2
      have HO := hide (fun x (hx : x < 256 ^ k) => or_step x k l[off + k] hx hk8)
      have HX2 := hide hx2
      clear hx2 hlk
      generalize numL ((l.drop off).take k) = x at *
      go_wp2
      refine ⟨⟨k + 1, hlt, by go_num, ?_, trivial⟩, ?_⟩
      · rw [HO.out x HX2.out, HX.out]
      · simp [intOf]; omega
    · have hke : k = len := by omega
      subst hke
      have hz : ¬ ((k : Int) < (k : Int)) := by omega
      go_wp2
      go_ret
      exact ⟨rfl, rfl⟩
end Go.Proofs.YtchhojkhfdkhfaaGreatDoor
namespace Go.Proofs.YtchhojkhfdkhfaaGreatDoor
open Go Go.RowKit
theorem ints_of_own {w : World} {base : Nat} {v : Value} {l : List Int} (h : w.ownsRow base 3 1 v l.length (l.map (Value.int .i64))) : ∃ a c, v = .slice a l.length c ∧ IntsAt w a l ∧ (∀ b off, a = some ⟨b, off, none⟩ → base ≤ b) := by
  have h0 := h
  rcases h.2 with ⟨rfl, hz⟩ | ⟨g, cap, cur, rfl, h1, hg, hr⟩
  · have hl : l = [] := List.length_eq_zero_iff.1 hz
    subst hl
    exact ⟨none, 0, rfl, Or.inl rfl, fun b off e => by cases e⟩
  · refine ⟨_, cap, rfl, Or.inr ⟨g, 0, rfl, fun j hj => ?_⟩, fun b off e => by cases e; exact h1⟩
    rw [Nat.zero_add, World.ownsRow.cellAt h0 j (by omega)]
    simp [hj]
theorem info3 : (Tryz.prog.info? 3).map (fun i => (i.zero, i.size, i.bytes)) = some (some (.int .i64 0), 1, 8) := by kernel_rfl
end Go.Proofs.YtchhojkhfdkhfaaGreatDoor
namespace Go.Proofs.YtchhojkhfdkhfaaGreatDoor
open Go Go.RowKit
/-- Are the blocks there? -/
abbrev St.may (st : St) (o n : Int) : Prop := 1 ≤ n ∧ 0 ≤ o ∧ o < (st.sure.length : Int) ∧ n ≤ (st.sure.length : Int) - o
end Go.Proofs.YtchhojkhfdkhfaaGreatDoor
namespace Go.Proofs.YtchhojkhfdkhfaaGreatDoor
open Go Go.RowKit
/-- The document's disk lies at block p, is st, and its blocks are F. -/
def RD (u : World) (p : Nat) (st : St) (F : Nat → Prop) : Prop := ∃ vS vL, F = RF p vS vL ∧ RAt u p vS vL st
theorem RD.lt {u : World} {p : Nat} {st : St} {F : Nat → Prop} (h : RD u p st F) : ∀ k, F k → k < u.heap.size := by
  obtain ⟨vS, vL, rfl, h⟩ := h
  exact h.lt
theorem RD.same {u v : World} {p : Nat} {st : St} {F : Nat → Prop} (h : RD u p st F) (hb : ∀ k, F k → v.heap[k]? = u.heap[k]?) : RD v p st F := by
  obtain ⟨vS, vL, rfl, h⟩ := h
  exact ⟨vS, vL, rfl, h.same hb⟩
theorem RD.below {u v : World} {p : Nat} {st : St} {F : Nat → Prop} (h : RD u p st F) (hb : Below u.heap.size u v) : RD v p st F := h.same (fun k hk => hb.block k (h.lt k hk))
theorem rd_write (p : Nat) (st : St) (F : Nat → Prop) (b : Int) (d : ByteArray) (u : World) (h : RD u p st F) (hok : st.Ok) (hl : st.loose.length ≤ 100000) :
    Calls Tryz.prog 35 #[.pointer (some ⟨p, 0, none⟩), .int .i64 b, .string d] u fun e v => e = .returned (.int .i64 (((st.write b d).1 : Nat) : Int)) ∧ ∃ F', RD v p (st.write b d).2 F' ∧ Loc F F' u v := by
  obtain ⟨vS, vL, rfl, h⟩ := h
  refine (rWrite p vS vL st b d u h hok hl).mono ?_
  rintro e v ⟨rfl, vL', h2, l2⟩
  exact ⟨rfl, _, ⟨vS, vL', rfl, h2⟩, l2⟩
theorem rd_sync (p : Nat) (st : St) (F : Nat → Prop) (u : World) (h : RD u p st F) (hok : st.Ok) (hl : st.loose.length ≤ 100000) :
    Calls Tryz.prog 97 #[.pointer (some ⟨p, 0, none⟩)] u fun e v => e = .returned (.int .i64 ((st.sync.1 : Nat) : Int)) ∧ ∃ F', RD v p st.sync.2 F' ∧ Loc F F' u v := by
  obtain ⟨vS, vL, rfl, h⟩ := h
  refine (rSync p vS vL st u h hok hl).mono ?_
  rintro e v ⟨rfl, vL', h2, l2⟩
  exact ⟨rfl, _, ⟨vS, vL', rfl, h2⟩, l2⟩
end Go.Proofs.YtchhojkhfdkhfaaGreatDoor
