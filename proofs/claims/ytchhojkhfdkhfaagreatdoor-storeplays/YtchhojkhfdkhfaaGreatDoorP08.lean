/- Joined texts. -/
import Derived.Test.YtchhojkhfdkhfaaGreatDoorP07
import Derived.Deep.WholeRow
namespace Go.Proofs.YtchhojkhfdkhfaaGreatDoor.Frm
open Go Go.RowKit

theorem u32_xor (a b : Nat) (ha : a < 4294967296) (hb : b < 4294967296) : bits .xor .u32 (a : Int) (b : Int) = ((a ^^^ b : Nat) : Int) := u32_xor_nat a b ha hb

set_option maxHeartbeats 400000 in
theorem shift_any (c : Nat) (w : World) (hc : c < 4294967296) :
   Calls Tryz.prog 167 #[.int .u32 (c : Int)] w fun e w' => e = .returned (.int .u32 ((stp c : Nat) : Int)) /\ w' = w := by
 have ha := and_one c hc
 have HC : Hid (c < 4294967296) := hc
 clear hc
 by_cases hodd : c % 2 = 1
 · have hb : bits .and .u32 (c : Int) 1 = 1 := by rw [ha,hodd]; rfl
   have HO : Hid (c % 2 = 1) := hodd
   clear ha hodd
   go_enter Tryz.func167,Tryz.ntmps167
   go_wp2
   go_ret
   exact ⟨ret_u32 (by rw [stp_odd HO.out]; exact xor_poly c HC.out),rfl⟩
 · have hev : c % 2 = 0 := by omega
   have hb : bits .and .u32 (c : Int) 1 = 0 := by rw [ha,hev]; rfl
   have HO : Hid (c % 2 = 0) := hev
   clear ha hodd hev
   go_enter Tryz.func167,Tryz.ntmps167
   go_wp2
   go_ret
   exact ⟨ret_u32 (by rw [stp_even HO.out]; omega),rfl⟩


def rowN (n : Nat) (f : Nat -> Nat) : Array Value := Array.ofFn (n := n) fun i => .int .u32 ((f i.val : Nat) : Int)
theorem rowN_size (n : Nat) (f : Nat -> Nat) : (rowN n f).size = n := by unfold rowN; simp
theorem rowN_at {n : Nat} {f : Nat -> Nat} {i : Nat} (h : i < n) : (rowN n f)[i]? = some (.int .u32 ((f i : Nat) : Int)) := by unfold rowN; simp [h]
theorem rowN_congr {n : Nat} {f g : Nat -> Nat} (h : ∀ i,i < n -> f i = g i) : rowN n f = rowN n g := by
 unfold rowN
 congr 1
 funext i
 rw [h i.val i.isLt]
theorem rowN_set {n : Nat} (f : Nat -> Nat) (i v : Nat) : (rowN n f).setIfInBounds i (.int .u32 ((v : Nat) : Int)) = rowN n fun e => if e = i then v else f e := by
 apply Array.ext_getElem?
 intro e
 by_cases he : e < n
 · rw [rowN_at he,Array.getElem?_setIfInBounds,rowN_at he,rowN_size]
   by_cases h : i = e
   · subst h; rw [if_pos rfl,if_pos he,if_pos rfl]
   · rw [if_neg h,if_neg (fun k => h k.symm)]
 · rw [Array.getElem?_eq_none (by rw [Array.size_setIfInBounds,rowN_size]; omega),Array.getElem?_eq_none (by rw [rowN_size]; omega)]
theorem rowN_one (n : Nat) (f : Nat -> Nat) : (rowN n f).all (·.oneCell') = true := by
 rw [Array.all_eq_true_iff_forall_mem]
 intro v hv
 unfold rowN at hv
 obtain ⟨i,rfl⟩ := Array.mem_ofFn.1 hv
 rfl
theorem info58 : (Tryz.prog.info? 224).map (·.size) = some 256 := by kernel_rfl
theorem zero58 : (Tryz.prog.info? 224).map (fun i => (i.zero,i.size)) = some (some (.agg (Array.replicate 256 (.int .u32 0))),256) := by kernel_rfl
theorem rep_row (n : Nat) : Array.replicate n (.int .u32 0) = rowN n fun _ => 0 := by
 apply Array.ext_getElem?
 intro i
 by_cases h : i < n
 · rw [rowN_at h,Array.getElem?_replicate,if_pos h]; rfl
 · rw [Array.getElem?_eq_none (by simp; omega),Array.getElem?_eq_none (by rw [rowN_size]; omega)]
theorem zv58 (w : World) : (zeroValue 224).run Tryz.prog w = .ok (.agg (rowN 256 fun _ => 0)) w := by
 rw [<- rep_row]; exact (zero_of_info zero58).1 w
def RowAt (w : World) (b n : Nat) (t : TypeId) (f : Nat -> Nat) : Prop := w.heap[b]? = some (.cells (rowN n f) t (0,0))
theorem RowAt.cell {w : World} {b n : Nat} {t : TypeId} {f : Nat -> Nat} (h : RowAt w b n t f) {i : Nat} (hi : i < n) : w.cell? ⟨b,i,none⟩ = some (.int .u32 ((f i : Nat) : Int)) := by
 rw [cell_of_row w b i _ t (0,0) h]; exact rowN_at hi
theorem RowAt.free {w : World} {b n : Nat} {t : TypeId} {f : Nat -> Nat} (h : RowAt w b n t f) (i : Nat) : w.frozen? ⟨b,i,none⟩ = false := by
 unfold RowAt at h; simp [World.frozen?,h]
theorem RowAt.lt {w : World} {b n : Nat} {t : TypeId} {f : Nat -> Nat} (h : RowAt w b n t f) : b < w.heap.size := (Array.getElem?_eq_some_iff.1 h).1
theorem RowAt.congr {w : World} {b n : Nat} {t : TypeId} {f g : Nat -> Nat} (h : RowAt w b n t f) (hf : ∀ i,i < n -> f i = g i) : RowAt w b n t g := by
 unfold RowAt; rw [<- rowN_congr hf]; exact h
theorem RowAt.set {w : World} {b n : Nat} {t : TypeId} {f : Nat -> Nat} (h : RowAt w b n t f) (i v : Nat) : RowAt (w.setCell ⟨b,i,none⟩ (.int .u32 ((v : Nat) : Int))) b n t fun e => if e = i then v else f e := by
 unfold RowAt
 rw [setCell_eq_setRow w b i _ t (0,0) _ h,rowN_set]
 exact setRow_heap w b _ _ t _ h
theorem RowAt.other {w : World} {b c n i : Nat} {t : TypeId} {f : Nat -> Nat} {v : Value} (h : RowAt w b n t f) (hn : b ≠ c) : RowAt (w.setCell ⟨c,i,none⟩ v) b n t f := by
 unfold RowAt; rw [Below.heap_setCell w ⟨c,i,none⟩ v b hn]; exact h
theorem RowAt.setAll {w : World} {b n : Nat} {t : TypeId} {f : Nat -> Nat} (h : RowAt w b n t f) (g : Nat -> Nat) : RowAt (w.setRow b (rowN n g)) b n t g := setRow_heap w b _ _ t _ h
theorem RowAt.below {w w' : World} {b n : Nat} {t : TypeId} {f : Nat -> Nat} (h : RowAt w b n t f) (hb : Below w.heap.size w w') : RowAt w' b n t f := (hb.block b h.lt).trans h
theorem RowAt.new (w : World) (n : Nat) (t : TypeId) (f : Nat -> Nat) : RowAt (w.alloc (.cells (rowN n f) t)) w.heap.size n t f := heap_alloc_last w _
theorem RowAt.alloc {w : World} {b n : Nat} {t : TypeId} {f : Nat -> Nat} (h : RowAt w b n t f) (o : Obj) : RowAt (w.alloc o) b n t f := (Below.heap_alloc w o b h.lt).trans h
theorem RowAt.drew {w : World} {b n : Nat} {t : TypeId} {f : Nat -> Nat} (h : RowAt w b n t f) : RowAt w.drew b n t f := h
theorem below_setRow {B : Nat} {a w : World} (h : Below B a w) {c : Nat} (hc : B <= c) (cs : Array Value) : Below B a (w.setRow c cs) :=
 ⟨h.os,h.tape,h.output,by unfold World.setRow; simpa using h.size,fun k hk => by
   unfold World.setRow; rw [Array.getElem?_modify,if_neg (by omega)]; exact h.block k hk⟩
theorem RowAt.load {w : World} {b n : Nat} {t e : TypeId} {f : Nat -> Nat} (h : RowAt w b n t f) (hu : Tryz.prog.underlying t = some (.array n e)) (hi : (Tryz.prog.info? t).map (·.size) = some n) :
   (loadVar t ⟨b,0,none⟩).run Tryz.prog w = .ok (.agg (rowN n f)) w :=
 run_loadVar_row w b t t _ (0,0) _ h hu rfl (by rw [rowN_size]; exact hi)
theorem RowAt.store {w : World} {b n : Nat} {t : TypeId} {f : Nat -> Nat} (h : RowAt w b n t f) (g : Nat -> Nat) (hi : (Tryz.prog.info? t).map (·.size) = some n) :
   (storeVar t ⟨b,0,none⟩ (.agg (rowN n g))).run Tryz.prog w = .ok () (w.setRow b (rowN n g)) :=
 run_storeVar_row w b t t _ _ h (by rw [rowN_size]; exact hi) (by rw [rowN_size,rowN_size]) (rowN_one n g)
end Go.Proofs.YtchhojkhfdkhfaaGreatDoor.Frm
