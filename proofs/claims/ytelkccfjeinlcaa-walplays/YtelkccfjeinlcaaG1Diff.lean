/- The iterator of package wal: which blocks differ. -/
import Derived.Test.YtelkccfjeinlcaaGMake
import Derived.Test.YtelkccfjeinlcaaGFrmScan
namespace Go.Proofs.Ytelkccfjeinlcaa
open Go Go.RowKit Frm Go.Shelf
attribute [local go_sem] Oper.semAt_some
/-- The blocks that differ, with what they are now. -/
def df (a b : Nat → ByteArray) (n : Nat) : List (Nat × ByteArray) := wl 0 (prs n a b) 0
theorem wl_append (o : Nat) : ∀ (l m : List (ByteArray × ByteArray)) (i : Nat), wl o (l ++ m) i = wl o l i ++ wl o m (i + l.length)
  | [], m, i => by simp [wl]
  | x :: l, m, i => by
    rw [List.cons_append]
    have e1 : ∀ y : List (ByteArray × ByteArray), wl o (x :: y) i = if x.1 = x.2 then wl o y (i + 1) else (o + i, x.2) :: wl o y (i + 1) := fun _ => rfl
    rw [e1, e1, wl_append o l m (i + 1), List.length_cons, show i + 1 + l.length = i + (l.length + 1) from by omega]
    split
    · rfl
    · rfl
theorem df_succ (a b : Nat → ByteArray) (k : Nat) : df a b (k + 1) = df a b k ++ (if a k = b k then [] else [(k, b k)]) := by
  unfold df
  have h : prs (k + 1) a b = prs k a b ++ [(a k, b k)] := by unfold prs; rw [List.range_succ, List.map_append]; rfl
  rw [h, wl_append, prs_length]
  congr 1
  unfold wl
  simp only [Nat.zero_add]
  split
  · rfl
  · rfl
theorem df_prefix (a b : Nat → ByteArray) (k : Nat) : ∀ d, df a b k <+: df a b (k + d)
  | 0 => List.prefix_refl _
  | d + 1 => by
    rw [← Nat.add_assoc, df_succ]
    exact (df_prefix a b k d).trans (List.prefix_append _ _)
theorem df_length (a b : Nat → ByteArray) (k : Nat) : (df a b k).length ≤ k := by
  induction k with
  | zero => simp [df, prs, wl]
  | succ k ih =>
    rw [df_succ, List.length_append]
    split
    · simp; omega
    · simp; omega
theorem toList_ne {s t : ByteArray} (h : s ≠ t) : (s.toList == t.toList) = false := by
  rw [beq_eq_false_iff_ne]
  intro e
  rw [Lib.toList_data, Lib.toList_data] at e
  exact h (ByteArray.ext (Array.toList_inj.1 e))
/-- What the iterator hands on. -/
def encD (x : Nat × ByteArray) : Array Value := #[.int .i64 (x.1 : Int), .string x.2]
/-- Some blocks are as they were. -/
def Kpt (K : Nat → Prop) (A B : World) : Prop := ∀ k, K k → B.heap[k]? = A.heap[k]?
theorem Kpt.cell {K : Nat → Prop} {A B : World} (h : Kpt K A B) {b o : Nat} {v : Value} (hb : K b) (hc : A.cell? ⟨b, o, none⟩ = some v) : B.cell? ⟨b, o, none⟩ = some v := (World.cell?_of_block (a := ⟨b, o, none⟩) (h b hb)).trans hc
theorem Kpt.below {K : Nat → Prop} {A B C : World} (h : Kpt K A B) (hK : ∀ k, K k → k < A.heap.size) (hs : A.heap.size ≤ B.heap.size) (hb : Below B.heap.size B C) : Kpt K A C := fun k hk => (hb.block k (Nat.lt_of_lt_of_le (hK k hk) hs)).trans (h k hk)
theorem Kpt.trans {K : Nat → Prop} {A B C : World} (h : Kpt K A B) (k : Kpt K B C) : Kpt K A C := fun i hi => (k i hi).trans (h i hi)
set_option maxHeartbeats 1000000 in
theorem differing_in (m q : Nat) (o n : Int) (gw gn : Nat) (lw ln : Array Value) (w : World) :
    CallsIn Fence.wide m Try.prog 77 #[.agg #[.pointer (some ⟨q, 0, none⟩), .int .i64 o, .int .i64 n], .func (.func gw) #[] lw, .func (.func gn) #[] ln] w fun e w' => e = .returned (.func (.func 89) #[] #[.pointer (some ⟨w.heap.size, 0, none⟩), .pointer (some ⟨w.heap.size + 1 + 1, 0, none⟩), .pointer (some ⟨w.heap.size + 1, 0, none⟩)]) ∧ w' = ((w.alloc (.cells #[.pointer (some ⟨q, 0, none⟩), .int .i64 o, .int .i64 n] 87)).alloc (.cells #[.func (.func gw) #[] lw] 91)).alloc (.cells #[.func (.func gn) #[] ln] 91) := by
  refine callsIn_of_wp Try.func77 rfl trivial ?_ rfl
  simp only [Try.ntmps77, List.size_toArray, List.length_cons, List.length_nil, Nat.reduceAdd, Nat.reduceSub, Array.replicate_succ, Array.replicate_zero, List.push_toArray, List.append_toArray, List.nil_append, List.cons_append]
  gi_wp2
  go_ret
  exact ⟨rfl, rfl⟩
end Go.Proofs.Ytelkccfjeinlcaa
