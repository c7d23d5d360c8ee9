/- The program's log: touched. -/
import Derived.Test.YtelkccfjeinlcaaG1Small
namespace Go.Proofs.Ytelkccfjeinlcaa
open Go Go.RowKit Frm
theorem touch_nums {o m k : Nat} (ho : o ≤ 4096) (hm : m ≤ 1048576) (hk : k ≤ 1048576) : wrap64 ((o : Int) + ((m / 255 : Nat) : Int)) = ((o + m / 255 : Nat) : Int) ∧ wrap64 ((k : Int) + 255) = (k : Int) + 255 ∧ wrap64 ((k : Int) + 255 - 1) = (k : Int) + 255 - 1 ∧ wrap64 (((k : Int) + 255 - 1).tdiv 255) = (((k + 254) / 255 : Nat) : Int) := by
  have h : ((k : Int) + 255 - 1).tdiv 255 = (((k + 254) / 255 : Nat) : Int) := by
    rw [Int.tdiv_eq_ediv_of_nonneg (by omega)]; omega
  rw [h]
  unfold wrap64
  omega
theorem touch_wrap {o m k : Nat} (ho : o ≤ 4096) (hm : m ≤ 1048576) (hk : k ≤ 1048576) : IntKind.i64.wrap ((o : Int) + (m : Int) / 255) = ((o + m / 255 : Nat) : Int) ∧ IntKind.i64.wrap ((IntKind.i64.wrap (IntKind.i64.wrap ((k : Int) + 255) - 1)).tdiv 255) = (((k + 254) / 255 : Nat) : Int) := by
  rw [IntKind.wrap_i64, IntKind.wrap_i64, IntKind.wrap_i64, IntKind.wrap_i64]
  have e1 : ((k : Int) + 255 + 9223372036854775808) % 18446744073709551616 - 9223372036854775808 = (k : Int) + 255 := by omega
  rw [e1]
  have e2 : ((k : Int) + 255 - 1 + 9223372036854775808) % 18446744073709551616 - 9223372036854775808 = (k : Int) + 254 := by omega
  rw [e2]
  have h : ((k : Int) + 254).tdiv 255 = (((k + 254) / 255 : Nat) : Int) := by
    rw [Int.tdiv_eq_ediv_of_nonneg (by omega)]; omega
  rw [h]
  omega
theorem Kp.fresh {w : World} {A B : Array Value} {t : TypeId} {k : Nat} (hB : k ≤ B.size) : Kp w.heap.size k (w.alloc (.cells A t)) (w.alloc (.cells B t)).drew :=
  ⟨fun b o hb => (World.cell?_of_block (a := ⟨b, o, none⟩) (Below.heap_alloc w _ b hb)).trans (World.cell?_of_block (a := ⟨b, o, none⟩) (Below.heap_alloc w _ b hb)).symm,
    fun b o hb => by
      by_cases e : b < w.heap.size
      · exact (World.frozen?_of_block (a := ⟨b, o, none⟩) (Below.heap_alloc w _ b e)).trans (World.frozen?_of_block (a := ⟨b, o, none⟩) (Below.heap_alloc w _ b e)).symm
      · have hb' : b = w.heap.size := by omega
        subst hb'
        have h1 : (w.alloc (.cells A t)).heap[w.heap.size]? = some (.cells A t) := World.alloc_heap_new w _
        have h2 : (w.alloc (.cells B t)).drew.heap[w.heap.size]? = some (.cells B t) := World.alloc_heap_new w _
        rw [free_of h1, free_of h2],
    fun o ho => by
      obtain ⟨v, hv⟩ := new_cells w B t rfl o (by omega)
      exact tv_some (v := v) hv,
    by show w.heap.size + 1 ≤ (w.alloc (.cells B t)).heap.size; simp,
    ⟨rfl, rfl, rfl, by show (w.alloc (.cells A t)).heap.size ≤ (w.alloc (.cells B t)).heap.size; simp, fun j hj => (Below.heap_alloc w _ j hj).trans (Below.heap_alloc w _ j hj).symm⟩⟩
theorem below_fresh (w : World) (A : Array Value) (t : TypeId) : Below w.heap.size w (w.alloc (.cells A t)).drew := ((Below.refl _ _).alloc (Nat.le_refl _) _).drew
theorem areaS {w u : World} {p : Nat} {v0 v1 : Value} (hp : p < w.heap.size) (h0 : w.cell? ⟨p, 0, none⟩ = some v0) (h1 : w.cell? ⟨p, 1, none⟩ = some v1) (hk : Kp w.heap.size 3 (w.alloc (.cells #[.pointer none, .int .i64 0, .int .i64 0] 87)) u) :
    u.cell? ⟨p, 0, none⟩ = some v0 ∧ u.cell? ⟨p, 1, none⟩ = some v1 ∧ u.cell? ⟨w.heap.size, 0, none⟩ = some (tv u w.heap.size 0) ∧ u.cell? ⟨w.heap.size, 1, none⟩ = some (tv u w.heap.size 1) ∧ u.cell? ⟨w.heap.size, 2, none⟩ = some (tv u w.heap.size 2) ∧
    u.frozen? ⟨w.heap.size, 0, none⟩ = false ∧ u.frozen? ⟨w.heap.size, 1, none⟩ = false ∧ u.frozen? ⟨w.heap.size, 2, none⟩ = false ∧ Kp w.heap.size 3 (w.alloc (.cells #[.pointer none, .int .i64 0, .int .i64 0] 87)) u :=
  ⟨(hk.1 _ _ hp).trans ((World.cell?_of_block (a := ⟨p, 0, none⟩) (Below.heap_alloc w _ p hp)).trans h0), (hk.1 _ _ hp).trans ((World.cell?_of_block (a := ⟨p, 1, none⟩) (Below.heap_alloc w _ p hp)).trans h1), hk.2.2.1 _ (by decide), hk.2.2.1 _ (by decide), hk.2.2.1 _ (by decide),
    (hk.2.1 _ _ (by omega)).trans (by simp [go_sem]), (hk.2.1 _ _ (by omega)).trans (by simp [go_sem]), (hk.2.1 _ _ (by omega)).trans (by simp [go_sem]), hk⟩
set_option maxHeartbeats 1000000 in
theorem touched_any (p q o n : Nat) (s t : ByteArray) (b : Bool) (w : World) (h : LAt w p q o n s b) (ho : o ≤ 4096) (hs : s.size ≤ 1048576) (ht : t.size ≤ 1048576) :
    Calls Try.prog 48 #[.pointer (some ⟨p, 0, none⟩), .string t] w fun e w' => e = .returned (.agg #[.pointer (some ⟨q, 0, none⟩), .int .i64 ((o + s.size / 255 : Nat) : Int), .int .i64 (((t.size + 254) / 255 : Nat) : Int)]) ∧ Below w.heap.size w w' := by
  have h' := h.same (v := w.alloc (.cells #[.pointer none, .int .i64 0, .int .i64 0] 87)) (Below.heap_alloc w _ p h.lt)
  have h3 := h'.c3
  have HP := hide h.lt
  have H0 := hide h.c0
  have H1 := hide h.c1
  obtain ⟨hz1, hz2, hz3, hz4⟩ := touch_nums ho hs ht
  have hz5 : wrap64 ((s.size : Int) / 255) = ((s.size / 255 : Nat) : Int) := by unfold wrap64; omega
  have HS := hide hs
  have HN := hide ho
  have HT := hide ht
  have HZ2 : Hid (IntKind.i64.wrap ((o : Int) + (s.size : Int) / 255) = ((o + s.size / 255 : Nat) : Int) ∧ IntKind.i64.wrap ((IntKind.i64.wrap (IntKind.i64.wrap ((t.size : Int) + 255) - 1)).tdiv 255) = (((t.size + 254) / 255 : Nat) : Int)) := by
    exact touch_wrap ho hs ht
  clear h hs ho ht h'
  go_enter Try.func48, Try.ntmps48
  go_wp2_with fail
  rw [hz5]
  clear h3 hz1 hz4
  go_region_held3 (fun z => z.cell? ⟨p, 0, none⟩ = some (.pointer (some ⟨q, 0, none⟩)) ∧ z.cell? ⟨p, 1, none⟩ = some (.int .i64 (o : Int)) ∧ z.cell? ⟨w.heap.size, 0, none⟩ = some (tv z w.heap.size 0) ∧ z.cell? ⟨w.heap.size, 1, none⟩ = some (tv z w.heap.size 1) ∧ z.cell? ⟨w.heap.size, 2, none⟩ = some (tv z w.heap.size 2) ∧
    z.frozen? ⟨w.heap.size, 0, none⟩ = false ∧ z.frozen? ⟨w.heap.size, 1, none⟩ = false ∧ z.frozen? ⟨w.heap.size, 2, none⟩ = false ∧ Kp w.heap.size 3 (w.alloc (.cells #[.pointer none, .int .i64 0, .int .i64 0] 87)) z)
    (((with_reducible refine areaS HP.out H0.out H1.out ?_); first | ((with_reducible refine Kp.set ?_ _ _); (repeat (with_reducible refine Kp.set ?_ _ _)); go_split_ands; with_reducible assumption) | (with_reducible exact Kp.begin (by simp) (by simp)) | (with_reducible exact Kp.fresh (by simp))))
    (fail)
  go_split_ands
  go_wp2
  exact bodyPost_ret (v := .agg #[.pointer (some ⟨q, 0, none⟩), .int .i64 (IntKind.i64.wrap ((o : Int) + (s.size : Int) / 255)), .int .i64 (IntKind.i64.wrap ((IntKind.i64.wrap (IntKind.i64.wrap ((t.size : Int) + 255) - 1)).tdiv 255))]) (by simp [results, Try.results48, go_sem]) rfl ⟨by rw [HZ2.out.1, HZ2.out.2], below_fresh w _ _⟩
end Go.Proofs.Ytelkccfjeinlcaa
