/- The program's log: its small functions. -/
import Derived.Test.YtelkccfjeinlcaaG1Meets
import Derived.Test.YtelkccfjeinlcaaGLog
import Derived.Test.YtelkccfjeinlcaaGFrmScan
import Derived.Test.YtelkccfjeinlcaaGBuf
import Derived.Test.YtelkccfjeinlcaaG1Keep
namespace Go.Proofs.Ytelkccfjeinlcaa
open Go Go.RowKit Frm
theorem byteAt_get (d : ByteArray) (i : Nat) (h : i < d.size) : byteAt d i = some d[i] := by
  unfold byteAt
  simp [h]
  rfl
theorem count_get (d : ByteArray) (h : d.size = 256) : wrap64 ((d[255].toNat : Nat) : Int) = ((countOf d : Nat) : Int) := by
  have h1 : d[255].toNat < 256 := UInt8.toNat_lt _
  have h2 : countOf d = d[255].toNat := by unfold countOf; rw [byteAt_get d 255 (by omega)]; rfl
  rw [h2]
  unfold wrap64
  omega
set_option maxHeartbeats 400000 in
theorem count_any (d : ByteArray) (w : World) (h : d.size = 256) :
    Calls Try.prog 68 #[.string d] w fun e w' => e = .returned (.int .i64 ((countOf d : Nat) : Int)) ∧ w' = w := by
  have hz := count_get d h
  go_enter Try.func68, Try.ntmps68
  go_wp2
  go_ret
  exact ⟨congrArg (fun x => Ending.returned (.int .i64 x)) hz, rfl⟩
set_option maxHeartbeats 400000 in
theorem ends_any (d : ByteArray) (w : World) (h : d.size = 256) :
    Calls Try.prog 41 #[.string d] w fun e w' => e = .returned (.bool (decide (countOf d < 255))) ∧ w' = w := by
  have K := hide (count_any d w h)
  go_enter Try.func41, Try.ntmps41
  go_wp2_with fail
  refine K.out.mono ?_
  rintro e w1 ⟨rfl, rfl⟩
  go_wp2
  go_ret
  exact ⟨congrArg (fun x => Ending.returned (.bool x)) (decide_eq_decide.2 (by omega)), rfl⟩
set_option maxHeartbeats 400000 in
theorem never_any (d : ByteArray) (w : World) :
    Calls Try.prog 44 #[.string d] w fun e w' => e = .returned (.bool false) ∧ w' = w := by
  go_enter Try.func44, Try.ntmps44
  go_wp2
  go_ret
  exact ⟨rfl, rfl⟩
/-- What of a stream stands behind its full blocks. -/
def tailOf (s : ByteArray) : ByteArray := s.extract (s.size - s.size % 255) s.size
set_option maxHeartbeats 400000 in
theorem tail_any (s : ByteArray) (w : World) (h : s.size ≤ 281474976710656) :
    Calls Try.prog 46 #[.string s] w fun e w' => e = .returned (.string (tailOf s)) ∧ Below w.heap.size w w' := by
  have K := hide (clone_any (tailOf s) w (by unfold tailOf; rw [ByteArray.size_extract]; omega))
  unfold tailOf at *
  go_enter Try.func46, Try.ntmps46
  go_wp2_with fail
  refine K.out.mono ?_
  rintro e w1 ⟨rfl, hb⟩
  have HB := hide hb
  clear hb
  go_wp2
  go_ret
  exact ⟨rfl, HB.out⟩
set_option maxHeartbeats 400000 in
theorem blocks_any (s : ByteArray) (w : World) :
    Calls Try.prog 39 #[.string s] w fun e w' => e = .returned (.func (.func 66) #[] #[.pointer (some ⟨w.heap.size, 0, none⟩)]) ∧ w' = w.alloc (.cells #[.string s] 9) := by
  go_enter Try.func39, Try.ntmps39
  go_wp2
  go_ret
  exact ⟨rfl, rfl⟩
/-- The program's log lies at block p: its disk's head is at q; its blocks are n, from o on; its stream is s. -/
def LAt (u : World) (p q o n : Nat) (s : ByteArray) (b : Bool) : Prop :=
  u.heap[p]? = some (.cells #[.pointer (some ⟨q, 0, none⟩), .int .i64 (o : Int), .int .i64 (n : Int), .int .i64 (s.size : Int), .string (tailOf s), .bool b] 89 (0, 0))
theorem LAt.lt {u : World} {p q o n : Nat} {s : ByteArray} {b : Bool} (h : LAt u p q o n s b) : p < u.heap.size := (Array.getElem?_eq_some_iff.1 h).1
theorem LAt.same {u v : World} {p q o n : Nat} {s : ByteArray} {b : Bool} (h : LAt u p q o n s b) (hv : v.heap[p]? = u.heap[p]?) : LAt v p q o n s b := hv.trans h
theorem LAt.c0 {u : World} {p q o n : Nat} {s : ByteArray} {b : Bool} (h : LAt u p q o n s b) : u.cell? ⟨p, 0, none⟩ = some (.pointer (some ⟨q, 0, none⟩)) := by simp [World.cell?, show u.heap[p]? = _ from h]
theorem LAt.c1 {u : World} {p q o n : Nat} {s : ByteArray} {b : Bool} (h : LAt u p q o n s b) : u.cell? ⟨p, 1, none⟩ = some (.int .i64 (o : Int)) := by simp [World.cell?, show u.heap[p]? = _ from h]
theorem LAt.c2 {u : World} {p q o n : Nat} {s : ByteArray} {b : Bool} (h : LAt u p q o n s b) : u.cell? ⟨p, 2, none⟩ = some (.int .i64 (n : Int)) := by simp [World.cell?, show u.heap[p]? = _ from h]
theorem LAt.c3 {u : World} {p q o n : Nat} {s : ByteArray} {b : Bool} (h : LAt u p q o n s b) : u.cell? ⟨p, 3, none⟩ = some (.int .i64 (s.size : Int)) := by simp [World.cell?, show u.heap[p]? = _ from h]
theorem LAt.c4 {u : World} {p q o n : Nat} {s : ByteArray} {b : Bool} (h : LAt u p q o n s b) : u.cell? ⟨p, 4, none⟩ = some (.string (tailOf s)) := by simp [World.cell?, show u.heap[p]? = _ from h]
theorem LAt.c5 {u : World} {p q o n : Nat} {s : ByteArray} {b : Bool} (h : LAt u p q o n s b) : u.cell? ⟨p, 5, none⟩ = some (.bool b) := by simp [World.cell?, show u.heap[p]? = _ from h]
theorem LAt.free {u : World} {p q o n : Nat} {s : ByteArray} {b : Bool} (h : LAt u p q o n s b) (i : Nat) : u.frozen? ⟨p, i, none⟩ = false := by simp [World.frozen?, show u.heap[p]? = _ from h]
set_option maxHeartbeats 400000 in
theorem len_any (p q o n : Nat) (s : ByteArray) (b : Bool) (w : World) (h : LAt w p q o n s b) :
    Calls Try.prog 16 #[.pointer (some ⟨p, 0, none⟩)] w fun e w' => e = .returned (.int .i64 (s.size : Int)) ∧ w' = w := by
  have h3 := h.c3
  clear h
  go_enter Try.func16, Try.ntmps16
  go_wp2
  go_ret
  exact ⟨rfl, rfl⟩
set_option maxHeartbeats 400000 in
theorem len_nil (w : World) : Calls Try.prog 16 #[.pointer none] w fun e w' => e = .returned (.int .i64 0) ∧ w' = w := by
  go_enter Try.func16, Try.ntmps16
  go_wp2
  go_ret
  exact ⟨rfl, rfl⟩
theorem room_wrap {n m : Nat} (hn : n ≤ 4096) (hm : m ≤ n * 255) : wrap64 ((n : Int) * 255) = (n : Int) * 255 ∧ wrap64 ((n : Int) * 255 - (m : Int)) = (n : Int) * 255 - (m : Int) := by
  unfold wrap64
  omega
set_option maxHeartbeats 400000 in
theorem room_any (p q o n : Nat) (s : ByteArray) (b : Bool) (w : World) (h : LAt w p q o n s b) (hn : n ≤ 4096) (hs : s.size ≤ n * 255) :
    Calls Try.prog 17 #[.pointer (some ⟨p, 0, none⟩)] w fun e w' => e = .returned (.int .i64 ((n : Int) * 255 - (s.size : Int))) ∧ ∃ q, w' = w.drewN q := by
  have h2 := h.c2
  have h3 := h.c3
  obtain ⟨hz1, hz2⟩ := room_wrap hn hs
  have HS := hide hs
  have HN := hide hn
  clear h hs hn
  go_enter Try.func17, Try.ntmps17
  go_wp2_with fail
  go_quiet (fail)
  go_wp2
  go_ret
  exact ⟨congrArg (fun x => Ending.returned (.int .i64 x)) hz2, _, rfl⟩
set_option maxHeartbeats 400000 in
theorem room_nil (w : World) : Calls Try.prog 17 #[.pointer none] w fun e w' => e = .returned (.int .i64 0) ∧ w' = w := by
  go_enter Try.func17, Try.ntmps17
  go_wp2
  go_ret
  exact ⟨rfl, rfl⟩
set_option maxHeartbeats 400000 in
theorem fault_any (q : Nat) (o n : Int) (st : St) (F : Nat → Prop) (w : World) (h : DAt w q st F) (hok : st.Ok) (hn : -9223372036854775808 ≤ n ∧ n ≤ 9223372036854775807) :
    Calls Try.prog 38 #[.agg #[.pointer (some ⟨q, 0, none⟩), .int .i64 o, .int .i64 n]] w fun e w' => e = .returned (.int .i64 (if st.may o n then 0 else 2)) ∧ Below w.heap.size w w' := by
  have hl1 := hok.some
  have hl2 := hok.few
  have HB0 := hide ((Below.refl w.heap.size w).alloc (Nat.le_refl _) (.cells #[.pointer (some ⟨q, 0, none⟩), .int .i64 o, .int .i64 n] 87))
  have K := hide (con.size q st F _ (con.below h HB0.out) hok)
  have hsz : w.heap.size < (w.alloc (.cells #[.pointer (some ⟨q, 0, none⟩), .int .i64 o, .int .i64 n] 87)).heap.size := by simp
  have hcell : ∀ w1, Below (w.alloc (.cells #[.pointer (some ⟨q, 0, none⟩), .int .i64 o, .int .i64 n] 87)).heap.size (w.alloc (.cells #[.pointer (some ⟨q, 0, none⟩), .int .i64 o, .int .i64 n] 87)) w1 → w1.cell? ⟨w.heap.size, 1, none⟩ = some (.int .i64 o) ∧ w1.cell? ⟨w.heap.size, 2, none⟩ = some (.int .i64 n) := fun w1 hb => by
    have hh : w1.heap[w.heap.size]? = some (.cells #[.pointer (some ⟨q, 0, none⟩), .int .i64 o, .int .i64 n] 87 (0, 0)) := (hb.block _ hsz).trans (World.alloc_heap_new w _)
    exact ⟨by simp [World.cell?, hh], by simp [World.cell?, hh]⟩
  have HC := hide hcell
  clear hcell
  have hne : ¬ ((st.sure.length : Int) = 0) := by omega
  have HO := hide (And.intro h hok)
  clear h hok
  generalize hm : (if st.may o n then (0 : Int) else 2) = r
  have HM := hide hm
  clear hm
  go_enter Try.func38, Try.ntmps38
  go_wp2_with fail
  refine K.out.mono ?_
  rintro e w1 ⟨rfl, hb⟩
  have HB := hide (HB0.out.trans (hb.mono (by simp)))
  obtain ⟨hc1, hc2⟩ := HC.out w1 hb
  clear hb
  have HL := hide (And.intro hl1 hl2)
  by_cases h1 : n < 1
  · have hM : r = 2 := by rw [← HM.out, if_neg (fun h => by unfold St.may at h; omega)]
    subst hM
    clear hl1 hl2
    go_wp2
    go_ret
    exact ⟨rfl, HB.out⟩
  · by_cases h2 : o < 0
    · have hM : r = 2 := by rw [← HM.out, if_neg (fun h => by unfold St.may at h; omega)]
      subst hM
      clear hl1 hl2
      go_wp2
      go_ret
      exact ⟨rfl, HB.out⟩
    · have hz : wrap64 ((st.sure.length : Int) - n) = (st.sure.length : Int) - n := by unfold wrap64; omega
      by_cases h3 : (st.sure.length : Int) - n < o
      · have hM : r = 2 := by rw [← HM.out, if_neg (fun h => by unfold St.may at h; omega)]
        subst hM
        clear hl1 hl2
        go_wp2
        go_ret
        exact ⟨rfl, HB.out⟩
      · have hM : r = 0 := by rw [← HM.out, if_pos (by unfold St.may; omega)]
        subst hM
        clear hl1 hl2
        go_wp2
        go_ret
        exact ⟨rfl, HB.out⟩
set_option maxHeartbeats 400000 in
theorem fault_nil (o n : Int) (w : World) :
    Calls Try.prog 38 #[.agg #[.pointer none, .int .i64 o, .int .i64 n]] w fun e w' => e = .returned (.int .i64 1) ∧ Below w.heap.size w w' := by
  have HB0 := hide ((Below.refl w.heap.size w).alloc (Nat.le_refl _) (.cells #[.pointer none, .int .i64 o, .int .i64 n] 87))
  have K := hide (con.nsize (w.alloc (.cells #[.pointer none, .int .i64 o, .int .i64 n] 87)))
  go_enter Try.func38, Try.ntmps38
  go_wp2_with fail
  refine K.out.mono ?_
  rintro e w1 ⟨rfl, hb⟩
  have HB := hide (HB0.out.trans (hb.mono (by simp)))
  clear hb
  go_wp2
  go_ret
  exact ⟨rfl, HB.out⟩
end Go.Proofs.Ytelkccfjeinlcaa
