/- What Frame does, and the document's own. -/
import Derived.Test.YtelkccfjeinlcaaG1FrmWord
import Derived.OwnWalk
namespace Go.Proofs.Ytelkccfjeinlcaa.Frm
open Go Go.RowKit
theorem bnext {w w1 w2 : World} (h : Below w.heap.size w w1) (k : Below w1.heap.size w1 w2) : Below w.heap.size w w2 := h.trans (k.mono h.size)
theorem below_drewN {B : Nat} {w u : World} (h : Below B w u) (n : Nat) : Below B w (u.drewN n) := h.trans ⟨rfl, rfl, rfl, Nat.le_refl _, fun _ _ => rfl⟩
set_option maxRecDepth 10000 in
set_option maxHeartbeats 1000000 in
theorem frame_any (s : ByteArray) (w : World) (hs : s.size ≤ 65536) :
    Calls Try.prog 47 #[.string s] w fun e w' => e = .returned (.tuple #[.string (frm s), .int .i64 0]) ∧ Below w.heap.size w w' := by
  have hz : ¬ ((65536 : Int) < (s.size : Int)) := by omega
  have hm : (s.size : Int) % 4294967296 = (s.size : Int) := by omega
  have K1 := hide (fun u => wordOf_any s.size u (by omega))
  have K2 := hide (fun u => of_any (w4 s.size ++ s) u (by rw [ByteArray.size_append, w4_size]; unfold maxLen; omega))
  have K3 := hide (fun u => wordOf_any (more 0 (bytesOf (w4 s.size ++ s))) u (more_lt (by decide) _))
  
  have HF : Hid (frm s = (w4 s.size ++ s) ++ w4 (more 0 (bytesOf (w4 s.size ++ s)))) := rfl
  have h1 : (w4 s.size).size ≤ 4 := Nat.le_refl _
  have h2 : (w4 (more 0 (bytesOf (w4 s.size ++ s)))).size ≤ 4 := Nat.le_refl _
  generalize more 0 (bytesOf (w4 s.size ++ s)) = v at *
  generalize w4 s.size = t1 at *
  generalize w4 v = t2 at *
  go_enter Try.func47, Try.ntmps47
  go_wp2_with fail
  refine (K1.out _).mono ?_
  rintro e w1 ⟨rfl, hb⟩
  have HB1 := hide hb
  clear hb
  go_wp2_with fail
  refine (K2.out _).mono ?_
  rintro e w2 ⟨rfl, hb⟩
  have HB2 := hide (bnext HB1.out hb)
  clear hb
  go_wp2_with fail
  refine (K3.out _).mono ?_
  rintro e w3 ⟨rfl, hb⟩
  have HB3 := hide (bnext HB2.out hb)
  clear hb
  go_wp2
  go_ret2
  exact ⟨by rw [HF.out]; rfl, HB3.out⟩
set_option maxHeartbeats 400000 in
theorem frame_long (s : ByteArray) (w : World) (h : 65536 < s.size) (hs : s.size ≤ maxLen) :
    Calls Try.prog 47 #[.string s] w fun e w' => e = .returned (.tuple #[.string ⟨#[]⟩, .int .i64 4]) ∧ w' = w := by
  unfold maxLen at hs
  have hz : (65536 : Int) < (s.size : Int) := by omega
  go_enter Try.func47, Try.ntmps47
  go_wp2
  go_ret2
  exact ⟨rfl, rfl⟩
set_option maxRecDepth 10000 in
set_option maxHeartbeats 1000000 in
theorem refFrame_any (s : ByteArray) (w : World) (hs : s.size ≤ 65536) :
    Calls Try.prog 59 #[.string s] w fun e w' => e = .returned (.tuple #[.string (frm s), .int .i64 0]) ∧ Below w.heap.size w w' := by
  have hz : ¬ ((65536 : Int) < (s.size : Int)) := by omega
  have hm : (s.size : Int) % 4294967296 = (s.size : Int) := by omega
  have K1 := hide (fun u => refFour_any s.size u (by omega))
  have K2 := hide (fun u => refOf_any (w4 s.size ++ s) u (by rw [ByteArray.size_append, w4_size]; unfold maxLen; omega))
  have K3 := hide (fun u => refFour_any (more 0 (bytesOf (w4 s.size ++ s))) u (more_lt (by decide) _))
  change Hid (∀ u, Calls Try.prog 81 #[.string (w4 s.size ++ s)] u fun e w1 => e = .returned (.int .u32 ((more 0 (bytesOf (w4 s.size ++ s)) : Nat) : Int)) ∧ w1 = u) at K2
  have HF : Hid (frm s = (w4 s.size ++ s) ++ w4 (more 0 (bytesOf (w4 s.size ++ s)))) := rfl
  have h1 : (w4 s.size).size ≤ 4 := Nat.le_refl _
  have h2 : (w4 (more 0 (bytesOf (w4 s.size ++ s)))).size ≤ 4 := Nat.le_refl _
  generalize more 0 (bytesOf (w4 s.size ++ s)) = v at *
  generalize w4 s.size = t1 at *
  generalize w4 v = t2 at *
  go_enter Try.func59, Try.ntmps59
  go_wp2_with fail
  refine (K1.out _).mono ?_
  rintro e w1 ⟨rfl, hb⟩
  have HB1 := hide hb
  clear hb
  go_wp2_with fail
  refine (K2.out _).mono ?_
  rintro e w2 ⟨rfl, rfl⟩
  have HB2 := HB1
  go_wp2_with fail
  refine (K3.out _).mono ?_
  rintro e w3 ⟨rfl, hb⟩
  have HB3 := hide (bnext HB2.out hb)
  clear hb
  go_wp2
  go_ret2
  exact ⟨by rw [HF.out]; rfl, HB3.out⟩
set_option maxHeartbeats 400000 in
theorem refFrame_long (s : ByteArray) (w : World) (h : 65536 < s.size) (hs : s.size ≤ maxLen) :
    Calls Try.prog 59 #[.string s] w fun e w' => e = .returned (.tuple #[.string ⟨#[]⟩, .int .i64 4]) ∧ w' = w := by
  unfold maxLen at hs
  have hz : (65536 : Int) < (s.size : Int) := by omega
  go_enter Try.func59, Try.ntmps59
  go_wp2
  go_ret2
  exact ⟨rfl, rfl⟩
end Go.Proofs.Ytelkccfjeinlcaa.Frm
