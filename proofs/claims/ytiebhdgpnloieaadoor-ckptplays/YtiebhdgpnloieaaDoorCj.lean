/- The program's checkpoints: Save, whatever is asked. -/
import Derived.Test.YtiebhdgpnloieaaDoorCi
namespace Go.Proofs.YtiebhdgpnloieaaDoor
open Go Go.RowKit Frm
theorem room_bound (n : Int) : 0 ≤ room n ∧ room n ≤ 524032 := by
  unfold room
  split
  · omega
  · omega
/-- What fault tells of a disk's blocks. -/
def faultC (st : St) (o n : Int) : Nat := if st.mayC o n then 0 else 2
/-- What fault tells of a disk's blocks. -/
theorem fault_any (q : Nat) (o n : Int) (st : St) (F : Nat → Prop) (w u : World) (hD : DAt w q st F) (hok : st.Ok) (hn : -9223372036854775808 ≤ n ∧ n ≤ 9223372036854775807) (hu : Below w.heap.size w u) :
    Calls Tryd.prog 33 #[.agg #[.pointer (some ⟨q, 0, none⟩), .int .i64 o, .int .i64 n]] u fun e v => e = .returned (.int .i64 ((faultC st o n : Nat) : Int)) ∧ Below u.heap.size u v := by
  have hF := con.lt hD
  refine fault_core (.pointer (some ⟨q, 0, none⟩)) (st.sure.length : Int) o n (room n) u (faultC st o n) (fun v hv => con.size q st F v (con.same hD (fun k hk => (hv.block k (Nat.lt_of_lt_of_le (hF k hk) hu.size)).trans (hu.block k (hF k hk)))) hok) (fun v => room_any n v hn) ?_ ?_
  · by_cases h : room n = 0
    · exact Or.inr h
    · have := room_pos h
      have := hok.few
      exact Or.inl (by unfold wrap64; omega)
  · have h1 := hok.some
    unfold faultC
    rw [if_neg (show ¬ ((st.sure.length : Int) = 0) by omega)]
    by_cases h : st.mayC o n
    · rw [if_pos h]
      unfold St.mayC at h
      rw [if_neg (by omega)]
    · rw [if_neg h]
      unfold St.mayC at h
      rw [if_pos (by omega)]
set_option maxRecDepth 10000 in
set_option maxHeartbeats 1000000 in
/-- Save tells a fault of what it is asked, and changes nothing. -/
theorem save_out (pq : Option Addr) (o n : Int) (gen : Nat) (t : ByteArray) (w : World) (c : Nat) (r : Int)
    (hF : ∀ u, Below w.heap.size w u → ∃ f : Nat, (Calls Tryd.prog 33 #[.agg #[.pointer pq, .int .i64 o, .int .i64 n]] u fun e v => e = .returned (.int .i64 (f : Int)) ∧ Below u.heap.size u v) ∧ (f = c ∧ c ≠ 0 ∨ f = 0 ∧ (¬ (1 ≤ gen ∧ gen ≤ 4611686018427387904) ∧ c = 2 ∨ (1 ≤ gen ∧ gen ≤ 4611686018427387904) ∧ r < (t.size : Int) ∧ c = 4)))
    (hR : ∀ u, Calls Tryd.prog 7 #[.int .i64 n] u fun e v => e = .returned (.int .i64 r) ∧ v = u) :
    Calls Tryd.prog 16 #[.pointer pq, .int .i64 o, .int .i64 n, .int .u64 (gen : Int), .string t] w fun e v => e = .returned (.int .i64 (c : Int)) ∧ Below w.heap.size w v := by
  obtain ⟨f, hf, hc⟩ := hF _ (one_below w (.cells #[.pointer pq, .int .i64 o, .int .i64 n] 80))
  have HF := hide hf
  have HR := hide hR
  have HM := hide (fun u => mayBe_any gen u)
  have HB := hide (one_below w (.cells #[.pointer pq, .int .i64 o, .int .i64 n] 80))
  clear hF hR hf
  rcases hc with ⟨rfl, h0⟩ | ⟨rfl, ⟨hg, rfl⟩ | ⟨hg, hr, rfl⟩⟩
  · have hz : ¬ ((f : Int) = 0) := by omega
    clear h0
    go_enter Tryd.func16, Tryd.ntmps16
    go_wp2_with (go_at_call 33; refine HF.out.mono ?_; rintro e w1 ⟨rfl, hb1⟩)
    go_ret
    exact ⟨rfl, bnext HB.out hb1⟩
  · have hd : decide (1 ≤ gen ∧ gen ≤ 4611686018427387904) = false := decide_eq_false hg
    rw [hd] at HM
    clear hd hg
    go_enter Tryd.func16, Tryd.ntmps16
    go_wp2_with (first
      | (go_at_call 33; refine HF.out.mono ?_; rintro e w1 ⟨rfl, hb1⟩)
      | (go_at_call 34; refine (HM.out _).mono ?_; rintro e w2 ⟨rfl, rfl⟩))
    go_ret
    exact ⟨rfl, bnext HB.out hb1⟩
  · have hd : decide (1 ≤ gen ∧ gen ≤ 4611686018427387904) = true := decide_eq_true hg
    rw [hd] at HM
    clear hd hg
    go_enter Tryd.func16, Tryd.ntmps16
    go_wp2_with (first
      | (go_at_call 33; refine HF.out.mono ?_; rintro e w1 ⟨rfl, hb1⟩)
      | (go_at_call 34; refine (HM.out _).mono ?_; rintro e w2 ⟨rfl, rfl⟩)
      | (go_at_call 7; refine (HR.out _).mono ?_; rintro e w2 ⟨rfl, rfl⟩))
    go_ret
    exact ⟨rfl, bnext HB.out hb1⟩
theorem pSave (q : Nat) (o n : Int) (gen : Nat) (t : ByteArray) (st : St) (F : Nat → Prop) (w : World) (hD : DAt w q st F) (hok : st.Ok) (hl : st.loose.length + 3000 ≤ 10000) (hn : -9223372036854775808 ≤ n ∧ n ≤ 9223372036854775807) (ht : t.size ≤ 100000) :
    Calls Tryd.prog 16 #[.pointer (some ⟨q, 0, none⟩), .int .i64 o, .int .i64 n, .int .u64 (gen : Int), .string t] w fun e v => e = .returned (.int .i64 (((st.save o n gen t).1 : Nat) : Int)) ∧ ∃ F', DAt v q (st.save o n gen t).2 F' ∧ Loc F F' w v := by
  have hF := con.lt hD
  have hfa := fun u hu => fault_any q o n st F w u hD hok hn hu
  have out : ∀ {c : Nat}, st.save o n gen t = (c, st) → (Calls Tryd.prog 16 #[.pointer (some ⟨q, 0, none⟩), .int .i64 o, .int .i64 n, .int .u64 (gen : Int), .string t] w fun e v => e = .returned (.int .i64 (c : Int)) ∧ Below w.heap.size w v) →
      Calls Tryd.prog 16 #[.pointer (some ⟨q, 0, none⟩), .int .i64 o, .int .i64 n, .int .u64 (gen : Int), .string t] w fun e v => e = .returned (.int .i64 (((st.save o n gen t).1 : Nat) : Int)) ∧ ∃ F', DAt v q (st.save o n gen t).2 F' ∧ Loc F F' w v := fun h hc => by
    rw [h]
    refine hc.mono ?_
    rintro e v ⟨he, hb⟩
    exact ⟨he, F, con.same hD (fun k hk => hb.block k (hF k hk)), Loc.of_below F hb⟩
  unfold faultC at hfa
  by_cases hm : st.mayC o n
  · rw [if_pos hm] at hfa
    by_cases hg : gen < 1 ∨ 4611686018427387904 < gen
    · exact out (c := 2) (by unfold St.save; rw [if_neg (fun h => h hm), if_pos hg]) (save_out _ o n gen t w 2 (room n) (fun u hu => ⟨0, hfa u hu, Or.inr ⟨rfl, Or.inl ⟨by omega, rfl⟩⟩⟩) (fun u => room_any n u hn))
    · by_cases hr : room n < (t.size : Int)
      · exact out (c := 4) (by unfold St.save; rw [if_neg (fun h => h hm), if_neg hg, if_pos hr]) (save_out _ o n gen t w 4 (room n) (fun u hu => ⟨0, hfa u hu, Or.inr ⟨rfl, Or.inr ⟨by omega, hr, rfl⟩⟩⟩) (fun u => room_any n u hn))
      · have e : st.save o n gen t = saveAt (slotAt o n gen) gen t st := by unfold St.save; rw [if_neg (fun h => h hm), if_neg hg, if_neg hr]
        rw [e]
        obtain ⟨h1, h2, h3⟩ := hm
        obtain ⟨p1, p2, p3, p4⟩ := room_pos h1
        have hfew := hok.few
        have hsl : slotAt o n gen ≤ 8192 := by
          unfold slotAt
          have : gen % 2 < 2 := Nat.mod_lt _ (by decide)
          rcases (by omega : gen % 2 = 0 ∨ gen % 2 = 1) with h | h
          · rw [h]; omega
          · rw [h]; omega
        exact save_in q (slotAt o n gen) (n.toNat / 2) o n gen t st F w (room n) hD hok hl (by omega) (by omega) ((gen % 2 : Nat) : Int) hsl ht hfa (fun u => room_any n u hn) (fun u => slotOf_any q o n gen u ⟨h2, by omega⟩ ⟨by omega, p2⟩)
  · rw [if_neg hm] at hfa
    exact out (c := 2) (by unfold St.save; rw [if_pos hm]) (save_out _ o n gen t w 2 (room n) (fun u hu => ⟨2, hfa u hu, Or.inl ⟨rfl, by decide⟩⟩) (fun u => room_any n u hn))
theorem nSave (o n : Int) (gen : Nat) (t : ByteArray) (w : World) (hn : -9223372036854775808 ≤ n ∧ n ≤ 9223372036854775807) :
    Calls Tryd.prog 16 #[.pointer none, .int .i64 o, .int .i64 n, .int .u64 (gen : Int), .string t] w fun e v => e = .returned (.int .i64 1) ∧ Below w.heap.size w v :=
  save_out _ o n gen t w 1 (room n) (fun u _ => ⟨1, fault_core (.pointer none) 0 o n (room n) u 1 (fun v _ => (nSize v).mono (by rintro e x ⟨rfl, rfl⟩; exact ⟨rfl, Below.refl _ _⟩)) (fun v => room_any n v hn) (by
    by_cases h : room n = 0
    · exact Or.inr h
    · have := room_pos h
      exact Or.inl (by unfold wrap64; omega)) (by rw [if_pos rfl]), Or.inl ⟨rfl, by decide⟩⟩) (fun u => room_any n u hn)
end Go.Proofs.YtiebhdgpnloieaaDoor
