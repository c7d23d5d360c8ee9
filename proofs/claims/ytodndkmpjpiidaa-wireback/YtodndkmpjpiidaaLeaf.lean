/- The program's own reader: its leaves. -/
import Derived.Test.YtodndkmpjpiidaaCon
namespace Go.Proofs.Ytodndkmpjpiidaa
open Go Go.RowKit

/-- The program's reader lies at block p. -/
def WAt (w : World) (p : Nat) (st : St) : Prop :=
  w.cell? ⟨p, 0, none⟩ = some (.bool true) ∧ w.cell? ⟨p, 1, none⟩ = some (.string st.s) ∧ w.cell? ⟨p, 2, none⟩ = some (.int .i64 (st.e : Int)) ∧ w.frozen? ⟨p, 1, none⟩ = false ∧ w.frozen? ⟨p, 2, none⟩ = false ∧ st.e ≠ 1
theorem WAt.frame {u u' : World} {p : Nat} {st : St} (h : WAt u p st) (hb : u'.heap[p]? = u.heap[p]?) : WAt u' p st :=
  ⟨(World.cell?_of_block (w := u) hb).trans h.1, (World.cell?_of_block (w := u) hb).trans h.2.1, (World.cell?_of_block (w := u) hb).trans h.2.2.1, (World.frozen?_of_block (w := u) hb).trans h.2.2.2.1, (World.frozen?_of_block (w := u) hb).trans h.2.2.2.2.1, h.2.2.2.2.2⟩
theorem WAt.lt {u : World} {p : Nat} {st : St} (h : WAt u p st) : p < u.heap.size := World.block_lt_of_cell? u _ h.1
theorem WAt.bad {w : World} {p : Nat} {st : St} (h : WAt w p st) (e : Nat) (he : e ≠ 1) : WAt (w.setCell ⟨p, 2, none⟩ (.int .i64 (e : Int))) p (st.bad e) :=
  ⟨by rw [World.cell?_setCell_other w ⟨p, 2, none⟩ ⟨p, 0, none⟩ _ (fun h => by cases h)]; exact h.1, by rw [World.cell?_setCell_other w ⟨p, 2, none⟩ ⟨p, 1, none⟩ _ (fun h => by cases h)]; exact h.2.1, World.cell?_setCell_same _ _ _ h.2.2.1,
    by rw [World.frozen?_setCell]; exact h.2.2.2.1, by rw [World.frozen?_setCell]; exact h.2.2.2.2.1, he⟩
theorem WAt.less {w : World} {p : Nat} {st : St} (h : WAt w p st) (n : Nat) : WAt (w.setCell ⟨p, 1, none⟩ (.string (st.s.extract n st.s.size))) p (st.less n) :=
  ⟨by rw [World.cell?_setCell_other w ⟨p, 1, none⟩ ⟨p, 0, none⟩ _ (fun h => by cases h)]; exact h.1, World.cell?_setCell_same _ _ _ h.2.1, by rw [World.cell?_setCell_other w ⟨p, 1, none⟩ ⟨p, 2, none⟩ _ (fun h => by cases h)]; exact h.2.2.1,
    by rw [World.frozen?_setCell]; exact h.2.2.2.1, by rw [World.frozen?_setCell]; exact h.2.2.2.2.1, h.2.2.2.2.2⟩

set_option maxHeartbeats 400000 in
theorem wNew_any (s : ByteArray) (w : World) : Calls Try.prog 16 #[.string s] w fun r w' => ∃ p, r = .returned (.pointer (some ⟨p, 0, none⟩)) ∧ w.heap.size ≤ p ∧ WAt w' p ⟨s, 0⟩ ∧ Below w.heap.size w w' := by
  go_enter Try.func16, Try.ntmps16
  go_wp2
  go_ret
  refine ⟨w.heap.size, rfl, Nat.le_refl _, ⟨?_, ?_, ?_, ?_, ?_, Nat.zero_ne_one⟩, (Below.refl _ _).alloc (Nat.le_refl _) _⟩ <;> simp [go_sem]

set_option maxHeartbeats 400000 in
theorem wErr_any (p : Nat) (st : St) (w : World) (h : WAt w p st) : Calls Try.prog 19 #[.pointer (some ⟨p, 0, none⟩)] w fun r w' => r = .returned (.int .i64 (st.e : Int)) ∧ w' = w := by
  obtain ⟨h0, h1, h2, f1, f2, he⟩ := h
  go_enter Try.func19, Try.ntmps19
  go_wp2
  go_ret
  exact ⟨rfl, rfl⟩
set_option maxHeartbeats 400000 in
theorem nErr_any (w : World) : Calls Try.prog 19 #[.pointer none] w fun r w' => r = .returned (.int .i64 1) ∧ w' = w := by
  go_enter Try.func19, Try.ntmps19
  go_wp2
  go_ret
  exact ⟨rfl, rfl⟩
set_option maxHeartbeats 400000 in
theorem wLeft_any (p : Nat) (st : St) (w : World) (h : WAt w p st) : Calls Try.prog 18 #[.pointer (some ⟨p, 0, none⟩)] w fun r w' => r = .returned (.int .i64 (st.s.size : Int)) ∧ w' = w := by
  have HE := hide (wErr_any p st w h)
  obtain ⟨h0, h1, h2, f1, f2, he⟩ := h
  have he' : ¬ ((st.e : Int) = 1) := by omega
  go_enter Try.func18, Try.ntmps18
  go_wp2_with fail
  refine HE.out.mono ?_
  rintro e w1 ⟨rfl, rfl⟩
  go_wp2
  go_ret
  exact ⟨rfl, rfl⟩
set_option maxHeartbeats 400000 in
theorem nLeft_any (w : World) : Calls Try.prog 18 #[.pointer none] w fun r w' => r = .returned (.int .i64 0) ∧ w' = w := by
  go_enter Try.func18, Try.ntmps18
  go_wp2_with fail
  refine (nErr_any w).mono ?_
  rintro e w1 ⟨rfl, rfl⟩
  go_wp2
  go_ret
  exact ⟨rfl, rfl⟩
/-- What may still be read. -/
def St.front (st : St) : ByteArray := if st.e = 0 then st.s else { data := #[] }
set_option maxHeartbeats 400000 in
theorem wFront_any (p : Nat) (st : St) (w : World) (h : WAt w p st) : Calls Try.prog 36 #[.pointer (some ⟨p, 0, none⟩)] w fun r w' => r = .returned (.string st.front) ∧ w' = w := by
  have HE := hide (wErr_any p st w h)
  obtain ⟨h0, h1, h2, f1, f2, he⟩ := h
  unfold St.front
  by_cases hz : st.e = 0
  · rw [if_pos hz]
    have hz' : (st.e : Int) = 0 := by omega
    clear hz he
    go_enter Try.func36, Try.ntmps36
    go_wp2_with fail
    refine HE.out.mono ?_
    rintro e w1 ⟨rfl, rfl⟩
    go_wp2
    go_ret
    exact ⟨rfl, rfl⟩
  · rw [if_neg hz]
    have hz' : ¬ ((st.e : Int) = 0) := by omega
    clear hz he
    go_enter Try.func36, Try.ntmps36
    go_wp2_with fail
    refine HE.out.mono ?_
    rintro e w1 ⟨rfl, rfl⟩
    go_wp2
    go_ret
    exact ⟨rfl, rfl⟩
set_option maxHeartbeats 400000 in
theorem nFront_any (w : World) : Calls Try.prog 36 #[.pointer none] w fun r w' => r = .returned (.string { data := #[] }) ∧ w' = w := by
  go_enter Try.func36, Try.ntmps36
  go_wp2_with fail
  refine (nErr_any w).mono ?_
  rintro e w1 ⟨rfl, rfl⟩
  go_wp2
  go_ret
  exact ⟨rfl, rfl⟩

/-- What keep makes of a reader, and whether it took. -/
def St.keep (st : St) (n f : Nat) : Bool × St :=
  if st.e ≠ 0 then (false, st)
  else if f ≠ 0 then (false, st.bad f)
  else (true, st.less n)
set_option maxRecDepth 10000 in
set_option maxHeartbeats 1000000 in
theorem wKeep_any (p n f : Nat) (st : St) (w : World) (h : WAt w p st) (hn : n ≤ st.s.size) (hf : f ≠ 1) :
    Calls Try.prog 34 #[.pointer (some ⟨p, 0, none⟩), .int .i64 (n : Int), .int .i64 (f : Int)] w fun r w' => r = .returned (.bool (st.keep n f).1) ∧ WAt w' p (st.keep n f).2 ∧ But p w w' := by
  have HE := hide (wErr_any p st w h)
  have H := hide h
  obtain ⟨h0, h1, h2, f1, f2, he⟩ := h
  unfold St.keep
  by_cases hz : st.e = 0
  · rw [if_neg (by simp [hz])]
    have hz' : (st.e : Int) = 0 := by omega
    clear he
    by_cases hf0 : f = 0
    · rw [if_neg (by simp [hf0])]
      have HB : Hid (WAt (w.setCell ⟨p, 2, none⟩ (.int .i64 (0 : Int))) p (st.bad 0)) := H.out.bad 0 (by decide)
      have HL := hide (HB.out.less n)
      have hsb : st.bad 0 = st := by unfold St.bad; rw [← hz]
      rw [hsb] at HL
      subst hf0
      have hn' : (n : Int) ≤ (st.s.size : Int) := by omega
      clear hsb hz
      go_enter Try.func34, Try.ntmps34
      go_wp2_with fail
      refine HE.out.mono ?_
      rintro e w1 ⟨rfl, rfl⟩
      go_wp2
      go_ret
      exact ⟨rfl, HL.out, (But.set _ _ _ _).trans (But.set _ _ _ _)⟩
    · rw [if_pos (by simpa using hf0)]
      have hf' : ¬ ((f : Int) = 0) := by omega
      have HB := hide (H.out.bad f hf)
      clear hz hf0
      go_enter Try.func34, Try.ntmps34
      go_wp2_with fail
      refine HE.out.mono ?_
      rintro e w1 ⟨rfl, rfl⟩
      go_wp2
      go_ret
      exact ⟨rfl, HB.out, But.set _ _ _ _⟩
  · rw [if_pos (by simpa using hz)]
    have hz' : ¬ ((st.e : Int) = 0) := by omega
    clear hz he
    go_enter Try.func34, Try.ntmps34
    go_wp2_with fail
    refine HE.out.mono ?_
    rintro e w1 ⟨rfl, rfl⟩
    go_wp2
    go_ret
    exact ⟨rfl, H.out, But.refl _ _⟩
set_option maxHeartbeats 400000 in
theorem nKeep_any (n f : Int) (w : World) : Calls Try.prog 34 #[.pointer none, .int .i64 n, .int .i64 f] w fun r w' => r = .returned (.bool false) ∧ w' = w := by
  go_enter Try.func34, Try.ntmps34
  go_wp2_with fail
  refine (nErr_any w).mono ?_
  rintro e w1 ⟨rfl, rfl⟩
  go_wp2
  go_ret
  exact ⟨rfl, rfl⟩
set_option maxHeartbeats 1000000 in
theorem hand_u64_true (v : Value) (x : Int) (n f : Int) (w : World) (Q : World → Prop) (h : Calls Try.prog 34 #[v, .int .i64 n, .int .i64 f] w fun r w' => r = .returned (.bool true) ∧ Q w') :
    Calls Try.prog 37 #[.func (.func 34) #[v] #[], .int .u64 x, .int .i64 n, .int .i64 f] w fun r w' => r = .returned (.int .u64 x) ∧ Q w' := by
  have H := hide h
  clear h
  go_enter Try.func37, Try.ntmps37
  go_wp2_with fail
  refine H.out.mono ?_
  rintro e w1 ⟨rfl, hq⟩
  have HQ := hide hq
  clear hq
  go_wp2
  go_ret
  exact ⟨rfl, HQ.out⟩
set_option maxHeartbeats 1000000 in
theorem hand_u64_false (v : Value) (x : Int) (n f : Int) (w : World) (Q : World → Prop) (h : Calls Try.prog 34 #[v, .int .i64 n, .int .i64 f] w fun r w' => r = .returned (.bool false) ∧ Q w') :
    Calls Try.prog 37 #[.func (.func 34) #[v] #[], .int .u64 x, .int .i64 n, .int .i64 f] w fun r w' => r = .returned (.int .u64 0) ∧ Q w' := by
  have H := hide h
  clear h
  go_enter Try.func37, Try.ntmps37
  go_wp2_with fail
  refine H.out.mono ?_
  rintro e w1 ⟨rfl, hq⟩
  have HQ := hide hq
  clear hq
  go_wp2
  go_ret
  exact ⟨rfl, HQ.out⟩
set_option maxHeartbeats 1000000 in
theorem hand_i64_true (v : Value) (x : Int) (n f : Int) (w : World) (Q : World → Prop) (h : Calls Try.prog 34 #[v, .int .i64 n, .int .i64 f] w fun r w' => r = .returned (.bool true) ∧ Q w') :
    Calls Try.prog 39 #[.func (.func 34) #[v] #[], .int .i64 x, .int .i64 n, .int .i64 f] w fun r w' => r = .returned (.int .i64 x) ∧ Q w' := by
  have H := hide h
  clear h
  go_enter Try.func39, Try.ntmps39
  go_wp2_with fail
  refine H.out.mono ?_
  rintro e w1 ⟨rfl, hq⟩
  have HQ := hide hq
  clear hq
  go_wp2
  go_ret
  exact ⟨rfl, HQ.out⟩
set_option maxHeartbeats 1000000 in
theorem hand_i64_false (v : Value) (x : Int) (n f : Int) (w : World) (Q : World → Prop) (h : Calls Try.prog 34 #[v, .int .i64 n, .int .i64 f] w fun r w' => r = .returned (.bool false) ∧ Q w') :
    Calls Try.prog 39 #[.func (.func 34) #[v] #[], .int .i64 x, .int .i64 n, .int .i64 f] w fun r w' => r = .returned (.int .i64 0) ∧ Q w' := by
  have H := hide h
  clear h
  go_enter Try.func39, Try.ntmps39
  go_wp2_with fail
  refine H.out.mono ?_
  rintro e w1 ⟨rfl, hq⟩
  have HQ := hide hq
  clear hq
  go_wp2
  go_ret
  exact ⟨rfl, HQ.out⟩
set_option maxHeartbeats 1000000 in
theorem hand_str_true (v : Value) (x : ByteArray) (n f : Int) (w : World) (Q : World → Prop) (h : Calls Try.prog 34 #[v, .int .i64 n, .int .i64 f] w fun r w' => r = .returned (.bool true) ∧ Q w') :
    Calls Try.prog 42 #[.func (.func 34) #[v] #[], .string x, .int .i64 n, .int .i64 f] w fun r w' => r = .returned (.string x) ∧ Q w' := by
  have H := hide h
  clear h
  go_enter Try.func42, Try.ntmps42
  go_wp2_with fail
  refine H.out.mono ?_
  rintro e w1 ⟨rfl, hq⟩
  have HQ := hide hq
  clear hq
  go_wp2
  go_ret
  exact ⟨rfl, HQ.out⟩
set_option maxHeartbeats 1000000 in
theorem hand_str_false (v : Value) (x : ByteArray) (n f : Int) (w : World) (Q : World → Prop) (h : Calls Try.prog 34 #[v, .int .i64 n, .int .i64 f] w fun r w' => r = .returned (.bool false) ∧ Q w') :
    Calls Try.prog 42 #[.func (.func 34) #[v] #[], .string x, .int .i64 n, .int .i64 f] w fun r w' => r = .returned (.string { data := #[] }) ∧ Q w' := by
  have H := hide h
  clear h
  go_enter Try.func42, Try.ntmps42
  go_wp2_with fail
  refine H.out.mono ?_
  rintro e w1 ⟨rfl, hq⟩
  have HQ := hide hq
  clear hq
  go_wp2
  go_ret
  exact ⟨rfl, HQ.out⟩
set_option maxHeartbeats 1000000 in
theorem hand_int_true (v : Value) (x : Int) (n f : Int) (w : World) (Q : World → Prop) (h : Calls Try.prog 34 #[v, .int .i64 n, .int .i64 f] w fun r w' => r = .returned (.bool true) ∧ Q w') :
    Calls Try.prog 43 #[.func (.func 34) #[v] #[], .int .i64 x, .int .i64 n, .int .i64 f] w fun r w' => r = .returned (.int .i64 x) ∧ Q w' := by
  have H := hide h
  clear h
  go_enter Try.func43, Try.ntmps43
  go_wp2_with fail
  refine H.out.mono ?_
  rintro e w1 ⟨rfl, hq⟩
  have HQ := hide hq
  clear hq
  go_wp2
  go_ret
  exact ⟨rfl, HQ.out⟩
set_option maxHeartbeats 1000000 in
theorem hand_int_false (v : Value) (x : Int) (n f : Int) (w : World) (Q : World → Prop) (h : Calls Try.prog 34 #[v, .int .i64 n, .int .i64 f] w fun r w' => r = .returned (.bool false) ∧ Q w') :
    Calls Try.prog 43 #[.func (.func 34) #[v] #[], .int .i64 x, .int .i64 n, .int .i64 f] w fun r w' => r = .returned (.int .i64 0) ∧ Q w' := by
  have H := hide h
  clear h
  go_enter Try.func43, Try.ntmps43
  go_wp2_with fail
  refine H.out.mono ?_
  rintro e w1 ⟨rfl, hq⟩
  have HQ := hide hq
  clear hq
  go_wp2
  go_ret
  exact ⟨rfl, HQ.out⟩
set_option maxHeartbeats 1000000 in
theorem hand_bool_true (v : Value) (x : Bool) (n f : Int) (w : World) (Q : World → Prop) (h : Calls Try.prog 34 #[v, .int .i64 n, .int .i64 f] w fun r w' => r = .returned (.bool true) ∧ Q w') :
    Calls Try.prog 44 #[.func (.func 34) #[v] #[], .bool x, .int .i64 n, .int .i64 f] w fun r w' => r = .returned (.bool x) ∧ Q w' := by
  have H := hide h
  clear h
  go_enter Try.func44, Try.ntmps44
  go_wp2_with fail
  refine H.out.mono ?_
  rintro e w1 ⟨rfl, hq⟩
  have HQ := hide hq
  clear hq
  go_wp2
  go_ret
  exact ⟨rfl, HQ.out⟩
set_option maxHeartbeats 1000000 in
theorem hand_bool_false (v : Value) (x : Bool) (n f : Int) (w : World) (Q : World → Prop) (h : Calls Try.prog 34 #[v, .int .i64 n, .int .i64 f] w fun r w' => r = .returned (.bool false) ∧ Q w') :
    Calls Try.prog 44 #[.func (.func 34) #[v] #[], .bool x, .int .i64 n, .int .i64 f] w fun r w' => r = .returned (.bool false) ∧ Q w' := by
  have H := hide h
  clear h
  go_enter Try.func44, Try.ntmps44
  go_wp2_with fail
  refine H.out.mono ?_
  rintro e w1 ⟨rfl, hq⟩
  have HQ := hide hq
  clear hq
  go_wp2
  go_ret
  exact ⟨rfl, HQ.out⟩
end Go.Proofs.Ytodndkmpjpiidaa
