/- The program's checkpoints: steps. -/
import Derived.Test.YtiebhdgpnloieaaDoorCb
import Derived.Deep.RegionHeld3
namespace Go.Proofs.YtiebhdgpnloieaaDoor
open Go Go.RowKit Frm
/-- A step that writes a block: the closure's value; what it captures, in three blocks from B on. -/
def wrV (B : Nat) : Value := .func (.func 57) #[] #[.pointer (some ⟨B, 0, none⟩), .pointer (some ⟨B + 1, 0, none⟩), .pointer (some ⟨B + 1 + 1, 0, none⟩)]
/-- What a step that writes captures: the slot's disk and where it begins, the block's place there, the bytes. -/
structure WrAt (u : World) (B q : Nat) (b : Int) (d : ByteArray) : Prop where
  ex : ∃ (a k g i : Int), u.heap[B]? = some (.cells #[.pointer (some ⟨q, 0, none⟩), .int .i64 a, .int .i64 k, .int .u64 g] 84 (0, 0)) ∧ u.heap[B + 1]? = some (.cells #[.int .i64 i] 3 (0, 0)) ∧ b = a + i ∧ wrap64 (a + i) = a + i
  data : u.heap[B + 1 + 1]? = some (.cells (tc d).toArray 71 (0, 0))
  size : d.size = 256
theorem WrAt.lt {u : World} {B q : Nat} {b : Int} {d : ByteArray} (h : WrAt u B q b d) : B + 1 + 1 < u.heap.size := (Array.getElem?_eq_some_iff.1 h.data).1
theorem WrAt.same {u v : World} {B q : Nat} {b : Int} {d : ByteArray} (h : WrAt u B q b d) (h0 : v.heap[B]? = u.heap[B]?) (h1 : v.heap[B + 1]? = u.heap[B + 1]?) (h2 : v.heap[B + 1 + 1]? = u.heap[B + 1 + 1]?) : WrAt v B q b d := by
  obtain ⟨a, k, g, i, e0, e1, e2⟩ := h.ex
  exact ⟨⟨a, k, g, i, h0.trans e0, h1.trans e1, e2⟩, h2.trans h.data, h.size⟩
theorem WrAt.below {u v : World} {B q : Nat} {b : Int} {d : ByteArray} (h : WrAt u B q b d) (hb : Below u.heap.size u v) : WrAt v B q b d := by
  have hl := h.lt
  exact h.same (hb.block _ (by omega)) (hb.block _ (by omega)) (hb.block _ hl)
theorem WrAt.loc {F F' : Nat → Prop} {u v : World} {B q : Nat} {b : Int} {d : ByteArray} (h : WrAt u B q b d) (hl : Loc F F' u v) (h0 : ¬ F B) (h1 : ¬ F (B + 1)) (h2 : ¬ F (B + 1 + 1)) : WrAt v B q b d := by
  have hlt := h.lt
  exact h.same (hl.block _ (by omega) h0) (hl.block _ (by omega) h1) (hl.block _ hlt h2)
set_option maxRecDepth 10000 in
set_option maxHeartbeats 1000000 in
theorem writing_any (q : Nat) (a k g i : Int) (d : ByteArray) (w : World) (hd : d.size = 256) (hw : wrap64 (a + i) = a + i) :
    Calls Tryd.prog 37 #[.agg #[.pointer (some ⟨q, 0, none⟩), .int .i64 a, .int .i64 k, .int .u64 g], .int .i64 i, .agg (tc d).toArray] w fun e w' => e = .returned (wrV w.heap.size) ∧ WrAt w' w.heap.size q (a + i) d ∧ Below w.heap.size w w' ∧ w'.heap.size = w.heap.size + 3 := by
  have hx : WrAt (((w.alloc (.cells #[.pointer (some ⟨q, 0, none⟩), .int .i64 a, .int .i64 k, .int .u64 g] 84)).alloc (.cells #[.int .i64 i] 3)).alloc (.cells (tc d).toArray 71)) w.heap.size q (a + i) d := by
    have e2 := heap_alloc_last ((w.alloc (.cells #[.pointer (some ⟨q, 0, none⟩), .int .i64 a, .int .i64 k, .int .u64 g] 84)).alloc (.cells #[.int .i64 i] 3)) (.cells (tc d).toArray 71)
    have e1 := heap_alloc_last (w.alloc (.cells #[.pointer (some ⟨q, 0, none⟩), .int .i64 a, .int .i64 k, .int .u64 g] 84)) (.cells #[.int .i64 i] 3)
    have e0 := heap_alloc_last w (.cells #[.pointer (some ⟨q, 0, none⟩), .int .i64 a, .int .i64 k, .int .u64 g] 84)
    have s1 : (w.alloc (.cells #[.pointer (some ⟨q, 0, none⟩), .int .i64 a, .int .i64 k, .int .u64 g] 84)).heap.size = w.heap.size + 1 := by simp
    have s2 : ((w.alloc (.cells #[.pointer (some ⟨q, 0, none⟩), .int .i64 a, .int .i64 k, .int .u64 g] 84)).alloc (.cells #[.int .i64 i] 3)).heap.size = w.heap.size + 1 + 1 := by simp
    rw [s1] at e1
    rw [s2] at e2
    refine ⟨⟨a, k, g, i, ?_, ?_, rfl, hw⟩, e2, hd⟩
    · exact (Below.heap_alloc _ _ _ (by rw [s2]; omega)).trans ((Below.heap_alloc _ _ _ (by rw [s1]; omega)).trans e0)
    · exact (Below.heap_alloc _ _ _ (by rw [s2]; omega)).trans e1
  have HX := hide hx
  have HB : Hid (Below w.heap.size w (((w.alloc (.cells #[.pointer (some ⟨q, 0, none⟩), .int .i64 a, .int .i64 k, .int .u64 g] 84)).alloc (.cells #[.int .i64 i] 3)).alloc (.cells (tc d).toArray 71))) := ((two_below w _ _).alloc (by simp; omega) _)
  have HS : Hid ((((w.alloc (.cells #[.pointer (some ⟨q, 0, none⟩), .int .i64 a, .int .i64 k, .int .u64 g] 84)).alloc (.cells #[.int .i64 i] 3)).alloc (.cells (tc d).toArray 71)).heap.size = w.heap.size + 3) := by simp [Hid]
  clear hx hw
  generalize (tc d).toArray = D at *
  go_enter Tryd.func37, Tryd.ntmps37
  go_wp2
  go_ret
  exact ⟨rfl, HX.out, HB.out, HS.out⟩
set_option maxRecDepth 10000 in
set_option maxHeartbeats 1000000 in
theorem writing1_any (B q : Nat) (b : Int) (d : ByteArray) (st : St) (F : Nat → Prop) (w : World) (h : WrAt w B q b d) (hD : DAt w q st F) (hok : st.Ok) (hl : st.loose.length ≤ 10000) (hb : -9223372036854775808 ≤ b ∧ b ≤ 9223372036854775807) :
    Calls Tryd.prog 57 #[.pointer (some ⟨B, 0, none⟩), .pointer (some ⟨B + 1, 0, none⟩), .pointer (some ⟨B + 1 + 1, 0, none⟩)] w fun e v => e = .returned (.int .i64 (((st.write b d).1 : Nat) : Int)) ∧ ∃ F', DAt v q (st.write b d).2 F' ∧ Loc F F' w v := by
  obtain ⟨a, k, g, i, e0, e1, e2, e3⟩ := h.ex
  have e4 := h.data
  have c0 : w.cell? ⟨B, 0, none⟩ = some (.pointer (some ⟨q, 0, none⟩)) := by simp [World.cell?, e0]
  have c1 : w.cell? ⟨B, 1, none⟩ = some (.int .i64 a) := by simp [World.cell?, e0]
  have c2 : w.cell? ⟨B + 1, 0, none⟩ = some (.int .i64 i) := by simp [World.cell?, e1]
  have hD1 : DAt w.drew q st F := con.same hD (fun _ _ => rfl)
  have HC := hide (con.write q st F b d w.drew hD1 hok hl hb (by rw [h.size]; omega))
  have hcv : (convert 56 9 (.slice (some ⟨B + 1 + 1, 0, none⟩) 256 256)).run Tryd.prog w.drew = .ok (.string d) w.drew := by
    have := run_convert_bytes_back w.drew 56 9 5 ⟨B + 1 + 1, 0, none⟩ 256 d.data.toList Tryd.underlying56 Tryd.underlying5 Tryd.underlying9 (fun j hj => by
      rw [add_at]
      have e4' : w.drew.heap[B + 1 + 1]? = some (.cells (tc d).toArray 71 (0, 0)) := e4
      have hj' : j < d.data.size := by simpa using hj
      simp only [World.cell?, e4']
      simp [tc, Lib.byteCells]
      exact ⟨_, Array.getElem?_eq_getElem hj', rfl⟩)
    have hsz : d.data.toList.length = 256 := by rw [← h.size]; simp
    rw [hsz] at this
    exact this
  have d0 : w.drew.cell? ⟨B, 0, none⟩ = some (.pointer (some ⟨q, 0, none⟩)) := c0
  have d1 : w.drew.cell? ⟨B, 1, none⟩ = some (.int .i64 a) := c1
  have d2 : w.drew.cell? ⟨B + 1, 0, none⟩ = some (.int .i64 i) := c2
  subst e2
  have e5 : IntKind.i64.wrap (a + i) = a + i := by
    rw [IntKind.wrap_i64]
    unfold wrap64 at e3
    exact e3
  clear e0 e1 e4 h hb hD hD1
  go_enter Tryd.func57, Tryd.ntmps57
  go_wp2_with fail
  go_region_law (first
      | (go_simp; go_at_call 25; refine (HC.out).mono ?_; rintro e z1 ⟨rfl, F1, hd1, hl1⟩))
  all_goals
    have HE : Hid (DAt z1 q (st.write (a + i) d).2 F1) := hd1
    have HL : Hid (Loc F F1 w z1) := hl1.undrew
    clear hd1 hl1 c0 c1 c2 d0 d1 d2 hcv
    go_wp2
    go_ret
    exact ⟨rfl, F1, HE.out, HL.out⟩
end Go.Proofs.YtiebhdgpnloieaaDoor
