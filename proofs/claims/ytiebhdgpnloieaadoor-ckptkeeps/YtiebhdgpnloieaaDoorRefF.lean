/- The document's own disk: New. -/
import Derived.Test.YtiebhdgpnloieaaDoorRefE
import Derived.Deep.RegionLaw
import Derived.Deep.WholeRow
import Derived.Deep.AppendLies
namespace Go.Proofs.YtiebhdgpnloieaaDoor
open Go Go.RowKit

theorem info9 : (Tryd.prog.info? 9).map (fun i => (i.zero, i.size, i.bytes)) = some (some (.string ⟨#[]⟩), 1, 16) := by kernel_rfl
theorem info5 : (Tryd.prog.info? 5).map (fun i => (i.zero, i.size, i.bytes)) = some (some (.int .u8 0), 1, 1) := by kernel_rfl
/-- 256 cells 0. -/
def zcells : Array Value := madeCells (Value.int .u8 0).cells 256
theorem zcells_at (j : Nat) (h : j < 256) : zcells[j]? = some (.int .u8 0) := by
  unfold zcells madeCells
  simp [h, Value.cells, Nat.mod_one]
theorem zmake (u : World) : (Instr.makeSlice 56 (.int .i64 256) (.int .i64 256)).run Tryd.prog u = .ok (.slice (some ⟨u.heap.size, 0, none⟩) 256 256) (u.alloc (.cells zcells 5)) := by
  obtain ⟨i, hi, hz0, hz1, hz2⟩ := info_parts info5
  have h := run_makeSlice (P := Tryd.prog) (w := u) 56 5 i (.int .u8 0) Tryd.underlying56 hi hz0 .i64 .i64 256 256 (by omega) (by omega) (by rw [hz1]; decide) (by rw [hz2]; decide) (by omega)
  rw [hz1] at h
  exact h
theorem add_at (g j : Nat) : (⟨g, 0, none⟩ : Addr).add j = ⟨g, j, none⟩ := by unfold Addr.add; split <;> simp_all
theorem ztext (u : World) : (convert 56 9 (.slice (some ⟨u.heap.size, 0, none⟩) 256 256)).run Tryd.prog (u.alloc (.cells zcells 5)) = .ok (.string zblock) (u.alloc (.cells zcells 5)) := by
  have key := run_convert_bytes_back (P := Tryd.prog) (u.alloc (.cells zcells 5)) 56 9 5 ⟨u.heap.size, 0, none⟩ 256 (List.replicate 256 0) Tryd.underlying56 Tryd.underlying5 Tryd.underlying9 (fun j hj => by
    have hj' : j < 256 := by rw [List.length_replicate] at hj; exact hj
    have hadd : (⟨u.heap.size, 0, none⟩ : Addr).add j = ⟨u.heap.size, j, none⟩ := add_at _ _
    have hb : (u.alloc (.cells zcells 5)).heap[u.heap.size]? = some (.cells zcells 5) := heap_alloc_last u _
    rw [hadd, cell_of_row _ _ _ _ _ _ hb, zcells_at j hj', List.getElem_replicate]
    rfl)
  rw [List.length_replicate] at key
  exact key
theorem ztext2 (u : World) : (convert 56 9 (.slice (some ⟨u.heap.size, 0, none⟩) 256 256)).run Tryd.prog (u.alloc (.cells zcells 5)).drew = .ok (.string zblock) (u.alloc (.cells zcells 5)).drew := by
  have key := run_convert_bytes_back (P := Tryd.prog) (u.alloc (.cells zcells 5)).drew 56 9 5 ⟨u.heap.size, 0, none⟩ 256 (List.replicate 256 0) Tryd.underlying56 Tryd.underlying5 Tryd.underlying9 (fun j hj => by
    have hj' : j < 256 := by rw [List.length_replicate] at hj; exact hj
    have hadd : (⟨u.heap.size, 0, none⟩ : Addr).add j = ⟨u.heap.size, j, none⟩ := add_at _ _
    have hb : (u.alloc (.cells zcells 5)).drew.heap[u.heap.size]? = some (.cells zcells 5) := heap_alloc_last u _
    rw [hadd, cell_of_row _ _ _ _ _ _ hb, zcells_at j hj', List.getElem_replicate]
    rfl)
  rw [List.length_replicate] at key
  exact key
theorem RAt.headS {wr W w1 : World} {p : Nat} {vS vL : Value} {st : St} (h : RAt wr p vS vL st) (hW : Below wr.heap.size wr W) (hg : W.grownBy w1 vS.ownBlock) : w1.heap[p]? = some (.cells #[vS, vL, .int .i64 st.left] 44 (0, 0)) := by
  have hp := h.lt p (Or.inl rfl)
  exact (hg.block p (Nat.lt_of_lt_of_le hp hW.size) (fun e => h.ne0 e.symm)).trans ((hW.block p hp).trans h.head)
/-- One more block of what is sure. -/
theorem RAt.grewS {wr W w1 : World} {p : Nat} {vS vL v' : Value} {st : St} {t : ByteArray} (h : RAt wr p vS vL st) (hW : Below wr.heap.size wr W) (hg : W.grownBy w1 vS.ownBlock) (hown : w1.ownsRow 0 9 1 v' (st.sure.length + 1) (st.sure.map Value.string ++ [.string t])) :
    RAt (w1.setCell ⟨p, 0, none⟩ v') p v' vL ⟨st.sure ++ [t], st.loose, st.left⟩ := by
  have e1 := h.headS hW hg
  have hL : w1.ownsRow 0 105 2 vL st.loose.length (looseCells st.loose) := own_same h.loose (fun g hgL => by
    have hlt := own_lt h.loose hgL
    exact (hg.block g (Nat.lt_of_lt_of_le hlt hW.size) (fun e => h.ne2 e.symm hgL)).trans (hW.block g hlt))
  have hS : w1.ownsRow 0 9 1 v' (st.sure ++ [t]).length ((st.sure ++ [t]).map Value.string) := by
    rw [List.length_append, List.map_append]; exact hown
  have nS : v'.ownBlock ≠ some p := fun e => by
    obtain ⟨cur, hc⟩ := row_type hS e
    rw [e1] at hc
    cases hc
  refine ⟨by rw [heap_set3 e1]; rfl, ?_, ?_⟩
  · exact own_same hS (fun g hgS => Below.heap_setCell w1 ⟨p, 0, none⟩ v' g (fun e => nS (by rw [← show g = p from e]; exact hgS)))
  · exact own_same hL (fun g hgL => Below.heap_setCell w1 ⟨p, 0, none⟩ v' g (fun e => h.ne1 (by rw [← show g = p from e]; exact hgL)))
theorem newsZ (wr : World) (Z : Array Value) : ∀ (j : Nat) (u : Value), ([.string zblock] : List Value)[j]? = some u → ((wr.alloc (.cells Z 5)).alloc (.cells #[.string zblock] 9)).drew.cell? ((⟨wr.heap.size + 1, 0, none⟩ : Addr).add j) = some u := by
  intro j u hj
  match j, hj with
  | 0, hj =>
    rw [List.getElem?_cons_zero] at hj
    cases hj
    have hb : ((wr.alloc (.cells Z 5)).alloc (.cells #[.string zblock] 9)).drew.heap[wr.heap.size + 1]? = some (.cells #[.string zblock] 9) := by
      have := heap_alloc_last (wr.alloc (.cells Z 5)) (.cells #[.string zblock] 9)
      rw [show (wr.alloc (.cells Z 5)).heap.size = wr.heap.size + 1 from by simp] at this
      exact this
    rw [add_at, cell_of_row _ _ _ _ _ _ hb]
    rfl
theorem oneZ : ∀ u ∈ ([.string zblock] : List Value), u.oneCell' = true := fun u hu => by rw [List.mem_singleton.1 hu]; rfl
theorem belowZ (wr : World) (Z : Array Value) : Below wr.heap.size wr ((wr.alloc (.cells Z 5)).alloc (.cells #[.string zblock] 9)).drew := (((Below.refl _ _).alloc (Nat.le_refl _) _).alloc (by simp) _).drew
set_option maxRecDepth 10000 in
set_option maxHeartbeats 2000000 in
theorem rNew (n : Nat) (w : World) (h1 : 1 ≤ n) (h2 : n ≤ 4096) :
    Calls Tryd.prog 11 #[.int .i64 (n : Int)] w fun e w' => ∃ p vS, e = .returned (.tuple #[.pointer (some ⟨p, 0, none⟩), .int .i64 0]) ∧ RAt w' p vS (.slice none 0 0) (St.new n) ∧ w.heap.size ≤ p ∧ (∀ k, RF p vS (.slice none 0 0) k → w.heap.size ≤ k) ∧ Below w.heap.size w w' := by
  obtain ⟨i0, hi, hz0, hz1, hz2⟩ := info_parts info9
  have HI := hide (And.intro hi (And.intro hz0 (And.intro hz1 hz2)))
  clear hi hz0 hz1 hz2
  have hzm := zmake
  have hzt := ztext2
  generalize zcells = Z at *
  go_enter Tryd.func11, Tryd.ntmps11
  go_wp2_with fail
  go_loopw [5] (fun i wr => ∃ (k : Nat) (vS : Value), k ≤ n ∧ i = .int .i64 (k : Int) ∧ RAt wr w.heap.size vS (.slice none 0 0) ⟨List.replicate k zblock, [], -1⟩ ∧ (∀ j, vS.ownBlock = some j → w.heap.size ≤ j) ∧ Below w.heap.size w wr) (fun i _ => n - (intOf i).toNat)
  case atStart => exact ⟨0, .slice none 0 0, Nat.zero_le _, rfl, ⟨heap_alloc_last w _, World.ownsRow_nil _ _ _ _, World.ownsRow_nil _ _ _ _⟩, fun j hj => (by cases hj), (Below.refl _ _).alloc (Nat.le_refl _) _⟩
  case round =>
    obtain ⟨k, vS, hk, rfl, hR, hge, hB⟩ := hrel
    have HR := hide hR
    have HG := hide hge
    have HB := hide hB
    have hc0 := hR.cell0
    have hf0 := hR.free 0
    have hrow : wr.ownsRow 0 9 1 vS k ((List.replicate k zblock).map Value.string) := by
      have h := hR.sure
      rw [show (St.mk (List.replicate k zblock) [] (-1)).sure.length = k from List.length_replicate ..] at h
      exact h
    have HRow := hide hrow
    clear hR hge hB hrow
    by_cases hlt : k < n
    · go_wp2_with fail
      obtain ⟨p, hpe⟩ : ∃ p, w.heap.size = p := ⟨_, rfl⟩
      rw [hpe] at HR HG HB hc0 hf0 ⊢
      have HPE := hide hpe
      clear hpe
      have hp : p < wr.heap.size := HR.out.lt p (Or.inl rfl)
      go_region_law ((refine step_append_lies _ (by rfl) _ _ _ (by rfl) 0 9 i0 (.string ⟨#[]⟩) 1 16 Tryd.underlying41 HI.out.1 HI.out.2.1 HI.out.2.2.1 HI.out.2.2.2 rfl (by decide) vS k _ (by rfl) (World.ownsRow.drew (World.ownsRow.alloc (World.ownsRow.alloc HRow.out _) _)) ⟨wr.heap.size + 1, 0, none⟩ 1 1 [.string zblock] (by rfl) rfl (newsZ _ _) oneZ (by decide) (by unfold maxLen; omega) (by omega) (by omega) _ rfl ?_; intro g cap w1 hown1 hgrow hat hlt1; have hh := HR.out.headS (belowZ wr Z) hgrow; have hcw : w1.cell? ⟨p, 0, none⟩ = some vS := (by simp [World.cell?, hh]); have hfw : w1.frozen? ⟨p, 0, none⟩ = false := (by simp [World.frozen?, hh]); clear hh))
      all_goals
        have hR2 := HR.out.grewS (belowZ wr Z) hgrow (by rw [show (St.mk (List.replicate k zblock) [] (-1)).sure.length = k from List.length_replicate ..]; exact hown1)
        have HR2 := hide hR2
        have HB2 : Hid (Below p w (w1.setCell ⟨p, 0, none⟩ (.slice (some ⟨g, 0, none⟩) (k + 1) cap))) := (((HB.out.trans ((belowZ wr Z).mono (Nat.le_of_lt hp))).grown hgrow (Nat.le_trans (Nat.le_of_lt hp) (belowZ wr Z).size) (fun j e => HG.out j e)).setCell (p := ⟨p, 0, none⟩) (Nat.le_refl _) _)
        have HG2 : Hid (p ≤ g) := by
          unfold Hid
          rcases hat with h3 | h3
          · exact HG.out g h3
          · have := (belowZ wr Z).size
            omega
        clear hR2 hown1 hgrow hat
        have hpe := HPE.out
        subst hpe
        clear HPE
        go_wp2
        go_roundw
        case rel => exact ⟨k + 1, _, hlt, by go_num, by rw [List.replicate_succ']; exact HR2.out, fun j hj => (by cases hj; exact HG2.out), HB2.out⟩
        case measure => simp [intOf]; omega
    · have hke : k = n := by omega
      subst hke
      clear hc0 hf0
      go_wp2
      go_ret2
      have hF : ∀ j, RF w.heap.size vS (.slice none 0 0) j → w.heap.size ≤ j := fun j hj => by
        rcases hj with h3 | h3 | h3
        · omega
        · exact HG.out j h3
        · cases h3
      exact ⟨_, vS, rfl, HR.out, Nat.le_refl _, hF, HB.out⟩
set_option maxHeartbeats 400000 in
theorem rNew_not (n : Int) (w : World) (h : n < 1 ∨ 4096 < n) :
    Calls Tryd.prog 11 #[.int .i64 n] w fun e w' => e = .returned (.tuple #[.pointer none, .int .i64 2]) ∧ w' = w := by
  rcases h with h | h
  · go_enter Tryd.func11, Tryd.ntmps11
    go_wp2
    go_ret2
    exact ⟨rfl, rfl⟩
  · have h1 : ¬ n < 1 := by omega
    go_enter Tryd.func11, Tryd.ntmps11
    go_wp2
    go_ret2
    exact ⟨rfl, rfl⟩
end Go.Proofs.YtiebhdgpnloieaaDoor
