/- The program's disk: what it is in memory. The program's disk: Size, fault, faultAt, burn, Fuse; New. The program's disk: New. The program's disk: what stands in a block. The program's disk: Read. The program's disk: Write. Regions that draw, with whole rows: what may be taken first; copies into a row. What the document's own sum does: More, Of. -/
import Derived.Test.YtchhojkhfdkhfaaGreatDoorK03
import Derived.Deep.MidRow
import Derived.Deep.WholeRow
import Derived.Laws.CopyRow
import Derived.Deep.Cut
import Derived.WalkMore
import Derived.Deep.RegionLaw
import Derived.Deep.AppendLies
import Derived.Great.BuildSlice
import Derived.Test.YtchhojkhfdkhfaaGreatDoorK00
import Derived.Deep.RegionHeld3
import Derived.Test.YtchhojkhfdkhfaaGreatDoorProg
import Derived.WalkKit
import Derived.WalkSpells
import Derived.Laws.BitsAllLaws
namespace Go.Proofs.YtchhojkhfdkhfaaGreatDoor
open Go Go.RowKit

/-- The blocks of the program's disk: as those of the document's. -/
abbrev DF (p : Nat) (vS vL : Value) (k : Nat) : Prop := RF p vS vL k
/-- The program's disk lies at block p. -/
structure PAt (u : World) (p : Nat) (vS vL : Value) (x : Int) (st : St) : Prop where
  head : u.heap[p]? = some (.cells #[vS, vL, .int .i64 x] 76 (0, 0))
  sure : u.ownsRow 0 90 256 vS st.sure.length (sc st.sure)
  loose : u.ownsRow 0 96 257 vL st.loose.length (lc st.loose)
  left : st.left = max x (-1)
  fit : -9223372036854775808 ≤ x ∧ x ≤ 9223372036854775807
theorem PAt.lt {u : World} {p : Nat} {vS vL : Value} {x : Int} {st : St} (h : PAt u p vS vL x st) : ∀ k, DF p vS vL k → k < u.heap.size := fun k hk => by
  rcases hk with rfl | h1 | h1
  · exact (Array.getElem?_eq_some_iff.1 h.head).1
  · exact own_lt h.sure h1
  · exact own_lt h.loose h1
theorem PAt.same {u v : World} {p : Nat} {vS vL : Value} {x : Int} {st : St} (h : PAt u p vS vL x st) (hb : ∀ k, DF p vS vL k → v.heap[k]? = u.heap[k]?) : PAt v p vS vL x st :=
  ⟨(hb p (Or.inl rfl)).trans h.head, own_same h.sure (fun g hg => hb g (Or.inr (Or.inl hg))), own_same h.loose (fun g hg => hb g (Or.inr (Or.inr hg))), h.left, h.fit⟩
theorem PAt.below {u v : World} {p : Nat} {vS vL : Value} {x : Int} {st : St} (h : PAt u p vS vL x st) (hb : Below u.heap.size u v) : PAt v p vS vL x st := h.same (fun k hk => hb.block k (h.lt k hk))
theorem PAt.drew {u : World} {p : Nat} {vS vL : Value} {x : Int} {st : St} (h : PAt u p vS vL x st) : PAt u.drew p vS vL x st := h.same (fun _ _ => rfl)
theorem PAt.cell0 {u : World} {p : Nat} {vS vL : Value} {x : Int} {st : St} (h : PAt u p vS vL x st) : u.cell? ⟨p, 0, none⟩ = some vS := by simp [World.cell?, h.head]
theorem PAt.cell1 {u : World} {p : Nat} {vS vL : Value} {x : Int} {st : St} (h : PAt u p vS vL x st) : u.cell? ⟨p, 1, none⟩ = some vL := by simp [World.cell?, h.head]
theorem PAt.cell2 {u : World} {p : Nat} {vS vL : Value} {x : Int} {st : St} (h : PAt u p vS vL x st) : u.cell? ⟨p, 2, none⟩ = some (.int .i64 x) := by simp [World.cell?, h.head]
theorem PAt.free {u : World} {p : Nat} {vS vL : Value} {x : Int} {st : St} (h : PAt u p vS vL x st) (i : Nat) : u.frozen? ⟨p, i, none⟩ = false := by simp [World.frozen?, h.head]
theorem PAt.ne0 {u : World} {p : Nat} {vS vL : Value} {x : Int} {st : St} (h : PAt u p vS vL x st) : vS.ownBlock ≠ some p := fun e => by
  obtain ⟨cur, hc⟩ := row_type h.sure e
  rw [h.head] at hc
  cases hc
theorem PAt.ne1 {u : World} {p : Nat} {vS vL : Value} {x : Int} {st : St} (h : PAt u p vS vL x st) : vL.ownBlock ≠ some p := fun e => by
  obtain ⟨cur, hc⟩ := row_type h.loose e
  rw [h.head] at hc
  cases hc
theorem PAt.ne2 {u : World} {p : Nat} {vS vL : Value} {x : Int} {st : St} (h : PAt u p vS vL x st) {g : Nat} (hS : vS.ownBlock = some g) : vL.ownBlock ≠ some g := fun e => by
  obtain ⟨cur, hc⟩ := row_type h.sure hS
  obtain ⟨cur2, hc2⟩ := row_type h.loose e
  rw [hc] at hc2
  cases hc2
theorem PAt.rowS {u : World} {p i : Nat} {vS vL v : Value} {x : Int} {st : St} (h : PAt u p vS vL x st) : (u.setCell ⟨p, i, none⟩ v).ownsRow 0 90 256 vS st.sure.length (sc st.sure) :=
  own_same h.sure (fun g hg => Below.heap_setCell u ⟨p, i, none⟩ v g (fun e => h.ne0 (by rw [← show g = p from e]; exact hg)))
theorem PAt.rowL {u : World} {p i : Nat} {vS vL v : Value} {x : Int} {st : St} (h : PAt u p vS vL x st) : (u.setCell ⟨p, i, none⟩ v).ownsRow 0 96 257 vL st.loose.length (lc st.loose) :=
  own_same h.loose (fun g hg => Below.heap_setCell u ⟨p, i, none⟩ v g (fun e => h.ne1 (by rw [← show g = p from e]; exact hg)))
/-- The fuse is set. -/
theorem PAt.setLeft {u : World} {p : Nat} {vS vL : Value} {x : Int} {st : St} (h : PAt u p vS vL x st) (y : Int) (hy : -9223372036854775808 ≤ y ∧ y ≤ 9223372036854775807) : PAt (u.setCell ⟨p, 2, none⟩ (.int .i64 y)) p vS vL y ⟨st.sure, st.loose, max y (-1)⟩ :=
  ⟨by rw [heap_set3 h.head]; rfl, h.rowS, h.rowL, rfl, hy⟩
/-- Nothing is loose any more. -/
theorem PAt.nothing {u : World} {p : Nat} {vS vL : Value} {x : Int} {st : St} (h : PAt u p vS vL x st) : PAt (u.setCell ⟨p, 1, none⟩ (.slice none 0 0)) p vS (.slice none 0 0) x ⟨st.sure, [], st.left⟩ ∧ Loc (DF p vS vL) (DF p vS (.slice none 0 0)) u (u.setCell ⟨p, 1, none⟩ (.slice none 0 0)) := by
  refine ⟨⟨by rw [heap_set3 h.head]; rfl, h.rowS, World.ownsRow_nil _ _ _ _, h.left, h.fit⟩, ⟨rfl, rfl, rfl, by simp [World.setCell], fun j _ hF => Below.heap_setCell u ⟨p, 1, none⟩ _ j (fun e => hF (Or.inl e)), fun j hj => ?_⟩⟩
  rcases hj with h1 | h1 | h1
  · exact Or.inl (Or.inl h1)
  · exact Or.inl (Or.inr (Or.inl h1))
  · cases h1
theorem range_of_row {w : World} {base : Nat} {e : TypeId} {size n g c : Nat} {xs : List Value} (h : w.ownsRow base e size (.slice (some ⟨g, 0, none⟩) n c) n xs) (o : Nat) (cs : List Value) (hc : ∀ j (_ : j < cs.length), xs[o + j]? = cs[j]?) : w.rangeAt g o cs := fun j v hv => by
  have hj : j < cs.length := (List.getElem?_eq_some_iff.1 hv).1
  have hx : xs[o + j]? = some v := (hc j hj).trans hv
  have := World.ownsRow.cells h (g := g) rfl (o + j) v hx
  rw [add_at] at this
  exact this
/-- A block of what is sure, where it lies. -/
theorem PAt.block {u : World} {p g n c : Nat} {vL : Value} {x : Int} {st : St} (h : PAt u p (.slice (some ⟨g, 0, none⟩) n c) vL x st) (hn : n = st.sure.length) (hok : ∀ s ∈ st.sure, s.size = 256) (i : Nat) (hi : i < st.sure.length) : u.rangeAt g (i * 256) (tc st.sure[i]) := by
  subst hn
  refine range_of_row h.sure (i * 256) _ (fun j hj => sc_at st.sure hok i hi j ?_)
  rw [tc_length, hok _ (List.getElem_mem hi)] at hj
  exact hj
/-- A write that is loose, where it lies. -/
theorem PAt.write {u : World} {p g n c : Nat} {vS : Value} {x : Int} {st : St} (h : PAt u p vS (.slice (some ⟨g, 0, none⟩) n c) x st) (hn : n = st.loose.length) (hok : ∀ w ∈ st.loose, w.2.size = 256) (i : Nat) (hi : i < st.loose.length) : u.rangeAt g (i * 257) (wc st.loose[i]) := by
  subst hn
  refine range_of_row h.loose (i * 257) _ (fun j hj => lc_at st.loose hok i hi j ?_)
  rw [wc_length _ (hok _ (List.getElem_mem hi))] at hj
  exact hj
end Go.Proofs.YtchhojkhfdkhfaaGreatDoor
namespace Go.Proofs.YtchhojkhfdkhfaaGreatDoor
open Go Go.RowKit

set_option maxHeartbeats 400000 in
theorem pSize (p : Nat) (vS vL : Value) (x : Int) (st : St) (w : World) (h : PAt w p vS vL x st) :
    Calls Tryz.prog 58 #[.pointer (some ⟨p, 0, none⟩)] w fun e w' => e = .returned (.int .i64 (st.sure.length : Int)) ∧ w' = w := by
  obtain ⟨a, c, rfl, _⟩ := slice_of h.sure
  have hc := h.cell0
  clear h
  go_enter Tryz.func58, Tryz.ntmps58
  go_wp2
  go_ret
  exact ⟨rfl, rfl⟩
set_option maxHeartbeats 400000 in
theorem nSize (w : World) : Calls Tryz.prog 58 #[.pointer none] w fun e w' => e = .returned (.int .i64 0) ∧ w' = w := by
  go_enter Tryz.func58, Tryz.ntmps58
  go_wp2
  go_ret
  exact ⟨rfl, rfl⟩
/-- What fault tells. -/
def faultOf (left : Int) : Int := if left = 0 then 50 else 0
set_option maxHeartbeats 400000 in
theorem pFault (p : Nat) (vS vL : Value) (x : Int) (st : St) (w : World) (h : PAt w p vS vL x st) (hok : st.Ok) :
    Calls Tryz.prog 86 #[.pointer (some ⟨p, 0, none⟩)] w fun e w' => e = .returned (.int .i64 (faultOf st.left)) ∧ w' = w := by
  have KS := hide (pSize p vS vL x st w h)
  have hc := h.cell2
  have h1 := hok.some
  have hz : ¬ ((st.sure.length : Int) = 0) := by omega
  have hl := h.left
  by_cases h0 : x = 0
  · have hf : faultOf st.left = 50 := by unfold faultOf; rw [if_pos (by omega)]
    rw [hf]
    clear hf h hok h1 hl
    go_enter Tryz.func86, Tryz.ntmps86
    go_wp2_with fail
    refine KS.out.mono ?_
    rintro e w1 ⟨rfl, hw1⟩
    obtain rfl := hw1.symm
    go_wp2
    go_ret
    exact ⟨rfl, rfl⟩
  · have hf : faultOf st.left = 0 := by unfold faultOf; rw [if_neg (by omega)]
    rw [hf]
    clear hf h hok h1 hl
    go_enter Tryz.func86, Tryz.ntmps86
    go_wp2_with fail
    refine KS.out.mono ?_
    rintro e w1 ⟨rfl, hw1⟩
    obtain rfl := hw1.symm
    go_wp2
    go_ret
    exact ⟨rfl, rfl⟩
set_option maxHeartbeats 400000 in
theorem nFault (w : World) : Calls Tryz.prog 86 #[.pointer none] w fun e w' => e = .returned (.int .i64 1) ∧ w' = w := by
  go_enter Tryz.func86, Tryz.ntmps86
  go_wp2_with fail
  refine (nSize w).mono ?_
  rintro e w1 ⟨rfl, hw1⟩
  obtain rfl := hw1.symm
  go_wp2
  go_ret
  exact ⟨rfl, rfl⟩
/-- What faultAt tells. -/
def faultAtOf (st : St) (b : Int) : Int := if st.left = 0 then 50 else if ¬ (0 ≤ b ∧ b < (st.sure.length : Int)) then 5 else 0
set_option maxHeartbeats 400000 in
theorem pFaultAt (p : Nat) (vS vL : Value) (x : Int) (st : St) (b : Int) (w : World) (h : PAt w p vS vL x st) (hok : st.Ok) :
    Calls Tryz.prog 66 #[.pointer (some ⟨p, 0, none⟩), .int .i64 b] w fun e w' => e = .returned (.int .i64 (faultAtOf st b)) ∧ w' = w := by
  have KF := hide (pFault p vS vL x st w h hok)
  obtain ⟨a, c, rfl, _⟩ := slice_of h.sure
  have hc := h.cell0
  have hfew := hok.few
  clear h hok
  by_cases h0 : st.left = 0
  · have hf : faultAtOf st b = 50 := by unfold faultAtOf; rw [if_pos h0]
    have hg : faultOf st.left = 50 := by unfold faultOf; rw [if_pos h0]
    rw [hf]
    rw [hg] at KF
    clear hf hg h0
    go_enter Tryz.func66, Tryz.ntmps66
    go_wp2_with fail
    refine KF.out.mono ?_
    rintro e w1 ⟨rfl, hw1⟩
    obtain rfl := hw1.symm
    go_wp2
    go_ret
    exact ⟨rfl, rfl⟩
  · have hg : faultOf st.left = 0 := by unfold faultOf; rw [if_neg h0]
    rw [hg] at KF
    clear hg
    by_cases h1 : 0 ≤ b
    · by_cases h2 : b < (st.sure.length : Int)
      · have hf : faultAtOf st b = 0 := by unfold faultAtOf; rw [if_neg h0, if_neg (fun hh => hh ⟨h1, h2⟩)]
        rw [hf]
        clear hf h0
        go_enter Tryz.func66, Tryz.ntmps66
        go_wp2_with fail
        refine KF.out.mono ?_
        rintro e w1 ⟨rfl, hw1⟩
        obtain rfl := hw1.symm
        go_wp2
        go_ret
        exact ⟨rfl, rfl⟩
      · have hf : faultAtOf st b = 5 := by unfold faultAtOf; rw [if_neg h0, if_pos (fun hh => h2 hh.2)]
        rw [hf]
        clear hf h0
        go_enter Tryz.func66, Tryz.ntmps66
        go_wp2_with fail
        refine KF.out.mono ?_
        rintro e w1 ⟨rfl, hw1⟩
        obtain rfl := hw1.symm
        go_wp2
        go_ret
        exact ⟨rfl, rfl⟩
    · have hf : faultAtOf st b = 5 := by unfold faultAtOf; rw [if_neg h0, if_pos (fun hh => h1 hh.1)]
      rw [hf]
      clear hf h0
      go_enter Tryz.func66, Tryz.ntmps66
      go_wp2_with fail
      refine KF.out.mono ?_
      rintro e w1 ⟨rfl, hw1⟩
      obtain rfl := hw1.symm
      go_wp2
      go_ret
      exact ⟨rfl, rfl⟩
set_option maxHeartbeats 400000 in
theorem nFaultAt (b : Int) (w : World) : Calls Tryz.prog 66 #[.pointer none, .int .i64 b] w fun e w' => e = .returned (.int .i64 1) ∧ w' = w := by
  go_enter Tryz.func66, Tryz.ntmps66
  go_wp2_with fail
  refine (nFault w).mono ?_
  rintro e w1 ⟨rfl, hw1⟩
  obtain rfl := hw1.symm
  go_wp2
  go_ret
  exact ⟨rfl, rfl⟩
set_option maxHeartbeats 400000 in
theorem pBurn (p : Nat) (vS vL : Value) (x : Int) (st : St) (w : World) (h : PAt w p vS vL x st) :
    Calls Tryz.prog 67 #[.pointer (some ⟨p, 0, none⟩)] w fun e w' => (∃ v, e = .returned v) ∧ (∃ y, PAt w' p vS vL y ⟨st.sure, st.loose, counted st.left⟩) ∧ Loc (DF p vS vL) (DF p vS vL) w w' := by
  have hc := h.cell2
  have hf := h.free 2
  have H := hide h
  have hl := h.left
  have hi := h.fit
  by_cases h0 : 0 < x
  · have HX : Hid (counted st.left = max (x - 1) (-1)) := by unfold Hid counted; rw [if_pos (by omega)]; omega
    have HI := hide hi
    clear h hl
    go_enter Tryz.func67, Tryz.ntmps67
    go_wp2
    go_end0
    exact ⟨⟨_, rfl⟩, ⟨x - 1, by rw [HX.out]; exact H.out.setLeft (x - 1) (by omega)⟩, Loc.setCell w ⟨p, 2, none⟩ _ (Or.inl rfl)⟩
  · have HX : Hid (counted st.left = st.left) := by unfold Hid counted; rw [if_neg (by omega)]
    clear h hl hi
    go_enter Tryz.func67, Tryz.ntmps67
    go_wp2
    go_end0
    exact ⟨⟨_, rfl⟩, ⟨x, by rw [HX.out]; exact H.out⟩, Loc.refl _ _⟩
set_option maxHeartbeats 400000 in
theorem pFuse (p : Nat) (vS vL : Value) (x : Int) (st : St) (n : Int) (w : World) (h : PAt w p vS vL x st) (hok : st.Ok) (hn : -9223372036854775808 ≤ n ∧ n ≤ 9223372036854775807) :
    Calls Tryz.prog 25 #[.pointer (some ⟨p, 0, none⟩), .int .i64 n] w fun e w' => e = .returned (.int .i64 0) ∧ PAt w' p vS vL n (st.fuse n) ∧ Loc (DF p vS vL) (DF p vS vL) w w' := by
  have KS := hide (pSize p vS vL x st w h)
  have hc := h.cell2
  have hf := h.free 2
  have H := hide h
  have h1 := hok.some
  have hz : ¬ ((st.sure.length : Int) = 0) := by omega
  have HN := hide hn
  clear h hok h1 hn
  go_enter Tryz.func25, Tryz.ntmps25
  go_wp2_with fail
  refine KS.out.mono ?_
  rintro e w1 ⟨rfl, hw1⟩
  obtain rfl := hw1.symm
  go_wp2
  go_ret
  exact ⟨rfl, H.out.setLeft n HN.out, Loc.setCell w ⟨p, 2, none⟩ _ (Or.inl rfl)⟩
set_option maxHeartbeats 400000 in
theorem nFuse (n : Int) (w : World) : Calls Tryz.prog 25 #[.pointer none, .int .i64 n] w fun e w' => e = .returned (.int .i64 1) ∧ w' = w := by
  go_enter Tryz.func25, Tryz.ntmps25
  go_wp2_with fail
  refine (nSize w).mono ?_
  rintro e w1 ⟨rfl, hw1⟩
  obtain rfl := hw1.symm
  go_wp2
  go_ret
  exact ⟨rfl, rfl⟩
end Go.Proofs.YtchhojkhfdkhfaaGreatDoor
namespace Go.Proofs.YtchhojkhfdkhfaaGreatDoor
open Go Go.RowKit

theorem info69 : (Tryz.prog.info? 90).map (fun i => (i.zero, i.size, i.bytes)) = some (some (.agg (Array.replicate 256 (.int .u8 0))), 256, 256) := by kernel_rfl
/-- So many blocks of bytes 0. -/
def zrows (n : Nat) : Array Value := madeCells (Value.agg (Array.replicate 256 (.int .u8 0))).cells (n * 256)
theorem zrows_is (n : Nat) : (zrows n).toList = sc (List.replicate n zblock) := by
  rw [sc_new]
  unfold zrows madeCells
  apply List.ext_getElem?
  intro i
  by_cases h : i < n * 256
  · have h2 : i % 256 < 256 := Nat.mod_lt _ (by decide)
    simp [Value.cells, h, h2]
  · simp [Value.cells, h]
theorem zrows_size (n : Nat) : (zrows n).size = n * 256 := by unfold zrows; exact size_madeCells _ _
theorem nmake (n : Nat) (hn : n ≤ 4096) (u : World) : (Instr.makeSlice 73 (.int .i64 (n : Int)) (.int .i64 (n : Int))).run Tryz.prog u = .ok (.slice (some ⟨u.heap.size, 0, none⟩) n n) (u.alloc (.cells (zrows n) 90)) := by
  obtain ⟨i, hi, hz0, hz1, hz2⟩ := info_parts info69
  have h := run_make (P := Tryz.prog) u 73 90 i (.agg (Array.replicate 256 (.int .u8 0))) Tryz.underlying73 hi hz0 .i64 .i64 (n : Int) (n : Int) (by omega) (by omega) (by rw [hz2]; omega) (by omega)
  rw [hz1, Int.toNat_natCast] at h
  exact h
theorem PAt.new (w : World) (n : Nat) (hn : n ≤ 4096) : PAt ((w.alloc (.cells (zrows n) 90)).alloc (.cells #[.slice (some ⟨w.heap.size, 0, none⟩) n n, .slice none 0 0, .int .i64 (-1)] 76)) (w.heap.size + 1) (.slice (some ⟨w.heap.size, 0, none⟩) n n) (.slice none 0 0) (-1) (St.new n) := by
  refine ⟨?_, ?_, World.ownsRow_nil _ _ _ _, rfl, by decide⟩
  · have h := heap_alloc_last (w.alloc (.cells (zrows n) 90)) (.cells #[.slice (some ⟨w.heap.size, 0, none⟩) n n, .slice none 0 0, .int .i64 (-1)] 76)
    rw [World.size_alloc] at h
    exact h
  · have hl : (St.new n).sure.length = n := List.length_replicate
    rw [hl]
    show World.ownsRow _ 0 90 256 _ n (sc (List.replicate n zblock))
    rw [← zrows_is]
    exact World.ownsRow.alloc (World.ownsRow_lit (base := 0) (e := 90) (size := 256) w (zrows n) n (Nat.zero_le _) (by unfold maxLen; omega) (zrows_size n)) _
set_option maxRecDepth 10000 in
set_option maxHeartbeats 400000 in
theorem pNew (n : Nat) (w : World) (h1 : 1 ≤ n) (h2 : n ≤ 4096) :
    Calls Tryz.prog 10 #[.int .i64 (n : Int)] w fun e w' => ∃ p vS vL x, e = .returned (.tuple #[.pointer (some ⟨p, 0, none⟩), .int .i64 0]) ∧ PAt w' p vS vL x (St.new n) ∧ (∀ k, DF p vS vL k → w.heap.size ≤ k) ∧ Below w.heap.size w w' := by
  have hmk := nmake n h2
  have HP := hide (PAt.new w n h2)
  generalize zrows n = Z at *
  go_enter Tryz.func10, Tryz.ntmps10
  go_wp2
  go_ret2
  exact ⟨w.heap.size + 1, _, _, _, rfl, HP.out, fun k hk => (by
    rcases hk with h3 | h3 | h3
    · omega
    · cases h3; exact Nat.le_refl _
    · cases h3), ((Below.refl _ _).alloc (Nat.le_refl _) _).alloc (by simp) _⟩
set_option maxHeartbeats 400000 in
theorem pNew_not (n : Int) (w : World) (h : n < 1 ∨ 4096 < n) :
    Calls Tryz.prog 10 #[.int .i64 n] w fun e w' => e = .returned (.tuple #[.pointer none, .int .i64 2]) ∧ w' = w := by
  rcases h with h | h
  · go_enter Tryz.func10, Tryz.ntmps10
    go_wp2
    go_ret2
    exact ⟨rfl, rfl⟩
  · have h1 : ¬ n < 1 := by omega
    go_enter Tryz.func10, Tryz.ntmps10
    go_wp2
    go_ret2
    exact ⟨rfl, rfl⟩
end Go.Proofs.YtchhojkhfdkhfaaGreatDoor
namespace Go.Proofs.YtchhojkhfdkhfaaGreatDoor
open Go Go.RowKit
theorem zero69 : (Tryz.prog.info? 90).map (fun i => (i.zero, i.size)) = some (some (.agg (Array.replicate 256 (.int .u8 0))), 256) := by kernel_rfl
/-- The cells of a block of bytes 0. -/
def zrow1 : Array Value := Array.replicate 256 (.int .u8 0)
theorem zrow1_size : zrow1.size = 256 := Array.size_replicate
theorem zv69 (w : World) : (zeroValue 90).run Tryz.prog w = .ok (.agg zrow1) w := (zero_of_info zero69).1 w
theorem size69 : (Tryz.prog.info? 90).map (·.size) = some 256 := (zero_of_info zero69).2
theorem tsize (s : ByteArray) (h : s.size = 256) : (tc s).toArray.size = 256 := by rw [List.size_toArray, tc_length, h]
theorem tone (s : ByteArray) : (tc s).toArray.all (·.oneCell') = true := all_oneCell_toArray (tc_one s)
/-- What standing has while it looks. -/
structure Looks (w u : World) (p : Nat) (vS vL : Value) (x : Int) (st : St) (r s : Nat) (T : ByteArray) : Prop where
  d : PAt u p vS vL x st
  res : u.heap[r]? = some (.cells zrow1 90 (0, 0))
  now : u.heap[s]? = some (.cells (tc T).toArray 90 (0, 0))
  below : Below w.heap.size w u
  hr : w.heap.size ≤ r
  hs : w.heap.size ≤ s
  ne : r ≠ s
theorem Looks.start {w : World} {p : Nat} {vS vL : Value} {x : Int} {st : St} (h : PAt w p vS vL x st) (T : ByteArray) : Looks w ((w.alloc (.cells zrow1 90)).alloc (.cells (tc T).toArray 90)) p vS vL x st w.heap.size (w.alloc (.cells zrow1 90)).heap.size T := by
  have hb : Below w.heap.size w ((w.alloc (.cells zrow1 90)).alloc (.cells (tc T).toArray 90)) := ((Below.refl _ _).alloc (Nat.le_refl _) _).alloc (by simp) _
  exact ⟨h.below hb, (Below.heap_alloc _ _ _ (by simp)).trans (heap_alloc_last w _), heap_alloc_last _ _, hb, Nat.le_refl _, by simp, by simp⟩
theorem Looks.set {w u : World} {p : Nat} {vS vL : Value} {x : Int} {st : St} {r s : Nat} {T : ByteArray} (h : Looks w u p vS vL x st r s T) (hp : ∀ k, DF p vS vL k → k < w.heap.size) (T' : ByteArray) : Looks w (u.setRow s (tc T').toArray) p vS vL x st r s T' :=
  ⟨h.d.same (fun k hk => setRow_other u _ k _ (by have := hp k hk; have := h.hs; omega)), (setRow_other u _ _ _ h.ne).trans h.res, setRow_heap u _ _ _ _ _ h.now,
    ⟨h.below.os, h.below.tape, h.below.output, by rw [setRow_size]; exact h.below.size, fun k hk => (setRow_other u _ k _ (by have := h.hs; omega)).trans (h.below.block k hk)⟩, h.hr, h.hs, h.ne⟩
/-- What it hands back. -/
theorem Looks.out {w u : World} {p : Nat} {vS vL : Value} {x : Int} {st : St} {r s : Nat} {T : ByteArray} (h : Looks w u p vS vL x st r s T) : (u.setRow r (tc T).toArray).heap[r]? = some (.cells (tc T).toArray 90 (0, 0)) ∧ Below w.heap.size w (u.setRow r (tc T).toArray) :=
  ⟨setRow_heap u _ _ _ _ _ h.res, ⟨h.below.os, h.below.tape, h.below.output, by rw [setRow_size]; exact h.below.size, fun k hk => (setRow_other u _ k _ (by have := h.hr; omega)).trans (h.below.block k hk)⟩⟩
theorem stands_size {s : List ByteArray} {b : Nat} (hs : ∀ t ∈ s, t.size = 256) (hb : b < s.length) : ∀ (l : List (Nat × ByteArray)), (∀ w ∈ l, w.2.size = 256) → (stands s b l).size = 256
  | [], _ => getD_size hs b hb
  | w :: l, h => by
    unfold stands
    split
    · exact h w (by simp)
    · exact stands_size hs hb l (fun x hx => h x (List.mem_cons_of_mem _ hx))
set_option maxRecDepth 10000 in
set_option maxHeartbeats 1000000 in
theorem pStanding (p : Nat) (vS vL : Value) (x : Int) (st : St) (b : Nat) (w : World) (h : PAt w p vS vL x st) (hok : st.Ok) (hb : b < st.sure.length) (hl : st.loose.length ≤ 10000) :
    Calls Tryz.prog 134 #[.pointer (some ⟨p, 0, none⟩), .int .i64 (b : Int)] w fun e w' => e = .returned (.agg (tc (stands st.sure b st.loose.reverse)).toArray) ∧ Below w.heap.size w w' := by
  obtain ⟨aS, cS, rfl, _⟩ := slice_of h.sure
  obtain ⟨aL, cL, rfl, _⟩ := slice_of h.loose
  obtain ⟨gS, rfl, hxS⟩ := row_cell h.sure hok.some
  clear hxS
  have H := hide h
  have HOk := hide hok
  have hfew := hok.few
  have hz := zv69
  have hb1 : Below w.heap.size w (w.alloc (.cells zrow1 90)) := (Below.refl _ _).alloc (Nat.le_refl _) _
  have hW := h.below hb1
  have hc0 := hW.cell0
  have HB := hide (hW.block rfl hok.full b hb)
  have hT : (tc st.sure[b]).length = 256 := by rw [tc_length, hok.full _ (List.getElem_mem hb)]
  have HS69 : Hid ((Tryz.prog.info? 90).map (·.size) = some (tc st.sure[b]).length) := by unfold Hid; rw [hT]; exact size69
  have HLk := hide (Looks.start h st.sure[b])
  have HSt : Hid (st.sure.getD b noText = st.sure[b]) := by unfold Hid; rw [List.getD_eq_getElem?_getD, List.getElem?_eq_getElem hb, Option.getD_some]
  have HTs : Hid ((tc st.sure[b]).toArray.size = 256) := tsize _ (hok.full _ (List.getElem_mem hb))
  have HRs := hide (stands_size hok.full hb st.loose.reverse (fun w hw => (hok.there w (List.mem_reverse.1 hw)).2))
  clear h hok hW hb1 hT
  generalize hR : stands st.sure b st.loose.reverse = R at *
  have HR := hide hR
  clear hR
  go_enter Tryz.func134, Tryz.ntmps134
  go_upto_region 1 with fail
  go_step3
  go_upto_region 1 with fail
  have HA1 := hide (heap_alloc_last (w.alloc (.cells zrow1 90)) (.cells zrow1 90))
  have HA2 := hide (World.setRow_alloc_new (w.alloc (.cells zrow1 90)) zrow1 (tc st.sure[b]).toArray 90)
  have HZ1 := hide zrow1_size
  have HT1 := hide (tone st.sure[b])
  generalize hTT : st.sure[b] = T at *
  clear hTT
  generalize hZ : zrow1 = Z at *
  generalize w.alloc (.cells Z 90) = W at *
  apply wp_region_lit
  go_upto_region 2 with (first
    | (with_reducible refine wpList_load_mid (by with_unfolding_all rfl) 90 (.tmp 12) (by with_unfolding_all rfl) gS (b * 256) (by with_unfolding_all rfl) (tc T) _ HB.out Tryz.underlying90 (by with_unfolding_all rfl) HS69.out ?_)
    | (with_reducible refine wpList_store_row (by with_unfolding_all rfl) 90 (.tmp 5) (.tmp 13) (by with_unfolding_all rfl) W.heap.size (tc T).toArray (by with_unfolding_all rfl) (by with_unfolding_all rfl) 90 Z HA1.out (by rw [HTs.out]; exact size69) (by rw [HTs.out, HZ1.out]) HT1.out ?_))
  rw [HA2.out]
  clear HA1 HA2 hc0 HB HT1 HTs HS69
  generalize W.alloc (.cells (tc T).toArray 90) = U at *
  go_step3
  go_upto_region 2 with fail
  have hc1 := HLk.out.d.cell1
  generalize w.heap.size = r at *
  generalize W.heap.size = s at *
  subst hZ
  have HD0 : Hid (∀ k, DF p (.slice (some ⟨gS, 0, none⟩) st.sure.length cS) (.slice aL st.loose.length cL) k → k < w.heap.size) := H.out.lt
  have HTT : Hid ((tc T).toArray.size = 256) := by unfold Hid; rw [← HSt.out]; exact tsize _ (getD_size HOk.out.full b hb)
  go_wp2_with fail
  go_loop [6] (fun i => ∃ k : Nat, k ≤ st.loose.length ∧ i = .int .i64 ((k : Int) - 1) ∧ stands st.sure b (st.loose.take k).reverse = R) (fun i => (intOf i + 1).toNat)
  case atStart => exact ⟨st.loose.length, Nat.le_refl _, rfl, by rw [List.take_length]; exact HR.out⟩
  case round =>
    obtain ⟨k, hk, rfl, hst⟩ := hrel
    have HS := hide hst
    clear hst
    cases k with
    | zero =>
      have hT : T = R := by rw [← HSt.out]; exact HS.out
      subst hT
      have HO := hide HLk.out.out
      have HN := hide HLk.out.now
      have HRz := hide HLk.out.res
      have HT1 := hide (tone T)
      have HBS : Hid ((Tryz.prog.info? 90).map (·.size) = some (tc T).toArray.size) := by unfold Hid; rw [HTT.out]; exact size69
      go_wp2_with (first
        | (with_reducible refine wpList_load_row (by with_unfolding_all rfl) 90 (.tmp 5) (by with_unfolding_all rfl) s (by with_unfolding_all rfl) 90 (tc T).toArray (0, 0) _ HN.out Tryz.underlying90 (by with_unfolding_all rfl) HBS.out ?_)
        | (with_reducible refine wpList_store_row (by with_unfolding_all rfl) 90 (.tmp 4) (.tmp 42) (by with_unfolding_all rfl) r (tc T).toArray (by with_unfolding_all rfl) (by with_unfolding_all rfl) 90 zrow1 HRz.out HBS.out (by rw [HTT.out, HZ1.out]) HT1.out ?_))
      exact bodyPost_ret (results_cell_row Tryz.results134 _ _ r 90 (tc T).toArray (0, 0) _ rfl HO.out.1 Tryz.underlying90 rfl HBS.out) rfl ⟨rfl, HO.out.2⟩
    | succ k =>
      have hkl : k < st.loose.length := hk
      obtain ⟨gL, rfl, hxL⟩ := row_cell HLk.out.d.loose (by omega)
      clear hxL
      have hsz : ∀ w ∈ st.loose, w.2.size = 256 := fun w hw => (HOk.out.there w hw).2
      have hrg := HLk.out.d.write rfl hsz k hkl
      have e1 : U.cell? ⟨gL, k * 257, none⟩ = some (.int .i64 ((st.loose[k].1 : Nat) : Int)) := hrg 0 _ rfl
      have HRg : Hid (U.rangeAt gL (k * 257 + 1) (tc st.loose[k].2)) := fun j v hv => by
        have := hrg (j + 1) v hv
        rw [show k * 257 + 1 + j = k * 257 + (j + 1) from by omega]
        exact this
      have hs2 := HS.out
      rw [rev_take _ _ hkl] at hs2
      unfold stands at hs2
      have HS2 := hide hs2
      have HD2 : Hid (st.loose[k].2.size = 256) := hsz _ (List.getElem_mem hkl)
      have hki : (((k + 1 : Nat) : Int) - 1) = (k : Int) := by omega
      rw [hki]
      clear hs2 hrg hki HS hsz
      by_cases heq : st.loose[k].1 = b
      · have hs3 := HS2.out
        rw [if_pos heq] at hs3
        rw [heq] at e1
        clear HS2
        rw [hs3] at HRg HD2
        clear hs3
        have HTT : Hid ((tc R).toArray.size = 256) := tsize _ HRs.out
        have HLk2 := hide (HLk.out.set HD0.out R)
        have HO := hide HLk2.out.out
        have HN := hide HLk.out.now
        have HN2 := hide HLk2.out.now
        have HRz := hide HLk2.out.res
        have HT1 := hide (tone R)
        have HBS : Hid ((Tryz.prog.info? 90).map (·.size) = some (tc R).toArray.size) := by unfold Hid; rw [HTT.out]; exact size69
        have HBL : Hid ((Tryz.prog.info? 90).map (·.size) = some (tc R).length) := by unfold Hid; rw [tc_length, HRs.out]; exact size69
        have HTo : Hid ((tc T).toArray.size = (tc R).toArray.size) := by unfold Hid; rw [HTT.out]; rw [← HSt.out]; exact tsize _ (getD_size HOk.out.full b hb)
        go_wp2_with (first
          | (with_reducible refine wpList_load_mid (by with_unfolding_all rfl) 90 (.tmp 40) (by with_unfolding_all rfl) gL (k * 257 + 1) (by with_unfolding_all rfl) (tc R) _ HRg.out Tryz.underlying90 (by with_unfolding_all rfl) HBL.out ?_)
          | (with_reducible refine wpList_store_row (by with_unfolding_all rfl) 90 (.tmp 5) (.tmp 41) (by with_unfolding_all rfl) s (tc R).toArray (by with_unfolding_all rfl) (by with_unfolding_all rfl) 90 _ HN.out HBS.out HTo.out HT1.out ?_)
          | (with_reducible refine wpList_load_row (by with_unfolding_all rfl) 90 (.tmp 5) (by with_unfolding_all rfl) s (by with_unfolding_all rfl) 90 (tc R).toArray (0, 0) _ HN2.out Tryz.underlying90 (by with_unfolding_all rfl) HBS.out ?_)
          | (with_reducible refine wpList_store_row (by with_unfolding_all rfl) 90 (.tmp 4) (.tmp 42) (by with_unfolding_all rfl) r (tc R).toArray (by with_unfolding_all rfl) (by with_unfolding_all rfl) 90 zrow1 HRz.out HBS.out (by rw [HTT.out, HZ1.out]) HT1.out ?_))
        exact bodyPost_ret (results_cell_row Tryz.results134 _ _ r 90 (tc R).toArray (0, 0) _ rfl HO.out.1 Tryz.underlying90 rfl HBS.out) rfl ⟨rfl, HO.out.2⟩
      · have hs3 := HS2.out
        rw [if_neg heq] at hs3
        have HS3 := hide hs3
        have hez : ¬ (((st.loose[k].1 : Nat) : Int) = (b : Int)) := by omega
        clear hs3 HS2
        generalize hq : st.loose[k].1 = y at *
        clear hq
        go_wp2
        go_round
        case rel => exact ⟨k, by omega, rfl, HS3.out⟩
        case measure => simp [intOf]
end Go.Proofs.YtchhojkhfdkhfaaGreatDoor
namespace Go.Proofs.YtchhojkhfdkhfaaGreatDoor
open Go Go.RowKit
/-- The bytes of a block's cells, as a text. -/
theorem text_of (T : ByteArray) (g : Nat) (u : World) (h : u.heap[g]? = some (.cells (tc T).toArray 90 (0, 0))) (hT : T.size = 256) : (convert 77 9 (.slice (some ⟨g, 0, none⟩) 256 256)).run Tryz.prog u = .ok (.string T) u := by
  have key := run_convert_bytes_back (P := Tryz.prog) u 77 9 5 ⟨g, 0, none⟩ 256 T.data.toList Tryz.underlying77 Tryz.underlying5 Tryz.underlying9 (fun j hj => by
    rw [add_at, cell_of_row _ _ _ _ _ _ h]
    unfold tc Lib.byteCells
    rw [List.getElem?_toArray, List.getElem?_map, List.getElem?_eq_getElem hj]
    rfl)
  rw [show T.data.toList.length = 256 from by rw [← Lib.size_eq]; exact hT] at key
  exact key
set_option maxRecDepth 10000 in
set_option maxHeartbeats 1000000 in
theorem pRead (p : Nat) (vS vL : Value) (x : Int) (st : St) (b : Int) (w : World) (h : PAt w p vS vL x st) (hok : st.Ok) (hl : st.loose.length ≤ 10000) :
    Calls Tryz.prog 112 #[.pointer (some ⟨p, 0, none⟩), .int .i64 b] w fun e w' => e = .returned (.tuple #[.string (st.read b).1, .int .i64 (((st.read b).2 : Nat) : Int)]) ∧ Below w.heap.size w w' := by
  have KF := hide (pFaultAt p vS vL x st b w h hok)
  have H := hide h
  have HOk := hide hok
  by_cases h0 : st.left = 0
  · have hw : st.read b = (noText, 50) := by unfold St.read; rw [if_pos h0]
    have hf : faultAtOf st b = 50 := by unfold faultAtOf; rw [if_pos h0]
    rw [hw]
    rw [hf] at KF
    clear hw hf h0 h hok
    go_enter Tryz.func112, Tryz.ntmps112
    go_wp2_with fail
    refine KF.out.mono ?_
    rintro e w1 ⟨rfl, hw1⟩
    obtain rfl := hw1.symm
    go_wp2
    go_ret2
    exact ⟨rfl, Below.refl _ _⟩
  · by_cases h1 : 0 ≤ b ∧ b < (st.sure.length : Int)
    · have hw : st.read b = (stands st.sure b.toNat st.loose.reverse, 0) := by unfold St.read; rw [if_neg h0, if_neg (fun h => h h1)]
      have hf : faultAtOf st b = 0 := by unfold faultAtOf; rw [if_neg h0, if_neg (fun hh => hh h1)]
      rw [hw]
      rw [hf] at KF
      obtain ⟨m, hm⟩ : ∃ m : Nat, b = (m : Int) := ⟨b.toNat, by omega⟩
      subst hm
      have hms : m < st.sure.length := by omega
      have KS := hide (pStanding p vS vL x st m w h hok hms hl)
      have HRs := hide (stands_size hok.full hms st.loose.reverse (fun w hw => (hok.there w (List.mem_reverse.1 hw)).2))
      rw [show ((m : Int)).toNat = m from by omega]
      generalize stands st.sure m st.loose.reverse = T at *
      have hz := zv69
      have HZ1 := hide zrow1_size
      have HT1 := hide (tone T)
      have HTs : Hid ((tc T).toArray.size = 256) := tsize _ HRs.out
      clear hw hf h0 h1 h hok
      go_enter Tryz.func112, Tryz.ntmps112
      go_wp2_with fail
      refine KF.out.mono ?_
      rintro e w1 ⟨rfl, hw1⟩
      obtain rfl := hw1.symm
      go_wp2_with fail
      refine KS.out.mono ?_
      rintro e w2 ⟨rfl, hb2⟩
      have HB2 := hide hb2
      have HA1 := hide (heap_alloc_last w2 (.cells zrow1 90))
      have HA2 := hide (World.setRow_alloc_new w2 zrow1 (tc T).toArray 90)
      have HCv := hide (text_of T w2.heap.size _ (heap_alloc_last w2 (.cells (tc T).toArray 90)) HRs.out)
      have HBl := hide (bnext hb2 ((Below.refl _ _).alloc (Nat.le_refl _) (.cells (tc T).toArray 90)))
      clear hb2
      generalize zrow1 = Z at *
      go_upto_region 5 with (with_reducible refine wpList_store_row (by with_unfolding_all rfl) 90 (.tmp 7) (.tmp 16) (by with_unfolding_all rfl) w2.heap.size (tc T).toArray (by with_unfolding_all rfl) (by with_unfolding_all rfl) 90 Z HA1.out (by rw [HTs.out]; exact size69) (by rw [HTs.out, HZ1.out]) HT1.out ?_)
      rw [HA2.out]
      have hcv := HCv.out
      clear HA1 HA2 hz HCv
      generalize w2.alloc (.cells (tc T).toArray 90) = U at *
      generalize w2.heap.size = g at *
      go_wp2
      go_ret2
      exact ⟨rfl, HBl.out⟩
    · have hw : st.read b = (noText, 5) := by unfold St.read; rw [if_neg h0, if_pos h1]
      have hf : faultAtOf st b = 5 := by unfold faultAtOf; rw [if_neg h0, if_pos h1]
      rw [hw]
      rw [hf] at KF
      clear hw hf h0 h1 h hok
      go_enter Tryz.func112, Tryz.ntmps112
      go_wp2_with fail
      refine KF.out.mono ?_
      rintro e w1 ⟨rfl, hw1⟩
      obtain rfl := hw1.symm
      go_wp2
      go_ret2
      exact ⟨rfl, Below.refl _ _⟩
set_option maxHeartbeats 400000 in
theorem nRead (b : Int) (w : World) : Calls Tryz.prog 112 #[.pointer none, .int .i64 b] w fun e w' => e = .returned (.tuple #[.string ⟨#[]⟩, .int .i64 1]) ∧ w' = w := by
  go_enter Tryz.func112, Tryz.ntmps112
  go_wp2_with fail
  refine (nFaultAt b w).mono ?_
  rintro e w1 ⟨rfl, hw1⟩
  obtain rfl := hw1.symm
  go_wp2
  go_ret2
  exact ⟨rfl, rfl⟩
end Go.Proofs.YtchhojkhfdkhfaaGreatDoor
namespace Go.Proofs.YtchhojkhfdkhfaaGreatDoor
set_option maxRecDepth 20000
open Go Go.RowKit
theorem info71 : (Tryz.prog.info? 96).map (fun i => (i.zero, i.size, i.bytes)) = some (some (.agg (.int .i64 0 :: List.replicate 256 (.int .u8 0)).toArray), 257, 264) := by kernel_rfl
theorem zero71 : (Tryz.prog.info? 96).map (fun i => (i.zero, i.size)) = some (some (.agg (.int .i64 0 :: List.replicate 256 (.int .u8 0)).toArray), 257) := by kernel_rfl
theorem built71 (b : Int) : Tryz.prog.built 96 [(0, .int .i64 b)] = some (.int .i64 b :: List.replicate 256 (.int .u8 0)).toArray := by kernel_rfl
theorem size71 : (Tryz.prog.info? 96).map (·.size) = some 257 := (zero_of_info zero71).2
theorem size5 : (Tryz.prog.info? 5).map (·.size) = some 1 := by kernel_rfl
/-- A write whose bytes are 0 as yet. -/
def w0 (b : Int) : Array Value := (.int .i64 b :: List.replicate 256 (.int .u8 0)).toArray
theorem w0_size (b : Int) : (w0 b).size = 257 := by unfold w0; rw [List.size_toArray, List.length_cons, List.length_replicate]
theorem w0_one (b : Int) : (w0 b).all (·.oneCell') = true := all_oneCell_toArray (fun v hv => by
  rcases List.mem_cons.1 hv with rfl | h
  · rfl
  · rw [List.eq_of_mem_replicate h]; rfl)
theorem zv71 (w : World) : (zeroValue 96).run Tryz.prog w = .ok (.agg (w0 0)) w := (zero_of_info zero71).1 w
theorem wpList_built {P : Program} {ops : Array Oper} {rest : List Oper} {o : Oper} {a : Act} {w : World} {Q : Exit → Act → World → Prop} (hg : o.guard = none) (t : TypeId) (parts : Array (Nat × Operand)) (ho : o.op = .build t parts)
    (cells : Array Value) (hb : P.built t (parts.map fun (i, x) => (i, a.eval x)).toList = some cells) (h : wpList P ops Q rest (a.put o.dst (.agg cells)) w) : wpList P ops Q (o :: rest) a w :=
  wpList_build hg t parts ho (by rw [hb]; rfl) (by rw [hb]; exact h)
/-- The bytes go in. -/
theorem copy71 (w : World) (m : Nat) (d : ByteArray) (hd : d.size = 256) (ty : TypeId) : (Builtin.copy_ #[77, 9] ty #[.slice (some ⟨w.heap.size, 1, none⟩) 256 256, .string d]).run Tryz.prog (w.alloc (.cells (w0 (m : Int)) 96)) = .ok (goInt 256) (w.alloc (.cells (wc (m, d)).toArray 96)) := by
  have h := Lib.run_copy_row_string (P := Tryz.prog) (w.alloc (.cells (w0 (m : Int)) 96)) 77 9 ty 5 w.heap.size 1 256 256 d (w0 (m : Int)) 96 Tryz.underlying77 size5 (heap_alloc_last w _) (by omega) (by rw [w0_size]; omega)
  rw [World.setRow_alloc_new, hd] at h
  rw [h]
  congr 3
  unfold w0 wc tc
  rw [List.take_succ_cons, List.take_zero, List.drop_eq_nil_of_le (by rw [List.length_cons, List.length_replicate]; omega), List.append_nil]
  rfl
theorem fold_set : ∀ (l : List Value) (k : Nat) (cs : Array Value), k + l.length ≤ cs.size → ∀ e, ((l.zipIdx k).foldl (fun (cs : Array Value) (x : Value × Nat) => cs.setIfInBounds (0 + x.2) x.1) cs)[e]? = if k ≤ e ∧ e < k + l.length then l[e - k]? else cs[e]?
  | [], k, cs, _, e => by
    rw [if_neg (by simp)]
    rfl
  | v :: l, k, cs, h, e => by
    rw [List.zipIdx_cons, List.foldl_cons, fold_set l (k + 1) _ (by rw [Array.size_setIfInBounds]; simp only [List.length_cons] at h; omega) e]
    simp only [List.length_cons] at h ⊢
    by_cases h1 : k + 1 ≤ e ∧ e < k + 1 + l.length
    · rw [if_pos h1, if_pos (by omega), show e - k = e - (k + 1) + 1 from by omega, List.getElem?_cons_succ]
    · rw [if_neg h1]
      by_cases h2 : e = k
      · subst h2
        rw [if_pos (by omega), Nat.sub_self, List.getElem?_cons_zero, Nat.zero_add, Array.getElem?_setIfInBounds, if_pos rfl, if_pos (by omega)]
      · rw [if_neg (by omega), Nat.zero_add, Array.getElem?_setIfInBounds, if_neg (by omega)]
theorem fill_all (place : Nat → Option (Nat × Nat)) (cs W : Array Value) (n : Nat) (hp : place 0 = some (0, n)) (hW : W.size = n) (hc : cs.size = n) : Instr.fill place cs [(0, .agg W)] = some W := by
  unfold Instr.fill
  rw [hp]
  have hv : (Value.agg W).cells.size = n := hW
  have hcond : ¬ ((decide ((Value.agg W).cells.size ≠ n) || decide (0 + (Value.agg W).cells.size > cs.size)) = true) := by
    rw [hv]
    simp
    omega
  simp only [hcond]
  show some (Array.foldl (fun (cs : Array Value) (x : Value × Nat) => cs.setIfInBounds (0 + x.2) x.1) cs W.zipIdx) = some W
  congr 1
  rw [← Array.foldl_toList, Array.toList_zipIdx]
  apply Array.ext_getElem?
  intro e
  have := fold_set W.toList 0 cs (by simp; omega) e
  rw [this]
  by_cases h : e < W.size
  · rw [if_pos (by simp; omega), Nat.sub_zero, Array.getElem?_toList]
  · rw [if_neg (by simp; omega), Array.getElem?_eq_none (by omega), Array.getElem?_eq_none (by omega)]

/-- An operation that yields the same in whatever world is taken first; its slot is written out. -/
theorem takeW {P : Program} {md : Region.Mode} {ops : Array Oper} {Q : Exit → Act → World → Prop} (i d : Nat) {oi : Oper} {v : Value} {fuel : Nat} {listed : Array Bool} {a : Act} {w : World} (hi : ops[i]? = some oi) (hd : oi.dst = some d)
    (hs : Region.noSelect ops = true) (hf : Region.free md ops listed i = true) (hr : (Region.ready md ops listed).contains i = true)
    (hQ : ∀ c a w, Q (.panic c) (a.put oi.dst v) w → Q (.panic c) a w) (hy : Yields P ops oi v a)
    (h : wpAny P md ops Q fuel (listed.setIfInBounds i true) { tmps := a.tmps.setIfInBounds d v, defers := a.defers } w) : wpAny P md ops Q (fuel + 1) listed a w := by
  refine wpAny_take hi hs hf hr hQ hy ?_
  rw [hd]
  exact h
/-- An operation without a guard, by its own law. -/
theorem step_of_wp {P : Program} {ops : Array Oper} {o : Oper} {a : Act} {w : World} {K : Act → World → Prop} {Q : Exit → Act → World → Prop} {E : Prop} (hg : o.guard = none) (h : Oper.wp P o a w K Q) : if Region.wanted o (yielded ops a.tmps) = true then Oper.wp P o a w K Q else E := by
  rw [if_pos (by simp [Region.wanted, hg])]
  exact h
/-- One more write is appended, and the head holds the new row. -/
theorem PAt.appended {u V w2 : World} {p : Nat} {vS vL vL' : Value} {x : Int} {st : St} {y : Nat × ByteArray} (h : PAt u p vS vL x st) (hV : Below u.heap.size u V)
    (hown : w2.ownsRow 0 96 257 vL' (st.loose.length + 1) (lc st.loose ++ wc y)) (hg : V.grownBy w2 vL.ownBlock) (hat : ∀ k, vL'.ownBlock = some k → vL.ownBlock = some k ∨ u.heap.size ≤ k) :
    PAt (w2.setCell ⟨p, 1, none⟩ vL') p vS vL' x ⟨st.sure, st.loose ++ [y], st.left⟩ ∧ Loc (DF p vS vL) (DF p vS vL') u (w2.setCell ⟨p, 1, none⟩ vL') := by
  have hp : p < u.heap.size := h.lt p (Or.inl rfl)
  have e1 : w2.heap[p]? = some (.cells #[vS, vL, .int .i64 x] 76 (0, 0)) :=
    (hg.block p (Nat.lt_of_lt_of_le hp hV.size) (fun e => h.ne1 e.symm)).trans ((hV.block p hp).trans h.head)
  have hS : w2.ownsRow 0 90 256 vS st.sure.length (sc st.sure) := own_same h.sure (fun g hgS => by
    have hlt := own_lt h.sure hgS
    exact (hg.block g (Nat.lt_of_lt_of_le hlt hV.size) (fun e => h.ne2 hgS e.symm)).trans (hV.block g hlt))
  have hL : w2.ownsRow 0 96 257 vL' (st.loose ++ [y]).length (lc (st.loose ++ [y])) := by
    rw [lc_snoc, List.length_append]; exact hown
  have nL : vL'.ownBlock ≠ some p := fun e => by
    obtain ⟨cur, hc⟩ := row_type hL e
    rw [e1] at hc
    cases hc
  refine ⟨⟨?_, ?_, ?_, h.left, h.fit⟩, ?_⟩
  · rw [heap_set3 e1]; rfl
  · exact own_same hS (fun g hgS => Below.heap_setCell w2 ⟨p, 1, none⟩ vL' g (fun e => h.ne0 (by rw [← show g = p from e]; exact hgS)))
  · exact own_same hL (fun g hgL => Below.heap_setCell w2 ⟨p, 1, none⟩ vL' g (fun e => nL (by rw [← show g = p from e]; exact hgL)))
  · have l1 : Loc (DF p vS vL) (DF p vS vL) u V := Loc.of_below _ hV
    have l2 : Loc (DF p vS vL) (DF p vS vL') u w2 := ⟨hg.os.trans hV.os, hg.tape.trans hV.tape, hg.output.trans hV.output, Nat.le_trans hV.size hg.size, fun k hk hF => (hg.block k (Nat.lt_of_lt_of_le hk hV.size) (fun e => hF (Or.inr (Or.inr e.symm)))).trans (hV.block k hk), fun k hk => by
      rcases hk with h1 | h1 | h1
      · exact Or.inl (Or.inl h1)
      · exact Or.inl (Or.inr (Or.inl h1))
      · rcases hat k h1 with h2 | h2
        · exact Or.inl (Or.inr (Or.inr h2))
        · exact Or.inr h2⟩
    exact l2.trans (Loc.setCell w2 ⟨p, 1, none⟩ vL' (Or.inl rfl))
theorem PAt.headIn {u V w2 : World} {p : Nat} {vS vL : Value} {x : Int} {st : St} (h : PAt u p vS vL x st) (hV : Below u.heap.size u V) (hg : V.grownBy w2 vL.ownBlock) : w2.cell? ⟨p, 1, none⟩ = some vL ∧ w2.frozen? ⟨p, 1, none⟩ = false := by
  have hp : p < u.heap.size := h.lt p (Or.inl rfl)
  have e1 : w2.heap[p]? = some (.cells #[vS, vL, .int .i64 x] 76 (0, 0)) :=
    (hg.block p (Nat.lt_of_lt_of_le hp hV.size) (fun e => h.ne1 e.symm)).trans ((hV.block p hp).trans h.head)
  exact ⟨by simp [World.cell?, e1], by simp [World.frozen?, e1]⟩
/-- A row of one write. -/
theorem wp_build58 {o : Oper} {a : Act} {w : World} {K : Act → World → Prop} {Q : Exit → Act → World → Prop} (x : Operand) (W : Array Value) (ho : o.op = .buildSlice 74 1 #[(0, x)]) (hx : a.eval x = .agg W) (hW : W.size = 257)
    (h : K (a.put o.dst (.slice (some ⟨w.heap.size, 0, none⟩) 1 1)) (w.alloc (.cells W 96))) : o.wp Tryz.prog a w K Q := by
  obtain ⟨i0, hi, hz0, hz1, hz2⟩ := info_parts info71
  refine wp_buildSlice 74 96 1 #[(0, x)] ho W i0 _ Tryz.underlying74 hi hz0 (by rw [hz1]; decide) (by rw [hz1]; decide) ?_ h
  have hp : ((#[(0, x)] : Array (Nat × Operand)).map fun (i, x) => (i, a.eval x)).toList = [(0, a.eval x)] := by simp
  rw [hp, hx]
  exact fill_all _ _ W 257 (by rw [hz1]) hW (by rw [Array.size_map, Array.size_range, hz1])
theorem K_put {K : Act → World → Prop} {o : Oper} {a : Act} {v : Value} {w : World} (d : Nat) (hd : o.dst = some d) (h : K { tmps := a.tmps.setIfInBounds d v, defers := a.defers } w) : K (a.put o.dst v) w := by
  rw [hd]
  exact h
set_option maxRecDepth 10000 in
set_option maxHeartbeats 1000000 in
theorem pWrite_in (p : Nat) (vS vL : Value) (x : Int) (st : St) (m : Nat) (d : ByteArray) (w : World) (h : PAt w p vS vL x st) (hok : st.Ok) (h0 : st.left ≠ 0) (hm : m < st.sure.length) (hd : d.size = 256) (hl : st.loose.length ≤ 10000) :
    Calls Tryz.prog 34 #[.pointer (some ⟨p, 0, none⟩), .int .i64 (m : Int), .string d] w fun e w' => e = .returned (.int .i64 0) ∧ ∃ vL' y, PAt w' p vS vL' y ⟨st.sure, st.loose ++ [(m, d)], counted st.left⟩ ∧ Loc (DF p vS vL) (DF p vS vL') w w' := by
  have KF := hide (pFaultAt p vS vL x st (m : Int) w h hok)
  have hf : faultAtOf st (m : Int) = 0 := by unfold faultAtOf; rw [if_neg h0, if_neg (fun hh => hh ⟨by omega, by omega⟩)]
  rw [hf] at KF
  have H := hide h
  have HOk := hide hok
  have hz : (d.size : Int) = 256 := by omega
  have HD := hide hd
  have hzv := zv71
  have hcp := copy71 w m d hd
  have HZ0 := hide (w0_size 0)
  have HZ1 := hide (w0_size (m : Int))
  have HO1 := hide (w0_one (m : Int))
  have HBu : Hid (Tryz.prog.built 96 [(0, .int .i64 (m : Int))] = some (w0 (m : Int))) := built71 (m : Int)
  have HA1 := hide (heap_alloc_last w (.cells (w0 0) 96))
  have HA2 := hide (World.setRow_alloc_new w (w0 0) (w0 (m : Int)) 96)
  clear h hok hf h0 hd
  obtain ⟨i0, hi, hz0, hz1, hz2⟩ := info_parts info71
  have HI := hide (And.intro hi (And.intro hz0 (And.intro hz1 hz2)))
  clear hi hz0 hz1 hz2
  have HW1 : Hid ((wc (m, d)).toArray.size = 257) := by unfold Hid; rw [List.size_toArray, wc_length _ HD.out]
  have HWo : Hid (∀ v ∈ (wc (m, d)).toArray.toList, v.oneCell' = true) := fun v hv => wc_one (m, d) v (by simpa using hv)
  have HWl : Hid ((wc (m, d)).toArray.toList = wc (m, d)) := rfl
  generalize hW : (wc (m, d)).toArray = W at *
  clear hW
  generalize w0 0 = Z0 at *
  generalize w0 (m : Int) = Z1 at *
  go_enter Tryz.func34, Tryz.ntmps34
  go_wp2_with fail
  refine KF.out.mono ?_
  rintro e w1 ⟨rfl, hw1⟩
  obtain rfl := hw1.symm
  go_upto_region 7 with (first
    | (with_reducible refine wpList_built (by with_unfolding_all rfl) 96 _ (by with_unfolding_all rfl) Z1 (by with_unfolding_all exact HBu.out) ?_)
    | (with_reducible refine wpList_store_row (by with_unfolding_all rfl) 96 (.tmp 8) (.tmp 19) (by with_unfolding_all rfl) w.heap.size Z1 (by with_unfolding_all rfl) (by with_unfolding_all rfl) 96 Z0 HA1.out (by rw [HZ1.out]; exact size71) (by rw [HZ1.out, HZ0.out]) HO1.out ?_))
  rw [HA2.out]
  go_wp2_with fail
  have hU : Below w.heap.size w (w.alloc (.cells W 96)) := (Below.refl _ _).alloc (Nat.le_refl _) _
  have HP := hide (H.out.below hU)
  have L0 : Hid (Loc (DF p vS vL) (DF p vS vL) w (w.alloc (.cells W 96))) := Loc.of_below _ hU
  have HG := hide (heap_alloc_last w (.cells W 96))
  clear KF hcp HA1 HA2 HBu hU H
  generalize w.alloc (.cells W 96) = U at *
  generalize w.heap.size = g at *
  have hc1 := HP.out.cell1
  have hf1 := HP.out.free 1
  have HV : Hid (Below U.heap.size U (U.drew.alloc (.cells W 96))) := ((Below.refl _ _).drew).alloc (Nat.le_refl _) _
  have HV2 : Hid (U.heap.size ≤ (U.drew.alloc (.cells W 96)).heap.size) := HV.out.size
  have HG2 : Hid (U.drew.heap[g]? = some (.cells W 96 (0, 0))) := HG.out
  have hc2 : (U.alloc (.cells W 96)).cell? ⟨p, 1, none⟩ = some vL := (HP.out.below HV.out).cell1
  refine wp_region_any (by kernel_rfl) ?_
  change wpAny _ _ _ _ _ _ _ (World.drew _)
  refine takeW 0 24 (v := ?v0) rfl rfl (by kernel_rfl) (by kernel_rfl) (by kernel_rfl) (fun _ _ _ h => h) (Or.inl ⟨by rfl, ?hy0⟩) ?_
  case hy0 => (intro w; go_simp; first | done | with_reducible rfl)
  simp only [List.setIfInBounds_toArray, List.set_cons_succ, List.set_cons_zero]
  refine takeW 1 25 (v := ?v1) rfl rfl (by kernel_rfl) (by kernel_rfl) (by kernel_rfl) (fun _ _ _ h => h) (Or.inl ⟨by rfl, ?hy1⟩) ?_
  case hy1 => (intro w; go_simp; first | done | with_reducible rfl)
  simp only [List.setIfInBounds_toArray, List.set_cons_succ, List.set_cons_zero]
  refine takeW 2 26 (v := ?v2) rfl rfl (by kernel_rfl) (by kernel_rfl) (by kernel_rfl) (fun _ _ _ h => h) (Or.inl ⟨by rfl, ?hy2⟩) ?_
  case hy2 => (intro w; go_simp; first | done | with_reducible rfl)
  simp only [List.setIfInBounds_toArray, List.set_cons_succ, List.set_cons_zero]
  refine takeW 3 27 (v := ?v3) rfl rfl (by kernel_rfl) (by kernel_rfl) (by kernel_rfl) (fun _ _ _ h => h) (Or.inl ⟨by rfl, ?hy3⟩) ?_
  case hy3 => (intro w; go_simp; first | done | with_reducible rfl)
  simp only [List.setIfInBounds_toArray, List.set_cons_succ, List.set_cons_zero]
  refine wpAny_ready (rs := [4, 5]) (by kernel_rfl) (by simp) ?_
  refine AllReady.cons rfl (fun K hK => ?_) (AllReady.cons rfl (fun K hK => ?_) AllReady.nil)
  · go_simp
    refine hK _ _ ?_
    clear hK K
    refine wpAny_ready (rs := [5]) (by kernel_rfl) (by simp) ?_
    refine AllReady.cons rfl (fun K hK => ?_) AllReady.nil
    refine step_of_wp rfl (wp_load_row 96 (.tmp 8) rfl g rfl 96 W (0, 0) _ HG2.out Tryz.underlying96 rfl (by rw [HW1.out]; exact size71) ?_)
    refine K_put (K := K) 29 rfl ?_
    refine hK _ _ ?_
    clear hK K
    simp only [List.setIfInBounds_toArray, List.set_cons_succ, List.set_cons_zero]
    refine wpAny_ready (rs := [6]) (by kernel_rfl) (by simp) ?_
    refine AllReady.cons rfl (fun K hK => ?_) AllReady.nil
    refine step_of_wp rfl (wp_build58 (.tmp 29) W rfl rfl HW1.out ?_)
    refine K_put (K := K) 30 rfl ?_
    refine hK _ _ ?_
    clear hK K
    simp only [List.setIfInBounds_toArray, List.set_cons_succ, List.set_cons_zero]
    refine wpAny_ready (rs := [7]) (by kernel_rfl) (by simp) ?_
    refine AllReady.cons rfl (fun K hK => ?_) AllReady.nil
    refine step_append_lies _ (by rfl) _ _ _ (by rfl) 0 96 i0 _ 257 264 Tryz.underlying74 HI.out.1 HI.out.2.1 HI.out.2.2.1 HI.out.2.2.2 rfl (by decide) vL st.loose.length _ (by rfl) (World.ownsRow.alloc HP.out.drew.loose _) ⟨U.heap.size, 0, none⟩ 1 1 W.toList (by rfl) (by rw [Array.length_toList, HW1.out]) (World.news_of_block (heap_alloc_last U.drew _)) HWo.out (by decide) (by unfold maxLen; omega) (by omega) (by omega) _ rfl ?_
    intro gN cN w2 hown hgrow hat hlt2
    obtain ⟨hcw, hfw⟩ := HP.out.headIn HV.out hgrow
    refine K_put (K := K) 31 rfl ?_
    refine hK _ _ ?_
    clear hK K
    simp only [List.setIfInBounds_toArray, List.set_cons_succ, List.set_cons_zero]
    refine takeW 8 32 (v := ?v8) rfl rfl (by kernel_rfl) (by kernel_rfl) (by kernel_rfl) (fun _ _ _ h => h) (Or.inl ⟨by rfl, ?hy8⟩) ?_
    case hy8 => (intro w; go_simp; first | done | with_reducible rfl)
    simp only [List.setIfInBounds_toArray, List.set_cons_succ, List.set_cons_zero]
    refine takeW 9 33 (v := ?v9) rfl rfl (by kernel_rfl) (by kernel_rfl) (by kernel_rfl) (fun _ _ _ h => h) (Or.inl ⟨by rfl, ?hy9⟩) ?_
    case hy9 => (intro w; go_simp; first | done | with_reducible rfl)
    simp only [List.setIfInBounds_toArray, List.set_cons_succ, List.set_cons_zero]
    refine wpAny_ready (rs := [10]) (by kernel_rfl) (by simp) ?_
    refine AllReady.cons rfl (fun K hK => ?_) AllReady.nil
    go_simp
    refine hK _ _ ?_
    clear hK K
    refine wpAny_done (by kernel_rfl) ?_ _
    obtain ⟨ha1, ha2⟩ := HP.out.appended (y := (m, d)) HV.out (by rw [← HWl.out]; exact hown) hgrow (fun k hk => by
      cases hk
      rcases hat with h3 | h3
      · exact Or.inl h3
      · exact Or.inr (by rw [h3]; exact HV2.out))
    have HA := hide (And.intro ha1 (L0.out.trans ha2))
    clear ha1 ha2 hown hgrow hat hcw hfw hlt2
    generalize w2.setCell ⟨p, 1, none⟩ (.slice (some ⟨gN, 0, none⟩) (st.loose.length + 1) cN) = w3 at *
    go_wp2_with fail
    refine (pBurn p vS _ x _ w3 HA.out.1).mono ?_
    rintro e w4 ⟨⟨v4, rfl⟩, ⟨y4, h4⟩, l4⟩
    have HE := hide (And.intro h4 (HA.out.2.trans l4))
    clear h4 l4
    go_wp2
    go_ret
    exact ⟨rfl, _, y4, HE.out.1, HE.out.2⟩
  · refine step_of_wp rfl (wp_load_row 96 (.tmp 8) rfl g rfl 96 W (0, 0) _ HG2.out Tryz.underlying96 rfl (by rw [HW1.out]; exact size71) ?_)
    refine K_put (K := K) 29 rfl ?_
    refine hK _ _ ?_
    clear hK K
    simp only [List.setIfInBounds_toArray, List.set_cons_succ, List.set_cons_zero]
    refine wpAny_ready (rs := [4, 6]) (by kernel_rfl) (by simp) ?_
    refine AllReady.cons rfl (fun K hK => ?_) (AllReady.cons rfl (fun K hK => ?_) AllReady.nil)
    · go_simp
      refine hK _ _ ?_
      clear hK K
      refine wpAny_ready (rs := [6]) (by kernel_rfl) (by simp) ?_
      refine AllReady.cons rfl (fun K hK => ?_) AllReady.nil
      refine step_of_wp rfl (wp_build58 (.tmp 29) W rfl rfl HW1.out ?_)
      refine K_put (K := K) 30 rfl ?_
      refine hK _ _ ?_
      clear hK K
      simp only [List.setIfInBounds_toArray, List.set_cons_succ, List.set_cons_zero]
      refine wpAny_ready (rs := [7]) (by kernel_rfl) (by simp) ?_
      refine AllReady.cons rfl (fun K hK => ?_) AllReady.nil
      refine step_append_lies _ (by rfl) _ _ _ (by rfl) 0 96 i0 _ 257 264 Tryz.underlying74 HI.out.1 HI.out.2.1 HI.out.2.2.1 HI.out.2.2.2 rfl (by decide) vL st.loose.length _ (by rfl) (World.ownsRow.alloc HP.out.drew.loose _) ⟨U.heap.size, 0, none⟩ 1 1 W.toList (by rfl) (by rw [Array.length_toList, HW1.out]) (World.news_of_block (heap_alloc_last U.drew _)) HWo.out (by decide) (by unfold maxLen; omega) (by omega) (by omega) _ rfl ?_
      intro gN cN w2 hown hgrow hat hlt2
      obtain ⟨hcw, hfw⟩ := HP.out.headIn HV.out hgrow
      refine K_put (K := K) 31 rfl ?_
      refine hK _ _ ?_
      clear hK K
      simp only [List.setIfInBounds_toArray, List.set_cons_succ, List.set_cons_zero]
      refine takeW 8 32 (v := ?v8) rfl rfl (by kernel_rfl) (by kernel_rfl) (by kernel_rfl) (fun _ _ _ h => h) (Or.inl ⟨by rfl, ?hy8⟩) ?_
      case hy8 => (intro w; go_simp; first | done | with_reducible rfl)
      simp only [List.setIfInBounds_toArray, List.set_cons_succ, List.set_cons_zero]
      refine takeW 9 33 (v := ?v9) rfl rfl (by kernel_rfl) (by kernel_rfl) (by kernel_rfl) (fun _ _ _ h => h) (Or.inl ⟨by rfl, ?hy9⟩) ?_
      case hy9 => (intro w; go_simp; first | done | with_reducible rfl)
      simp only [List.setIfInBounds_toArray, List.set_cons_succ, List.set_cons_zero]
      refine wpAny_ready (rs := [10]) (by kernel_rfl) (by simp) ?_
      refine AllReady.cons rfl (fun K hK => ?_) AllReady.nil
      go_simp
      refine hK _ _ ?_
      clear hK K
      refine wpAny_done (by kernel_rfl) ?_ _
      obtain ⟨ha1, ha2⟩ := HP.out.appended (y := (m, d)) HV.out (by rw [← HWl.out]; exact hown) hgrow (fun k hk => by
        cases hk
        rcases hat with h3 | h3
        · exact Or.inl h3
        · exact Or.inr (by rw [h3]; exact HV2.out))
      have HA := hide (And.intro ha1 (L0.out.trans ha2))
      clear ha1 ha2 hown hgrow hat hcw hfw hlt2
      generalize w2.setCell ⟨p, 1, none⟩ (.slice (some ⟨gN, 0, none⟩) (st.loose.length + 1) cN) = w3 at *
      go_wp2_with fail
      refine (pBurn p vS _ x _ w3 HA.out.1).mono ?_
      rintro e w4 ⟨⟨v4, rfl⟩, ⟨y4, h4⟩, l4⟩
      have HE := hide (And.intro h4 (HA.out.2.trans l4))
      clear h4 l4
      go_wp2
      go_ret
      exact ⟨rfl, _, y4, HE.out.1, HE.out.2⟩
    · refine step_of_wp rfl (wp_build58 (.tmp 29) W rfl rfl HW1.out ?_)
      refine K_put (K := K) 30 rfl ?_
      refine hK _ _ ?_
      clear hK K
      simp only [List.setIfInBounds_toArray, List.set_cons_succ, List.set_cons_zero]
      refine wpAny_ready (rs := [4]) (by kernel_rfl) (by simp) ?_
      refine AllReady.cons rfl (fun K hK => ?_) AllReady.nil
      go_simp
      refine hK _ _ ?_
      clear hK K
      refine wpAny_ready (rs := [7]) (by kernel_rfl) (by simp) ?_
      refine AllReady.cons rfl (fun K hK => ?_) AllReady.nil
      refine step_append_lies _ (by rfl) _ _ _ (by rfl) 0 96 i0 _ 257 264 Tryz.underlying74 HI.out.1 HI.out.2.1 HI.out.2.2.1 HI.out.2.2.2 rfl (by decide) vL st.loose.length _ (by rfl) (World.ownsRow.alloc HP.out.drew.loose _) ⟨U.heap.size, 0, none⟩ 1 1 W.toList (by rfl) (by rw [Array.length_toList, HW1.out]) (World.news_of_block (heap_alloc_last U.drew _)) HWo.out (by decide) (by unfold maxLen; omega) (by omega) (by omega) _ rfl ?_
      intro gN cN w2 hown hgrow hat hlt2
      obtain ⟨hcw, hfw⟩ := HP.out.headIn HV.out hgrow
      refine K_put (K := K) 31 rfl ?_
      refine hK _ _ ?_
      clear hK K
      simp only [List.setIfInBounds_toArray, List.set_cons_succ, List.set_cons_zero]
      refine takeW 8 32 (v := ?v8) rfl rfl (by kernel_rfl) (by kernel_rfl) (by kernel_rfl) (fun _ _ _ h => h) (Or.inl ⟨by rfl, ?hy8⟩) ?_
      case hy8 => (intro w; go_simp; first | done | with_reducible rfl)
      simp only [List.setIfInBounds_toArray, List.set_cons_succ, List.set_cons_zero]
      refine takeW 9 33 (v := ?v9) rfl rfl (by kernel_rfl) (by kernel_rfl) (by kernel_rfl) (fun _ _ _ h => h) (Or.inl ⟨by rfl, ?hy9⟩) ?_
      case hy9 => (intro w; go_simp; first | done | with_reducible rfl)
      simp only [List.setIfInBounds_toArray, List.set_cons_succ, List.set_cons_zero]
      refine wpAny_ready (rs := [10]) (by kernel_rfl) (by simp) ?_
      refine AllReady.cons rfl (fun K hK => ?_) AllReady.nil
      go_simp
      refine hK _ _ ?_
      clear hK K
      refine wpAny_done (by kernel_rfl) ?_ _
      obtain ⟨ha1, ha2⟩ := HP.out.appended (y := (m, d)) HV.out (by rw [← HWl.out]; exact hown) hgrow (fun k hk => by
        cases hk
        rcases hat with h3 | h3
        · exact Or.inl h3
        · exact Or.inr (by rw [h3]; exact HV2.out))
      have HA := hide (And.intro ha1 (L0.out.trans ha2))
      clear ha1 ha2 hown hgrow hat hcw hfw hlt2
      generalize w2.setCell ⟨p, 1, none⟩ (.slice (some ⟨gN, 0, none⟩) (st.loose.length + 1) cN) = w3 at *
      go_wp2_with fail
      refine (pBurn p vS _ x _ w3 HA.out.1).mono ?_
      rintro e w4 ⟨⟨v4, rfl⟩, ⟨y4, h4⟩, l4⟩
      have HE := hide (And.intro h4 (HA.out.2.trans l4))
      clear h4 l4
      go_wp2
      go_ret
      exact ⟨rfl, _, y4, HE.out.1, HE.out.2⟩
set_option maxHeartbeats 400000 in
theorem pWrite (p : Nat) (vS vL : Value) (x : Int) (st : St) (b : Int) (d : ByteArray) (w : World) (h : PAt w p vS vL x st) (hok : st.Ok) (hl : st.loose.length ≤ 10000) :
    Calls Tryz.prog 34 #[.pointer (some ⟨p, 0, none⟩), .int .i64 b, .string d] w fun e w' => e = .returned (.int .i64 (((st.write b d).1 : Nat) : Int)) ∧ ∃ vL' y, PAt w' p vS vL' y (st.write b d).2 ∧ Loc (DF p vS vL) (DF p vS vL') w w' := by
  have KF := hide (pFaultAt p vS vL x st b w h hok)
  by_cases h0 : st.left = 0
  · have hw : st.write b d = (50, st) := by unfold St.write; rw [if_pos h0]
    have hf : faultAtOf st b = 50 := by unfold faultAtOf; rw [if_pos h0]
    rw [hw]
    rw [hf] at KF
    have H := hide h
    clear hw hf h0 h hok
    go_enter Tryz.func34, Tryz.ntmps34
    go_wp2_with fail
    refine KF.out.mono ?_
    rintro e w1 ⟨rfl, hw1⟩
    obtain rfl := hw1.symm
    go_wp2
    go_ret
    exact ⟨rfl, vL, x, H.out, Loc.refl _ _⟩
  · by_cases h1 : 0 ≤ b ∧ b < (st.sure.length : Int)
    · by_cases h2 : d.size = 256
      · have hw : st.write b d = (0, ⟨st.sure, st.loose ++ [(b.toNat, d)], counted st.left⟩) := by unfold St.write; rw [if_neg h0, if_neg (fun h => h h1), if_neg (fun h => h h2)]
        rw [hw]
        obtain ⟨m, hm⟩ : ∃ m : Nat, b = (m : Int) := ⟨b.toNat, by omega⟩
        subst hm
        rw [Int.toNat_natCast]
        exact pWrite_in p vS vL x st m d w h hok h0 (by omega) h2 hl
      · have hw : st.write b d = (2, st) := by unfold St.write; rw [if_neg h0, if_neg (fun h => h h1), if_pos h2]
        have hf : faultAtOf st b = 0 := by unfold faultAtOf; rw [if_neg h0, if_neg (fun hh => hh h1)]
        rw [hw]
        rw [hf] at KF
        have hz : ¬ ((d.size : Int) = 256) := by omega
        have H := hide h
        clear hw hf h0 h1 h2 h hok
        go_enter Tryz.func34, Tryz.ntmps34
        go_wp2_with fail
        refine KF.out.mono ?_
        rintro e w1 ⟨rfl, hw1⟩
        obtain rfl := hw1.symm
        go_wp2
        go_ret
        exact ⟨rfl, vL, x, H.out, Loc.refl _ _⟩
    · have hw : st.write b d = (5, st) := by unfold St.write; rw [if_neg h0, if_pos h1]
      have hf : faultAtOf st b = 5 := by unfold faultAtOf; rw [if_neg h0, if_pos h1]
      rw [hw]
      rw [hf] at KF
      have H := hide h
      clear hw hf h0 h1 h hok
      go_enter Tryz.func34, Tryz.ntmps34
      go_wp2_with fail
      refine KF.out.mono ?_
      rintro e w1 ⟨rfl, hw1⟩
      obtain rfl := hw1.symm
      go_wp2
      go_ret
      exact ⟨rfl, vL, x, H.out, Loc.refl _ _⟩
set_option maxHeartbeats 400000 in
theorem nWrite (b : Int) (s : ByteArray) (w : World) : Calls Tryz.prog 34 #[.pointer none, .int .i64 b, .string s] w fun e w' => e = .returned (.int .i64 1) ∧ w' = w := by
  go_enter Tryz.func34, Tryz.ntmps34
  go_wp2_with fail
  refine (nFaultAt b w).mono ?_
  rintro e w1 ⟨rfl, hw1⟩
  obtain rfl := hw1.symm
  go_wp2
  go_ret
  exact ⟨rfl, rfl⟩
end Go.Proofs.YtchhojkhfdkhfaaGreatDoor
namespace Go.Proofs.YtchhojkhfdkhfaaGreatDoor
open Go Go.RowKit Frm
/-- An operation that yields the same in every world that meets S is taken first; its slot is written out. -/
theorem takeAt7 {P : Program} {md : Region.Mode} {ops : Array Oper} {Q : Exit → Act → World → Prop} {S : World → Prop} (i d : Nat) {oi : Oper} {v : Value} {fuel : Nat} {listed : Array Bool} {a : Act} {w : World} (hi : ops[i]? = some oi) (hd : oi.dst = some d)
    (hs : Region.noSelect ops = true) (hf : Region.free md ops listed i = true) (hr : (Region.ready md ops listed).contains i = true)
    (hQ : ∀ c a w, Q (.panic c) (a.put oi.dst v) w → Q (.panic c) a w) (hy : YieldsIf P ops S oi v a) (hS : S w)
    (h : wpAnyH P md ops Q S fuel (listed.setIfInBounds i true) { tmps := a.tmps.setIfInBounds d v, defers := a.defers } w) : wpAnyH P md ops Q S (fuel + 1) listed a w := by
  refine wpAnyH_take hi hs hf hr hQ hy hS ?_
  rw [hd]
  exact h
/-- A whole row is loaded. -/
theorem exec_load_row {P : Program} {ev : Operand → Value} {o : Oper} {w : World} (ty : TypeId) (x : Operand) (ho : o.op = .load ty x)
    (g : Nat) (hx : ev x = .pointer (some ⟨g, 0, none⟩)) (t : TypeId) (cs : Array Value) (fr : Nat × Nat) (d : TypeDesc) (hg : w.heap[g]? = some (.cells cs t fr))
    (hu : P.underlying ty = some d) (hd : (match d with | .struct _ | .array _ _ => true | _ => false) = true) (hi : (P.info? ty).map (·.size) = some cs.size) :
    (execOp ev o).run P w = .ok (.value (.agg cs)) w := by
  unfold execOp
  simp only [ho, hx, Instr.loadAt, Instr.sureAddr, Sem.run_bind, Sem.run_pure, Result.andThen_ok, run_loadVar_row w g t ty cs fr d hg hu hd hi]
/-- 'copy(dst, s)', whatever the lengths. -/
theorem run_copy_some7 {P : Program} (w : World) (dT sT ty elem : TypeId) (g o dLen dCap : Nat) (s : ByteArray) (cur : Array Value) (t : TypeId)
    (hu : P.underlying dT = some (.slice elem)) (hs : (P.info? elem).map (·.size) = some 1) (hg : w.heap[g]? = some (.cells cur t (0, 0))) (m : Nat) (hm : Nat.min s.size dLen = m) (hfit : o + m ≤ cur.size) :
    (Builtin.copy_ #[dT, sT] ty #[.slice (some ⟨g, o, none⟩) dLen dCap, .string s]).run P w =
      .ok (goInt m) (w.setRow g (cur.toList.take o ++ Lib.byteCells (s.data.toList.take m) ++ cur.toList.drop (o + m)).toArray) := by
  have hms : m ≤ s.size := by rw [← hm]; exact Nat.min_le_left _ _
  have hlen : (Lib.byteCells (s.data.toList.take m)).length = m := by
    rw [Lib.byteCells_length, List.length_take, ← Lib.size_eq]; omega
  have hst := run_storeCells_at P g o t (Lib.byteCells (s.data.toList.take m)) 0 cur w hg (by rw [hlen]; simpa using hfit) (Lib.byteCells_one _)
  have htk : List.take m (List.map (fun b : UInt8 => Value.int IntKind.u8 (b.toNat : Int)) s.data.toList) = Lib.byteCells (s.data.toList.take m) := by
    rw [← List.map_take]
    rfl
  rw [hlen] at hst
  simp only [Nat.add_zero] at hst
  cases hq : P.info? elem with
  | none => simp [hq] at hs
  | some i =>
    simp [Builtin.copy_, run_underlying hu, Builtin.lenOf, Builtin.firstCells, sizeOf, typeInfo, hq, hm]
    rw [htk, hst]
    simp [Result.andThen]
theorem bc_replicate7 (n : Nat) : List.replicate n (Value.int .u8 0) = Lib.byteCells (List.replicate n 0) := by
  unfold Lib.byteCells
  rw [List.map_replicate]
  rfl
theorem bc_append7 (a b : List UInt8) : Lib.byteCells a ++ Lib.byteCells b = Lib.byteCells (a ++ b) := by unfold Lib.byteCells; rw [List.map_append]
theorem z71_eq : Tryz.zeroCells89 = (List.replicate 256 (Value.int .u8 0)).toArray := by kernel_rfl
theorem z71_size : Tryz.zeroCells89.size = 256 := by rw [z71_eq, List.size_toArray, List.length_replicate]
theorem size71b : (Tryz.prog.info? 89).map (·.size) = some 256 := by kernel_rfl
set_option maxRecDepth 10000 in
/-- The rest of a text, into an array of bytes 0: its block. -/
theorem copyBlk (w : World) (t : ByteArray) (i : Nat) (ty : TypeId) :
    (Builtin.copy_ #[77, 9] ty #[.slice (some ⟨w.heap.size, 0, none⟩) 256 256, .string (t.extract (i * 256) t.size)]).run Tryz.prog (w.alloc (.cells Tryz.zeroCells89 89)).drew =
      .ok (goInt (min 256 (t.size - i * 256) : Nat)) (w.alloc (.cells (tc (blkT t i)).toArray 89)).drew := by
  have hg : (w.alloc (.cells Tryz.zeroCells89 89)).drew.heap[w.heap.size]? = some (.cells Tryz.zeroCells89 89 (0, 0)) := heap_alloc_last w _
  have h := run_copy_some7 (P := Tryz.prog) (w.alloc (.cells Tryz.zeroCells89 89)).drew 77 9 ty 5 w.heap.size 0 256 256 (t.extract (i * 256) t.size) Tryz.zeroCells89 89 Tryz.underlying77 size5 hg (min 256 (t.size - i * 256)) (by rw [ByteArray.size_extract]; show min _ _ = _; omega) (by rw [z71_size]; omega)
  have hrow : (Tryz.zeroCells89.toList.take 0 ++ Lib.byteCells ((t.extract (i * 256) t.size).data.toList.take (min 256 (t.size - i * 256))) ++ Tryz.zeroCells89.toList.drop (0 + min 256 (t.size - i * 256))).toArray = (tc (blkT t i)).toArray := by
    have hs : t.data.toList.length = t.size := by rw [Array.length_toList]; rfl
    have e1 : (t.extract (i * 256) t.size).data.toList.take (min 256 (t.size - i * 256)) = (t.extract (i * 256) (i * 256 + 256)).data.toList := by
      rw [ByteArray.data_extract, ByteArray.data_extract, Array.toList_extract, Array.toList_extract]
      simp only [List.extract_eq_take_drop]
      rw [List.take_take]
      by_cases h : i * 256 ≤ t.size
      · by_cases h2 : i * 256 + 256 ≤ t.size
        · congr 1
          omega
        · rw [List.take_of_length_le (by rw [List.length_drop, hs]; omega), List.take_of_length_le (by rw [List.length_drop, hs]; omega)]
      · rw [List.drop_of_length_le (by omega)]
        simp
    rw [e1, z71_eq, List.take_zero, List.nil_append, Nat.zero_add, List.drop_replicate, bc_replicate7, bc_append7]
    unfold blkT tc zs
    rw [ByteArray.data_append, Array.toList_append]
  rw [hrow] at h
  have e : (w.alloc (.cells Tryz.zeroCells89 89)).drew.setRow w.heap.size (tc (blkT t i)).toArray = (w.alloc (.cells (tc (blkT t i)).toArray 89)).drew := by
    have h1 : (w.alloc (.cells Tryz.zeroCells89 89)).drew.setRow w.heap.size (tc (blkT t i)).toArray = ((w.alloc (.cells Tryz.zeroCells89 89)).setRow w.heap.size (tc (blkT t i)).toArray).drew := rfl
    rw [h1, World.setRow_alloc_new]
  rw [h, e]
end Go.Proofs.YtchhojkhfdkhfaaGreatDoor
namespace Go.Proofs.YtchhojkhfdkhfaaGreatDoor.Frm
open Go Go.RowKit

theorem val_u32 {a : Int} {b : Nat} (h : a = (b : Int)) : Value.int .u32 a = .int .u32 (b : Int) := by rw [h]
theorem ret_u32 {a : Int} {b : Nat} (h : a = (b : Int)) : Ending.returned (.int .u32 a) = .returned (.int .u32 (b : Int)) := by rw [h]
theorem and_one (c : Nat) (hc : c < 4294967296) : bits .and .u32 (c : Int) 1 = ((c % 2 : Nat) : Int) := by
  have h := u32_and_nat c 1 hc (by decide)
  rw [Nat.and_one_is_mod] at h
  exact h
theorem xor_poly (c : Nat) (hc : c < 4294967296) : bits .xor .u32 ((c : Int) / 2) 2197175160 = ((c / 2 ^^^ 2197175160 : Nat) : Int) := by
  have h := u32_xor_nat (c / 2) 2197175160 (by omega) (by decide)
  rw [show ((c / 2 : Nat) : Int) = (c : Int) / 2 from by omega] at h
  exact h
theorem stp_odd {c : Nat} (h : c % 2 = 1) : stp c = c / 2 ^^^ 2197175160 := by unfold stp; rw [if_pos h]
theorem stp_even {c : Nat} (h : c % 2 = 0) : stp c = c / 2 := by unfold stp; rw [if_neg (by omega)]

end Go.Proofs.YtchhojkhfdkhfaaGreatDoor.Frm
