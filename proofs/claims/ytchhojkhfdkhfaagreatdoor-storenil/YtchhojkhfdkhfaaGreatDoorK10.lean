/- What Read does, and the document's own. Slices of texts, and same. What the document's own Scan does. The iterator of package frame: all that is found, or a beginning of it. What Scan does: it ranges over the iterator, and leaves it at the first that can't be read. A buffer of bytes of the call's own, whatever mark its block bears: appending one byte. Buffers of bytes: where they begin, what text they are; what Block makes. Facts on worlds for regions that draw their order: what is carried from one operation to the next. -/
import Derived.Test.YtchhojkhfdkhfaaGreatDoorK09
import Derived.Deep.RegionHeld3
import Derived.RangeFuncNested
import Derived.RangeFuncBound
import Derived.RangeFuncCalls
import Derived.RangeFuncLeaves
import Derived.Shelf.Abstract
import Derived.Shelf.RegionOpen
import Derived.WalkKit
import Derived.OwnWalkIn
import Derived.TacticsInMore
import Derived.LoopNIn
import Derived.LoopIn
import Derived.Maps.AppendAt
import Derived.Test.YtchhojkhfdkhfaaGreatDoorK05
import Derived.Test.YtchhojkhfdkhfaaGreatDoorK00
import Derived.Deep.Onto
import Derived.Deep.AppendLies
import Derived.Test.YtchhojkhfdkhfaaGreatDoorK02
namespace Go.Proofs.YtchhojkhfdkhfaaGreatDoor.Frm
open Go Go.RowKit
theorem ret_three {t u : ByteArray} {a b c d : Int} (ht : t = u) (h : a = b) (k : c = d) : Ending.returned (.tuple #[.string t, .int .i64 a, .int .i64 c]) = .returned (.tuple #[.string u, .int .i64 b, .int .i64 d]) := by rw [ht, h, k]
set_option maxRecDepth 10000 in
set_option maxHeartbeats 1000000 in
theorem read_any (s : ByteArray) (w : World) (hs : s.size ≤ 140737488351232) :
    Calls Tryz.prog 158 #[.string s] w fun e w' => e = .returned (.tuple #[.string (rdf s).1, .int .i64 (((rdf s).2.1 : Nat) : Int), .int .i64 (((rdf s).2.2 : Nat) : Int)]) ∧ Below w.heap.size w w' := by
  by_cases h4 : s.size < 4
  · have HR : Hid (rdf s = (⟨#[]⟩, 0, 40)) := by unfold Hid rdf; rw [if_pos h4]
    have hz : (s.size : Int) < 4 := by omega
    clear h4
    go_enter Tryz.func158, Tryz.ntmps158
    go_wp2
    go_ret3
    exact ⟨by rw [HR.out]; rfl, Below.refl _ _⟩
  · have hz4 : ¬ ((s.size : Int) < 4) := by omega
    have hml : s.size ≤ maxLen := by unfold maxLen; omega
    have KN := hide (fun u => numberOf_any s u (by omega) hml)
    have hnl : num4 (bytesOf s) < 4294967296 := num4_lt _ (bytesOf_lt s)
    by_cases hl : 65536 < num4 (bytesOf s)
    · have HR : Hid (rdf s = (⟨#[]⟩, 0, 4)) := by unfold Hid rdf; rw [if_neg h4, if_pos hl]
      generalize num4 (bytesOf s) = k at *
      have hz : (65536 : Int) < (k : Int) := by omega
      clear h4 hl
      go_enter Tryz.func158, Tryz.ntmps158
      go_wp2_with fail
      refine (KN.out _).mono ?_
      rintro e w1 ⟨rfl, n, rfl⟩
      go_wp2
      go_ret3
      exact ⟨by rw [HR.out]; rfl, below_drewN (Below.refl _ _) _⟩
    · by_cases ht : s.size < num4 (bytesOf s) + 8
      · have HR : Hid (rdf s = (⟨#[]⟩, 0, 40)) := by unfold Hid rdf; rw [if_neg h4, if_neg hl, if_pos ht]
        generalize num4 (bytesOf s) = k at *
        have hz : ¬ ((65536 : Int) < (k : Int)) := by omega
        have hz2 : (s.size : Int) < (k : Int) + 8 := by omega
        clear h4 hl
        go_enter Tryz.func158, Tryz.ntmps158
        go_wp2_with fail
        refine (KN.out _).mono ?_
        rintro e w1 ⟨rfl, n, rfl⟩
        go_wp2
        go_ret3
        exact ⟨by rw [HR.out]; rfl, below_drewN (Below.refl _ _) _⟩
      · have hk : num4 (bytesOf s) + 4 ≤ s.size := by omega
        have e1 : bytesOf (s.extract 0 (num4 (bytesOf s) + 4)) = (bytesOf s).take (num4 (bytesOf s) + 4) := by rw [bytesOf_extract, List.drop_zero]
        have e2 : bytesOf (s.extract (num4 (bytesOf s) + 4) s.size) = (bytesOf s).drop (num4 (bytesOf s) + 4) := by
          rw [bytesOf_extract, List.take_of_length_le (by rw [bytesOf_length]; exact Nat.le_refl _)]
        have KO := hide (fun u => of_any (s.extract 0 (num4 (bytesOf s) + 4)) u (by rw [ByteArray.size_extract]; omega))
        have KM := hide (fun u => numberOf_any (s.extract (num4 (bytesOf s) + 4) s.size) u (by rw [ByteArray.size_extract]; omega) (by rw [ByteArray.size_extract]; omega))
        rw [e1] at KO
        rw [e2] at KM
        have KC := hide (fun u => clone_any (s.extract 4 (num4 (bytesOf s) + 4)) u (by rw [ByteArray.size_extract]; omega))
        have HR : Hid (rdf s = if more 0 ((bytesOf s).take (num4 (bytesOf s) + 4)) ≠ num4 ((bytesOf s).drop (num4 (bytesOf s) + 4)) then (⟨#[]⟩, 0, 41) else (s.extract 4 (num4 (bytesOf s) + 4), num4 (bytesOf s) + 8, 0)) := by unfold Hid rdf; rw [if_neg h4, if_neg hl, if_neg ht]
        generalize more 0 ((bytesOf s).take (num4 (bytesOf s) + 4)) = a at *
        generalize num4 ((bytesOf s).drop (num4 (bytesOf s) + 4)) = b at *
        clear e1 e2
        generalize num4 (bytesOf s) = k at *
        obtain ⟨m, hm⟩ : ∃ m : Nat, m = k + 4 := ⟨_, rfl⟩
        rw [← hm] at KO KM KC HR hk
        have hz : ¬ ((65536 : Int) < (k : Int)) := by omega
        have hz2 : ¬ ((s.size : Int) < (k : Int) + 8) := by omega
        have HMZ : Hid ((4 : Int) + (k : Int) = (m : Int)) := by unfold Hid; omega
        have hz5 : (m : Int) ≤ (s.size : Int) := by omega
        have hz6 : (4 : Int) ≤ (m : Int) := by omega
        clear h4 hl hm
        go_enter Tryz.func158, Tryz.ntmps158
        go_wp2_with fail
        refine (KN.out _).mono ?_
        rintro e w1 ⟨rfl, n, rfl⟩
        go_wp2_with fail
        rw [HMZ.out]
        have HB0 := hide (below_drewN (Below.refl w.heap.size w) n)
        generalize w.drewN n = W at *
        go_region_held3 (fun u => Below w.heap.size w u) (first | (with_reducible exact HB0.out.drew) | ((with_reducible refine bnext ?_ hb2); with_reducible assumption) | ((with_reducible refine below_drewN ?_ n3); with_reducible assumption) | (with_reducible assumption))
          (first
          | (go_at_call 133; refine (KO.out _).mono ?_; rintro e w2 ⟨rfl, hb2⟩)
          | (go_at_call 165; refine (KM.out _).mono ?_; rintro e w3 ⟨rfl, n3, rfl⟩))
        all_goals
          rename_i hHeld
          have HH := hide hHeld
          clear hHeld
          by_cases hab : a = b
          · subst hab
            have hne : (((a : Int) != (a : Int)) = true) = False := by simp
            go_wp2_with fail
            refine (KC.out _).mono ?_
            rintro e w4 ⟨rfl, hb4⟩
            have HB4 := hide (bnext HH.out hb4)
            clear hb4
            go_wp2
            go_ret3
            exact ⟨by rw [HR.out, if_neg (by simp)]; exact ret_three rfl (by have h := HMZ.out; show (m : Int) + 4 = ((k + 8 : Nat) : Int); omega) rfl, HB4.out⟩
          · have hne : ¬ ((a : Int) = (b : Int)) := by omega
            have hneb : ((a : Int) != (b : Int)) = true := by simpa using hne
            go_wp2
            go_ret3
            exact ⟨by rw [HR.out, if_pos hab]; rfl, HH.out⟩
end Go.Proofs.YtchhojkhfdkhfaaGreatDoor.Frm
namespace Go.Proofs.YtchhojkhfdkhfaaGreatDoor.Frm
open Go Go.RowKit
/-- A slice's texts lie at its address. -/
def StrsAt (w : World) (a : Option Addr) (l : List ByteArray) : Prop :=
  l = [] ∨ ∃ b off, a = some ⟨b, off, none⟩ ∧ ∀ j (hj : j < l.length), w.cell? ⟨b, off + j, none⟩ = some (.string l[j])
theorem StrsAt.below {w w' : World} {a : Option Addr} {l : List ByteArray} (h : StrsAt w a l) (hb : Below w.heap.size w w') : StrsAt w' a l := by
  rcases h with rfl | ⟨b, off, rfl, hc⟩
  · exact Or.inl rfl
  · refine Or.inr ⟨b, off, rfl, fun j hj => ?_⟩
    have h := hc j hj
    exact (hb.cell (p := ⟨b, off + j, none⟩) (World.block_lt_of_cell? w _ h)).trans h
theorem StrsAt.take {w : World} {a : Option Addr} {l : List ByteArray} (h : StrsAt w a l) (k : Nat) : StrsAt w a (l.take k) := by
  rcases h with rfl | ⟨b, off, rfl, hc⟩
  · exact Or.inl (by simp)
  · refine Or.inr ⟨b, off, rfl, fun j hj => ?_⟩
    have hj' : j < l.length := by simp at hj; omega
    rw [hc j hj', List.getElem_take]
/-- What a slice of texts that is this call's own holds. -/
def OwnL (w : World) (base : Nat) (v : Value) (l : List ByteArray) : Prop := w.ownsRow base 9 1 v l.length (l.map Value.string)
theorem OwnL.below {w w' : World} {base : Nat} {v : Value} {l : List ByteArray} (h : OwnL w base v l) (hb : Below w.heap.size w w') : OwnL w' base v l := by
  refine ⟨h.1, ?_⟩
  rcases h.2 with h0 | ⟨g, cap, cur, rfl, h1, hg, hr⟩
  · exact Or.inl h0
  · exact Or.inr ⟨g, cap, cur, rfl, h1, (hb.block g (Array.getElem?_eq_some_iff.1 hg).1).trans hg, hr⟩
theorem OwnL.strs {w : World} {base : Nat} {v : Value} {l : List ByteArray} (h : OwnL w base v l) : ∃ a c, v = .slice a l.length c ∧ StrsAt w a l := by
  have h0 := h
  rcases h.2 with ⟨rfl, hz⟩ | ⟨g, cap, cur, rfl, h1, hg, hr⟩
  · have hl : l = [] := List.length_eq_zero_iff.1 hz
    subst hl
    exact ⟨none, 0, rfl, Or.inl rfl⟩
  · refine ⟨_, cap, rfl, Or.inr ⟨g, 0, rfl, fun j hj => ?_⟩⟩
    rw [Nat.zero_add]
    have := World.ownsRow.cellAt h0 j (by omega)
    rw [this]
    simp [hj]
end Go.Proofs.YtchhojkhfdkhfaaGreatDoor.Frm
namespace Go.Proofs.YtchhojkhfdkhfaaGreatDoor.Frm
open Go Go.RowKit
theorem map_snoc (l : List ByteArray) (t : ByteArray) : l.map Value.string ++ [.string t] = (l ++ [t]).map Value.string := by simp
theorem extract_extract (s : ByteArray) (g k : Nat) : (s.extract g s.size).extract k (s.extract g s.size).size = s.extract (g + k) s.size := by
  apply bytesOf_inj
  rw [bytesOf_extract, bytesOf_extract, bytesOf_extract, ByteArray.size_extract, Nat.min_self]
  rw [List.take_of_length_le (l := bytesOf s) (by rw [bytesOf_length]; exact Nat.le_refl _)]
  rw [List.take_of_length_le (by rw [List.length_drop, bytesOf_length]; exact Nat.le_refl _), List.drop_drop]
/-- What Scan tells. -/
def Told (s : ByteArray) (w : World) (e : Ending) (w' : World) : Prop :=
  ∃ a c, e = .returned (.tuple #[.slice a (scn s).1.length c, .int .i64 (((scn s).2.1 : Nat) : Int), .int .i64 (((scn s).2.2 : Nat) : Int)]) ∧ OwnL w' w.heap.size (.slice a (scn s).1.length c) (scn s).1 ∧ Below w.heap.size w w'
theorem Told.mk {s : ByteArray} {w w' : World} {l : List ByteArray} {g x : Nat} (hs : scn s = (l, g, x)) (a : Option Addr) (c : Nat) (hst : OwnL w' w.heap.size (.slice a l.length c) l) (hb : Below w.heap.size w w') :
    Told s w (.returned (.tuple #[.slice a l.length c, .int .i64 (g : Int), .int .i64 (x : Int)])) w' := by
  refine ⟨a, c, ?_, ?_, hb⟩
  · rw [hs]
  · rw [hs]; exact hst
end Go.Proofs.YtchhojkhfdkhfaaGreatDoor.Frm
namespace Go.Proofs.YtchhojkhfdkhfaaGreatDoor.Frm
open Go Go.RowKit Go.Shelf
attribute [local go_sem] Oper.semAt_some
/-- What the iterator hands on. -/
def encF (x : ByteArray × Nat × Nat) : Array Value := #[.agg #[.string x.1, .int .i64 (x.2.1 : Int), .int .i64 (x.2.2 : Int)]]
def strSize : Value → Nat | .string s => s.size | _ => 0
theorem grown_of_below {w w' : World} (h : Below w.heap.size w w') : w.grownBy w' none := ⟨h.os, h.tape, h.output, h.size, fun k hk _ => h.block k hk⟩
set_option maxRecDepth 100000 in
set_option maxHeartbeats 1000000 in
theorem frames1_in (n : Nat) (hn : 1 ≤ n) (l Bs : Nat) (s : ByteArray) (hs : s.size ≤ 65536) (J Jx : List (ByteArray × Nat × Nat) → World → Prop) (W : World) (hJ : AbidesFrom W.heap.size J)
    (hY : ∀ pre x W1, J pre W1 → pre.length < (fnd s).length → YieldAt Fence.wide (n - 1) Tryz.prog l (encF x) W1 fun e W' =>
      (e = .returned (.bool true) ∧ J (pre ++ [x]) W' ∧ True) ∨ (e = .returned (.bool false) ∧ Jx (pre ++ [x]) W'))
    (hBs : W.cell? ⟨Bs, 0, none⟩ = some (.string s)) (h0 : J [] W) :
    CallsIn Fence.wide n Tryz.prog 157 #[.func (.yield l) #[] #[], .pointer (some ⟨Bs, 0, none⟩)] W fun e W' => (∃ v, e = .returned v) ∧
      ((∃ ys, ys = fnd s ∧ J ys W') ∨ (∃ pre, pre <+: fnd s ∧ Jx pre W')) := by
  refine callsIn_of_wp Tryz.func157 rfl trivial ?_ rfl
  simp only [Tryz.ntmps157, List.size_toArray, List.length_cons, List.length_nil, Nat.reduceAdd, Nat.reduceSub, Array.replicate_succ, Array.replicate_zero, List.push_toArray, List.append_toArray, List.nil_append, List.cons_append]
  gi_wp2
  gi_loopw [3, 4, 5, 6] (fun p _ _ _ wr => ∃ (rest : ByteArray) (pre : List (ByteArray × Nat × Nat)), p = .string rest ∧ rest.size ≤ 65536 ∧ fnd s = pre ++ fnd rest ∧ J pre wr) (fun p _ _ _ _ => strSize p)
  case atStart => exact ⟨s, [], rfl, hs, rfl, h0⟩
  case round =>
    obtain ⟨rest, pre, rfl, hr, hx, hJs⟩ := hrel
    have HX := hide hx
    have HJs := hide hJs
    have HJ := hide hJ
    have HY := hide hY
    clear hx hJs hJ hY h0
    by_cases hz : rest.size = 0
    · have he : rest = ⟨#[]⟩ := by
        apply ByteArray.ext; exact Array.eq_empty_of_size_eq_zero hz
      subst he
      gi_wp2
      go_end0
      exact ⟨⟨_, rfl⟩, .inl ⟨pre, by rw [HX.out, fnd_nil _ hz, List.append_nil], HJs.out⟩⟩
    · have hne : rest.toList.isEmpty = false := by
        rw [Lib.toList_data]
        cases hl : rest.data.toList with
        | nil => exact absurd (by have := congrArg List.length hl; simpa using this) hz
        | cons _ _ => rfl
      have KR := hide (fun u => read_any rest u (by omega))
      have hlen : pre.length < (fnd s).length := by
        rw [HX.out, List.length_append]
        by_cases he : (rdf rest).2.2 = 0
        · rw [fnd_ok rest hz he]; simp
        · rw [fnd_err rest hz he]; simp
      by_cases he : (rdf rest).2.2 = 0
      · have hx2 := HX.out
        rw [fnd_ok rest hz he] at hx2
        have HX2 := hide hx2
        clear hx2
        have hok := rdf_ok rest he
        rw [he] at KR
        have hxe : rdf rest = ((rdf rest).1, (rdf rest).2.1, 0) := by rw [← he]
        rw [hxe] at HX2
        clear hxe he HX
        generalize (rdf rest).1 = t at *
        generalize (rdf rest).2.1 = k at *
        have hk : (k : Int) ≤ (rest.size : Int) := by omega
        gi_wp2_with (refine ⟨trivial, ?_⟩; gi_at_call 158; refine (callsIn_wide.2 (KR.out _)).mono ?_; rintro e w1 ⟨rfl, hb1⟩; have hJ1 := HJ.out _ _ _ none HJs.out (grown_of_below hb1) (fun r e => by cases e); obtain ⟨fn, tmps, assign, body, hy0, hR⟩ := HY.out pre (t, k, 0) w1 hJ1 hlen; have hy : (Instr.yield l #[.agg #[.string t, .int .i64 (k : Int), .int .i64 0]]).run Tryz.prog w1 = .ok (.round l fn tmps assign body) w1 := hy0; clear hy0)
        refine hR.mono ?_
        rintro e W3 (⟨rfl, hJ3, -⟩ | ⟨rfl, hJx3⟩)
        · have HJ3 := hide hJ3
          clear hJ3 hJ1
          gi_wp2
          go_roundw
          case rel => exact ⟨rest.extract k rest.size, pre ++ [(t, k, 0)], rfl, by rw [ByteArray.size_extract]; omega, by rw [HX2.out]; simp, HJ3.out⟩
          case measure => simp [strSize]; omega
        · have HJx3 := hide hJx3
          clear hJx3 hJ1
          gi_wp2
          refine bodyPost_ret (results_none rfl _ _ _) rfl ?_
          exact ⟨⟨_, rfl⟩, .inr ⟨pre ++ [(t, k, 0)], ⟨fnd (rest.extract k rest.size), by rw [HX2.out]; simp⟩, HJx3.out⟩⟩
      · have hx2 := HX.out
        rw [fnd_err rest hz he] at hx2
        have HX2 := hide hx2
        clear hx2
        have hez : ¬ ((((rdf rest).2.2 : Nat) : Int) = 0) := by omega
        have hxe : rdf rest = ((rdf rest).1, (rdf rest).2.1, (rdf rest).2.2) := rfl
        rw [hxe] at HX2
        clear hxe he HX
        generalize (rdf rest).1 = t at *
        generalize (rdf rest).2.1 = k at *
        generalize (rdf rest).2.2 = x at *
        gi_wp2_with (refine ⟨trivial, ?_⟩; gi_at_call 158; refine (callsIn_wide.2 (KR.out _)).mono ?_; rintro e w1 ⟨rfl, hb1⟩; have hJ1 := HJ.out _ _ _ none HJs.out (grown_of_below hb1) (fun r e => by cases e); obtain ⟨fn, tmps, assign, body, hy0, hR⟩ := HY.out pre (t, k, x) w1 hJ1 hlen; have hy : (Instr.yield l #[.agg #[.string t, .int .i64 (k : Int), .int .i64 (x : Int)]]).run Tryz.prog w1 = .ok (.round l fn tmps assign body) w1 := hy0; clear hy0)
        refine hR.mono ?_
        rintro e W3 (⟨rfl, hJ3, -⟩ | ⟨rfl, hJx3⟩)
        · have HJ3 := hide hJ3
          clear hJ3 hJ1
          gi_wp2
          refine bodyPost_ret (results_none rfl _ _ _) rfl ?_
          exact ⟨⟨_, rfl⟩, .inl ⟨pre ++ [(t, k, x)], by rw [HX2.out], HJ3.out⟩⟩
        · have HJx3 := hide hJx3
          clear hJx3 hJ1
          gi_wp2
          refine bodyPost_ret (results_none rfl _ _ _) rfl ?_
          exact ⟨⟨_, rfl⟩, .inr ⟨pre ++ [(t, k, x)], ⟨[], by rw [HX2.out]; simp⟩, HJx3.out⟩⟩
set_option maxHeartbeats 1000000 in
theorem frames_in (n : Nat) (s : ByteArray) (w : World) :
    CallsIn Fence.wide n Tryz.prog 144 #[.string s] w fun e w' => e = .returned (.func (.func 157) #[] #[.pointer (some ⟨w.heap.size, 0, none⟩)]) ∧ w' = w.alloc (.cells #[.string s] 9) := by
  refine callsIn_of_wp Tryz.func144 rfl trivial ?_ rfl
  simp only [Tryz.ntmps144, List.size_toArray, List.length_cons, List.length_nil, Nat.reduceAdd, Nat.reduceSub, Array.replicate_succ, Array.replicate_zero, List.push_toArray, List.append_toArray, List.nil_append, List.cons_append]
  gi_wp2
  go_ret
  exact ⟨rfl, rfl⟩
/-- The iterator's contract: all that is found, in order, or a beginning of it, where a round has said 'no more'. -/
theorem frames_stops (n : Nat) (hn : 1 ≤ n) (Bs : Nat) (s : ByteArray) (hs : s.size ≤ 65536) (w : World) (hB : Bs < w.heap.size) (hc : w.cell? ⟨Bs, 0, none⟩ = some (.string s)) :
    SeqStopsK Fence.wide n Tryz.prog 157 #[.pointer (some ⟨Bs, 0, none⟩)] encF (fun _ _ => True) (fun ys => ys = fnd s) (fun pre => pre <+: fnd s) (fnd s).length w := fun l J Jx W hW hJ _ hY h0 =>
  frames1_in n hn l Bs s hs J Jx W hJ hY ((hW.cell (p := ⟨Bs, 0, none⟩) hB).trans hc) h0
end Go.Proofs.YtchhojkhfdkhfaaGreatDoor.Frm
namespace Go.Proofs.YtchhojkhfdkhfaaGreatDoor.Frm
open Go Go.RowKit Go.Shelf
attribute [local go_sem] Oper.semAt_some
theorem info9 : (Tryz.prog.info? 9).map (fun i => (i.zero, i.size, i.bytes)) = some (some (.string ⟨#[]⟩), 1, 16) := by kernel_rfl
/-- The bytes of what came, as the program adds them. -/
def wsum (l : List (ByteArray × Nat × Nat)) : Int := l.foldl (fun g x => wrap64 (g + (x.2.1 : Int))) 0
theorem wsum_snoc (l : List (ByteArray × Nat × Nat)) (x : ByteArray × Nat × Nat) : wsum (l ++ [x]) = wrap64 (wsum l + (x.2.1 : Int)) := by simp [wsum]
/-- The error of what came last. -/
def lastE (l : List (ByteArray × Nat × Nat)) : Int := (((l.getLast?.map fun x => x.2.2).getD 0 : Nat) : Int)
def txts (l : List (ByteArray × Nat × Nat)) : List Value := l.map fun x => Value.string x.1
theorem ownL_of {W : World} {base : Nat} {v : Value} {pre : List (ByteArray × Nat × Nat)} (h : W.ownsRow base 9 1 v pre.length (txts pre)) : OwnL W base v (pre.map fun x => x.1) := by
  unfold OwnL; rw [List.length_map, List.map_map]; exact h
theorem slice_of {W : World} {base : Nat} {v : Value} {pre : List (ByteArray × Nat × Nat)} (h : W.ownsRow base 9 1 v pre.length (txts pre)) : ∃ a c, v = .slice a pre.length c := by
  obtain ⟨a, c, h, _⟩ := (ownL_of h).strs
  exact ⟨a, c, by rw [h, List.length_map]⟩
/-- The three results' boxes, and all else as it was. -/
structure Three (W W' : World) (n : Nat) (vL vG vE : Value) : Prop where
  l : Boxed W' n 46 vL
  g : Boxed W' (n + 1) 3 vG
  e : Boxed W' (n + 1 + 1) 29 vE
  keeps : KeepsOthers W W'
  below : Below n W W'
  other : ∀ k, k ≠ n → k ≠ n + 1 → k ≠ n + 1 + 1 → W'.heap[k]? = W.heap[k]?
theorem Three.refl {W : World} {n : Nat} {vL vG vE : Value} (hL : Boxed W n 46 vL) (hG : Boxed W (n + 1) 3 vG) (hE : Boxed W (n + 1 + 1) 29 vE) : Three W W n vL vG vE :=
  ⟨hL, hG, hE, KeepsOthers.refl _, Below.refl _ _, fun _ _ _ _ => rfl⟩
theorem Three.setL {W X : World} {n : Nat} {v0 vG vE : Value} (h : Three W X n v0 vG vE) (v : Value) : Three W (X.setCell ⟨n, 0, none⟩ v) n v vG vE :=
  ⟨h.l.set v, h.g.other (by omega) v, h.e.other (by omega) v, h.keeps.trans (KeepsOthers.setCell _ _ _), h.below.setCell (p := ⟨n, 0, none⟩) (Nat.le_refl _) v, fun k h0 h1 h2 => (Below.heap_setCell X ⟨n, 0, none⟩ v k h0).trans (h.other k h0 h1 h2)⟩
theorem Three.setG {W X : World} {n : Nat} {v0 vL vE : Value} (h : Three W X n vL v0 vE) (v : Value) : Three W (X.setCell ⟨n + 1, 0, none⟩ v) n vL v vE :=
  ⟨h.l.other (by omega) v, h.g.set v, h.e.other (by omega) v, h.keeps.trans (KeepsOthers.setCell _ _ _), h.below.setCell (p := ⟨n + 1, 0, none⟩) (by show n ≤ n + 1; omega) v, fun k h0 h1 h2 => (Below.heap_setCell X ⟨n + 1, 0, none⟩ v k h1).trans (h.other k h0 h1 h2)⟩
theorem Three.setE {W X : World} {n : Nat} {v0 vL vG : Value} (h : Three W X n vL vG v0) (v : Value) : Three W (X.setCell ⟨n + 1 + 1, 0, none⟩ v) n vL vG v :=
  ⟨h.l.other (by omega) v, h.g.other (by omega) v, h.e.set v, h.keeps.trans (KeepsOthers.setCell _ _ _), h.below.setCell (p := ⟨n + 1 + 1, 0, none⟩) (by show n ≤ n + 1 + 1; omega) v, fun k h0 h1 h2 => (Below.heap_setCell X ⟨n + 1 + 1, 0, none⟩ v k h2).trans (h.other k h0 h1 h2)⟩
theorem Three.drew {W X : World} {n : Nat} {vL vG vE : Value} (h : Three W X n vL vG vE) : Three W X.drew n vL vG vE :=
  ⟨h.l, h.g, h.e, h.keeps.trans (KeepsOthers.drew _), h.below.drew, h.other⟩
theorem Three.row {W X : World} {n base m : Nat} {v vL vG vE uL uG uE : Value} {xs : List Value} (h : Three W X n vL vG vE) (hL : Boxed W n 46 uL) (hG : Boxed W (n + 1) 3 uG) (hE : Boxed W (n + 1 + 1) 29 uE) (hr : W.ownsRow base 9 1 v m xs) : X.ownsRow base 9 1 v m xs := by
  have n1 := hL.not_row (by decide) hr
  have n2 := hG.not_row (by decide) hr
  have n3 := hE.not_row (by decide) hr
  refine ⟨hr.1, ?_⟩
  rcases hr.2 with h0 | ⟨g, cap, cur, rfl, h1, hg, hq⟩
  · exact Or.inl h0
  · simp only [Value.ownBlock] at n1 n2 n3
    exact Or.inr ⟨g, cap, cur, rfl, h1, (h.other g (fun e => n1 (by rw [e])) (fun e => n2 (by rw [e])) (fun e => n3 (by rw [e]))).trans hg, hq⟩
theorem kept3 {W w1 : World} {o : Obj} {Bx base m : Nat} {cs : Array Value} {v : Value} {xs : List Value} (hX : W.heap[Bx]? = some (.cells cs 210 (0, 0))) (hr : W.ownsRow base 9 1 v m xs) (hg : (W.alloc o).grownBy w1 v.ownBlock) :
    w1.heap[Bx]? = some (.cells cs 210 (0, 0)) := by
  have hlt := (Array.getElem?_eq_some_iff.1 hX).1
  refine (hg.block Bx (by simp; omega) ?_).trans ((Below.heap_alloc W o Bx hlt).trans hX)
  rcases hr.2 with ⟨rfl, _⟩ | ⟨g, cap, cur, rfl, h1, hg, hq⟩
  · simp [Value.ownBlock]
  · intro e
    simp only [Value.ownBlock, Option.some.injEq] at e
    subst e
    rw [hX] at hg
    cases hg
theorem kept3n {W w1 : World} {o : Obj} {Bx base m : Nat} {v0 v1 v2 v : Value} {xs : List Value} (hX : W.heap[Bx]? = some (.cells #[v0, v1, v2] 210 (0, 0))) (hr : W.ownsRow base 9 1 v m xs) (hg : (W.alloc o).grownBy w1 v.ownBlock) :
    w1.cell? ⟨Bx, 1, none⟩ = some v1 := by
  have h := kept3 hX hr hg
  simp [World.cell?, h]
theorem Three.put {W X : World} {n D : Nat} {vL vG vE : Value} (h : Three W X n vL vG vE) (hK : W.heap[D]? = some (.deferred (some []))) (hD : n ≤ D) :
    X.heap[D]? = some (.deferred (some [])) ∧ Boxed (X.putObj D (.deferred none)) n 46 vL ∧ Boxed (X.putObj D (.deferred none)) (n + 1) 3 vG ∧ Boxed (X.putObj D (.deferred none)) (n + 1 + 1) 29 vE ∧ Below n W (X.putObj D (.deferred none)) := by
  have hK' := h.keeps.same D _ hK rfl
  have ne : ∀ (B : Nat) (t : TypeId) (v : Value), Boxed X B t v → Boxed (X.putObj D (.deferred none)) B t v := fun B t v hb => by
    refine hb.kept (grownBy_putObj' X D _) (fun e => ?_)
    have e2 : B = D := by cases e; rfl
    subst e2
    rw [show X.heap[B]? = _ from hb] at hK'
    cases hK'
  exact ⟨hK', ne _ _ _ h.l, ne _ _ _ h.g, ne _ _ _ h.e, h.below.trans ((Below.refl n X).grown (grownBy_putObj' X D _) (by have := (Array.getElem?_eq_some_iff.1 h.l).1; omega) (fun k e => by cases e; exact hD))⟩
theorem lastE_snoc (l : List (ByteArray × Nat × Nat)) (x : ByteArray × Nat × Nat) : lastE (l ++ [x]) = (x.2.2 : Int) := by simp [lastE]
theorem Told.mk2 {s : ByteArray} {w w' : World} {l : List ByteArray} {g x n : Nat} {g' x' : Int} (hs : scn s = (l, g, x)) (hn : n = l.length) (hg : g' = (g : Int)) (hx : x' = (x : Int)) (a : Option Addr) (c : Nat) (hst : OwnL w' w.heap.size (.slice a n c) l) (hb : Below w.heap.size w w') :
    Told s w (.returned (.tuple #[.slice a n c, .int .i64 g', .int .i64 x'])) w' := by
  subst hn; subst hg; subst hx
  exact Told.mk hs a c hst hb
theorem wsum_from : ∀ (l : List (ByteArray × Nat × Nat)) (g : Nat), (∀ x ∈ l, x.2.1 ≤ 65544) → g + 65544 * l.length < 9223372036854775808 → l.foldl (fun g x => wrap64 (g + (x.2.1 : Int))) (g : Int) = ((g + sumN l : Nat) : Int)
  | [], _, _, _ => rfl
  | x :: l, g, h, hb => by
    have hx := h x (by simp)
    rw [List.length_cons] at hb
    have e : wrap64 ((g : Int) + (x.2.1 : Int)) = ((g + x.2.1 : Nat) : Int) := by unfold wrap64; omega
    rw [List.foldl_cons, e, wsum_from l (g + x.2.1) (fun y hy => h y (List.mem_cons_of_mem _ hy)) (by omega)]
    simp only [sumN, List.map_cons, List.sum_cons]
    omega
theorem wsum_eq (l : List (ByteArray × Nat × Nat)) (h : ∀ x ∈ l, x.2.1 ≤ 65544) (hl : l.length ≤ 65536) : wsum l = ((sumN l : Nat) : Int) := by
  have := wsum_from l 0 h (by omega)
  rw [Nat.zero_add] at this
  exact this
theorem fnd_n : ∀ (m : Nat) (s : ByteArray), s.size ≤ m → ∀ x ∈ fnd s, x.2.1 ≤ 65544
  | m, s, hm => by
    by_cases h0 : s.size = 0
    · rw [fnd_nil s h0]; simp
    · by_cases he : (rdf s).2.2 = 0
      · have hr := rdf_ok s he
        obtain ⟨m', rfl⟩ : ∃ m', m = m' + 1 := ⟨m - 1, by omega⟩
        have ih := fnd_n m' (s.extract (rdf s).2.1 s.size) (by rw [ByteArray.size_extract]; omega)
        rw [fnd_ok s h0 he]
        intro x hx
        rcases List.mem_cons.1 hx with rfl | h
        · exact hr.2.2
        · exact ih x h
      · rw [fnd_err s h0 he]
        intro x hx
        rw [List.mem_singleton.1 hx]
        exact rdf_n s
theorem toldDone {s : ByteArray} {w X : World} {a : Option Addr} {c D : Nat} (hs : s.size ≤ 65536) (h : ∀ x ∈ fnd s, x.2.2 = 0) (hr : X.ownsRow w.heap.size 9 1 (.slice a (fnd s).length c) (fnd s).length (txts (fnd s))) (hK : X.heap[D]? = some (.deferred (some []))) (hb : Below w.heap.size w (X.putObj D (.deferred none))) :
    Told s w (.returned (.tuple #[.slice a (fnd s).length c, .int .i64 (wsum (fnd s)), .int .i64 0])) (X.putObj D (.deferred none)) := by
  have hl := fnd_length s.size s (Nat.le_refl _)
  exact Told.mk2 (fnd_all s.size s (Nat.le_refl _) h) (by rw [List.length_map]) (wsum_eq _ (fnd_n s.size s (Nat.le_refl _)) (by omega)) rfl a c (ownL_of (ownsRow_putObj hr _ hK rfl)) hb
theorem toldStop {s : ByteArray} {w X : World} {a : Option Addr} {c D : Nat} {pre : List (ByteArray × Nat × Nat)} (hs : s.size ≤ 65536) (hp : pre <+: fnd s) (hne : pre ≠ []) (h : ∀ x ∈ pre.dropLast, x.2.2 = 0) (he : lastE pre ≠ 0) (hr : X.ownsRow w.heap.size 9 1 (.slice a pre.dropLast.length c) pre.dropLast.length (txts pre.dropLast)) (hK : X.heap[D]? = some (.deferred (some []))) (hb : Below w.heap.size w (X.putObj D (.deferred none))) :
    Told s w (.returned (.tuple #[.slice a pre.dropLast.length c, .int .i64 (wsum pre.dropLast), .int .i64 (lastE pre)])) (X.putObj D (.deferred none)) := by
  have hl := fnd_length s.size s (Nat.le_refl _)
  obtain ⟨q, x, rfl⟩ : ∃ q x, pre = q ++ [x] := ⟨pre.dropLast, pre.getLast hne, (List.dropLast_concat_getLast hne).symm⟩
  rw [lastE_snoc] at he ⊢
  rw [List.dropLast_concat] at h hr ⊢
  have hn : ∀ y ∈ q, y.2.1 ≤ 65544 := fun y hy => fnd_n s.size s (Nat.le_refl _) y (hp.subset (List.mem_append_left _ hy))
  have hql : q.length ≤ 65536 := by
    have := hp.length_le
    rw [List.length_append] at this
    omega
  exact Told.mk2 (fnd_stop q s x hp h (fun e => he (by rw [e]; rfl))) (by rw [List.length_map]) (wsum_eq _ hn hql) rfl a c (ownL_of (ownsRow_putObj hr _ hK rfl)) hb
/-- Between two rounds. -/
def Iin (w : World) (pre : List (ByteArray × Nat × Nat)) (W : World) : Prop :=
  ((((∃ v, Boxed W w.heap.size 46 v ∧ W.ownsRow w.heap.size 9 1 v pre.length (txts pre) ∧ True) ∧ Boxed W (w.heap.size + 1) 3 (.int .i64 (wsum pre))) ∧ Boxed W (w.heap.size + 1 + 1) 29 (.int .i64 0)) ∧ (∀ x ∈ pre, x.2.2 = 0)) ∧ Below w.heap.size w W
/-- Where a round has left. -/
def Iout (w : World) (c : Code) (pre : List (ByteArray × Nat × Nat)) (W : World) : Prop :=
  ((((∃ v, Boxed W w.heap.size 46 v ∧ W.ownsRow w.heap.size 9 1 v pre.dropLast.length (txts pre.dropLast) ∧ True) ∧ Boxed W (w.heap.size + 1) 3 (.int .i64 (wsum pre.dropLast))) ∧ Boxed W (w.heap.size + 1 + 1) 29 (.int .i64 (lastE pre))) ∧ (c = .ret ∧ pre ≠ [] ∧ (∀ x ∈ pre.dropLast, x.2.2 = 0) ∧ lastE pre ≠ 0)) ∧ Below w.heap.size w W
theorem Iin.own (w : World) (B : Nat) (h : w.heap.size ≤ B) : OwnFrom B (Iin w) :=
  OwnFrom.and (OwnFrom.and (OwnFrom.and (OwnFrom.and (Own.from (holdsRow_own w.heap.size w.heap.size 46 9 1 (fun (pre : List (ByteArray × Nat × Nat)) => pre.length) (fun pre => txts pre) (fun _ _ => True)) _) (Own.from (boxed_own _ _ _) _)) (Own.from (boxed_own _ _ _) _)) (ownFrom_pure _ _)) (ownFrom_below (Nat.le_refl _) h)
theorem Iout.own (w : World) (B : Nat) (h : w.heap.size ≤ B) (c : Code) : OwnFrom B (Iout w c) :=
  OwnFrom.and (OwnFrom.and (OwnFrom.and (OwnFrom.and (Own.from (holdsRow_own w.heap.size w.heap.size 46 9 1 (fun (pre : List (ByteArray × Nat × Nat)) => pre.dropLast.length) (fun pre => txts pre.dropLast) (fun _ _ => True)) _) (Own.from (boxed_own _ _ _) _)) (Own.from (boxed_own _ _ _) _)) (ownFrom_pure _ _)) (ownFrom_below (Nat.le_refl _) h)
theorem retOut {w W W' : World} {B e : Nat} {pre : List (ByteArray × Nat × Nat)} {tx : ByteArray} {k : Nat} {v : Value} {uL uG uE : Value} (hT : Three W W' w.heap.size v (.int .i64 (wsum pre)) (.int .i64 (e : Int)))
    (hL : Boxed W w.heap.size 46 uL) (hG : Boxed W (w.heap.size + 1) 3 uG) (hE : Boxed W (w.heap.size + 1 + 1) 29 uE) (hr : W.ownsRow w.heap.size 9 1 v pre.length (txts pre)) (ha : ∀ x ∈ pre, x.2.2 = 0) (he : ¬ ((e : Int) = 0)) (hB : Below w.heap.size w W) :
    KeepsFrom B W W' ∧ Iout w .ret (pre ++ [(tx, k, e)]) W' := by
  refine ⟨hT.keeps.from _, ⟨⟨⟨⟨?_, ?_⟩, ?_⟩, rfl, by simp, ?_, ?_⟩, hB.trans hT.below⟩⟩
  · rw [List.dropLast_concat]; exact ⟨_, hT.l, hT.row hL hG hE hr, trivial⟩
  · rw [List.dropLast_concat]; exact hT.g
  · rw [lastE_snoc]; exact hT.e
  · rw [List.dropLast_concat]; exact ha
  · rw [lastE_snoc]; exact he
theorem goOn {w W w1 : World} {B k g' cap' : Nat} {pre : List (ByteArray × Nat × Nat)} {tx : ByteArray} {x : Int} (hx : x = wrap64 (wsum pre + (k : Int)))
    (hv2 : Boxed (w1.setCell ⟨w.heap.size, 0, none⟩ (.slice (some ⟨g', 0, none⟩) (pre.length + 1) cap')) w.heap.size 46 (.slice (some ⟨g', 0, none⟩) (pre.length + 1) cap'))
    (hr2 : (w1.setCell ⟨w.heap.size, 0, none⟩ (.slice (some ⟨g', 0, none⟩) (pre.length + 1) cap')).ownsRow w.heap.size 9 1 (.slice (some ⟨g', 0, none⟩) (pre.length + 1) cap') (pre.length + 1) (txts pre ++ [.string tx]))
    (hk2 : KeepsOthers W (w1.setCell ⟨w.heap.size, 0, none⟩ (.slice (some ⟨g', 0, none⟩) (pre.length + 1) cap')))
    (hb2 : Below w.heap.size W (w1.setCell ⟨w.heap.size, 0, none⟩ (.slice (some ⟨g', 0, none⟩) (pre.length + 1) cap')))
    (hG1 : Boxed w1 (w.heap.size + 1) 3 (.int .i64 (wsum pre))) (hE1 : Boxed w1 (w.heap.size + 1 + 1) 29 (.int .i64 0)) (ha : ∀ x ∈ pre, x.2.2 = 0) (hB : Below w.heap.size w W) :
    KeepsFrom B W ((w1.setCell ⟨w.heap.size, 0, none⟩ (.slice (some ⟨g', 0, none⟩) (pre.length + 1) cap')).setCell ⟨w.heap.size + 1, 0, none⟩ (.int .i64 x)) ∧ True ∧
      Iin w (pre ++ [(tx, k, 0)]) ((w1.setCell ⟨w.heap.size, 0, none⟩ (.slice (some ⟨g', 0, none⟩) (pre.length + 1) cap')).setCell ⟨w.heap.size + 1, 0, none⟩ (.int .i64 x)) := by
  have hG2 := hG1.other (B' := w.heap.size) (by omega) (.slice (some ⟨g', 0, none⟩) (pre.length + 1) cap')
  have hE2 := hE1.other (B' := w.heap.size) (by omega) (.slice (some ⟨g', 0, none⟩) (pre.length + 1) cap')
  have hne := hG2.not_row (by decide) hr2
  refine ⟨(hk2.trans (KeepsOthers.setCell _ _ _)).from _, trivial, ⟨⟨⟨⟨⟨_, hv2.other (by omega) _, ?_, trivial⟩, ?_⟩, hE2.other (by omega) _⟩, ?_⟩, (hB.trans hb2).setCell (p := ⟨w.heap.size + 1, 0, none⟩) (by show w.heap.size ≤ w.heap.size + 1; omega) _⟩⟩
  · rw [List.length_append, show txts (pre ++ [(tx, k, 0)]) = txts pre ++ [.string tx] from by simp [txts]]
    exact ownsRow_setCell_other hr2 (fun h => hne h.symm) _
  · rw [wsum_snoc, ← hx]; exact hG2.set _
  · intro y hy
    rcases List.mem_append.1 hy with h | h
    · exact ha y h
    · simp at h; rw [h]
set_option maxRecDepth 100000 in
set_option maxHeartbeats 4000000 in
theorem scan_any (s : ByteArray) (w : World) (hs : s.size ≤ 65536) : Calls Tryz.prog 120 #[.string s] w (Told s w) := by
  obtain ⟨i0, hi, hz0, hz1, hz2⟩ := info_parts info9
  have hN := fnd_length s.size s (Nat.le_refl _)
  refine (callsIn_wide (n := 6)).1 ?_
  refine callsIn_of_wp_marks Tryz.func120 rfl trivial ?_ rfl
  simp only [Tryz.ntmps120, List.size_toArray, List.length_cons, List.length_nil, Nat.reduceAdd, Nat.reduceSub, Array.replicate_succ, Array.replicate_zero, List.push_toArray, List.append_toArray, List.nil_append, List.cons_append]
  gi_wp2_with (refine ⟨trivial, ?_⟩; gi_at_call 144; refine (frames_in _ s _).mono ?_; rintro e w' ⟨rfl, rfl⟩)
  have bL := (((Boxed.new w 46 (.slice none 0 0)).alloc (.cells #[.int .i64 0] 3)).alloc (.cells #[.int .i64 0] 29)).alloc (.cells #[.string s] 9)
  have bG := ((Boxed.new (w.alloc (.cells #[.slice none 0 0] 46)) 3 (.int .i64 0)).alloc (.cells #[.int .i64 0] 29)).alloc (.cells #[.string s] 9)
  have bE := (Boxed.new ((w.alloc (.cells #[.slice none 0 0] 46)).alloc (.cells #[.int .i64 0] 3)) 29 (.int .i64 0)).alloc (.cells #[.string s] 9)
  have bS := Boxed.new (((w.alloc (.cells #[.slice none 0 0] 46)).alloc (.cells #[.int .i64 0] 3)).alloc (.cells #[.int .i64 0] 29)) 9 (.string s)
  simp only [World.size_alloc] at bG bE bS
  have hB0 : Below w.heap.size w ((((w.alloc (.cells #[.slice none 0 0] 46)).alloc (.cells #[.int .i64 0] 3)).alloc (.cells #[.int .i64 0] 29)).alloc (.cells #[.string s] 9)) := ((((Below.refl _ w).alloc (Nat.le_refl _) _).alloc (by simp) _).alloc (by simp; omega) _).alloc (by simp; omega) _
  have hsz : ((((w.alloc (.cells #[.slice none 0 0] 46)).alloc (.cells #[.int .i64 0] 3)).alloc (.cells #[.int .i64 0] 29)).alloc (.cells #[.string s] 9)).heap.size = w.heap.size + 4 := by simp
  obtain ⟨W0, hW0⟩ : ∃ W0, ((((w.alloc (.cells #[.slice none 0 0] 46)).alloc (.cells #[.int .i64 0] 3)).alloc (.cells #[.int .i64 0] 29)).alloc (.cells #[.string s] 9)) = W0 := ⟨_, rfl⟩
  rw [hW0] at bL bG bE bS hB0 hsz ⊢
  clear hW0
  refine wpIn_rangeFunc_ownH rfl (by decide) (gf := 157) (lb := #[.pointer (some ⟨w.heap.size + 1 + 1 + 1, 0, none⟩)]) rfl trivial (enters_of Tryz.func157 (by kernel_rfl) rfl)
    (frames_stops 5 (by decide) (w.heap.size + 1 + 1 + 1) s hs W0 (by omega) bS.cell) (fun _ _ => trivial) (fun _ _ _ _ _ _ _ _ => trivial) (Below.refl _ _) (fun _ => rfl)
    (Iin w) (Iout w) (Iin.own w _ (by omega)) (Iout.own w _ (by omega))
    ⟨⟨⟨⟨⟨_, bL, World.ownsRow_nil _ _ _ _, trivial⟩, bG⟩, bE⟩, by simp⟩, hB0⟩
    (fun x a' W => ∃ Bx, w.heap.size + 1 + 1 < Bx ∧ W.heap[Bx]? = some (.cells #[.string x.1, .int .i64 (x.2.1 : Int), .int .i64 (x.2.2 : Int)] 210 (0, 0)) ∧ a' = { tmps := #[.string s, undef, .pointer (some ⟨w.heap.size, 0, none⟩), .pointer (some ⟨w.heap.size + 1, 0, none⟩), .pointer (some ⟨w.heap.size + 1 + 1, 0, none⟩), .pointer (some ⟨Bx, 0, none⟩), .string s, .func (.func 157) #[] #[.pointer (some ⟨w.heap.size + 1 + 1 + 1, 0, none⟩)], .agg #[.string x.1, .int .i64 (x.2.1 : Int), .int .i64 (x.2.2 : Int)], undef, undef, undef, undef, undef, undef, undef, undef, undef, undef, undef, undef, undef, undef, undef, undef, undef, undef], defers := [] })
    (fun x a' _ X Y row hs hg hr => by
      obtain ⟨Bx, e1, e2, e3⟩ := hs
      refine ⟨Bx, e1, (hg.block Bx (Array.getElem?_eq_some_iff.1 e2).1 (fun e => ?_)).trans e2, e3⟩
      obtain ⟨_, o, ho, hc⟩ := hr _ e.symm
      rw [e2] at ho
      cases ho
      cases hc)
    ?assign ?body ?done ?stop
  case assign =>
    rintro l pre ⟨tx, k, e⟩ W K ⟨⟨⟨⟨⟨v, hv, hrow, -⟩, hG⟩, hE⟩, hall⟩, hB⟩ hK
    dsimp only [encF]
    have HK := hide hK
    have HA := hide hall
    clear hK hall
    gi_wp2
    exact HK.out _ _ ((KeepsOthers.alloc _ _).from _) trivial ⟨⟨⟨⟨⟨v, hv.alloc _, hrow.alloc _, trivial⟩, hG.alloc _⟩, hE.alloc _⟩, HA.out⟩, hB.alloc hB.size _⟩ ⟨W.heap.size, hE.lt, World.alloc_heap_new W _, rfl⟩
  case body =>
    rintro l pre ⟨tx, k, e⟩ a' W hl ⟨r, hr⟩ ⟨⟨⟨⟨⟨v, hv, hrow, -⟩, hG⟩, hE⟩, hall⟩, hB⟩ ⟨Bx, hBx, hX, rfl⟩ hlt
    obtain ⟨a0, c0, rfl⟩ := slice_of hrow
    have hcL := hv.cell
    have hfL := hv.frozen
    have hcG := hG.cell
    have hfG := hG.frozen
    have hcE := hE.cell
    have hfE := hE.frozen
    have hX0 : W.cell? ⟨Bx, 0, none⟩ = some (.string tx) := by simp [World.cell?, hX]
    have hX1 : W.cell? ⟨Bx, 1, none⟩ = some (.int .i64 (k : Int)) := by simp [World.cell?, hX]
    have hX2 : W.cell? ⟨Bx, 2, none⟩ = some (.int .i64 (e : Int)) := by simp [World.cell?, hX]
    have HA := hide hall
    have HX := hide hX
    have HB := hide hB
    have HR := hide hr
    have HW := hide hrow
    clear hall hX hB hr hrow
    by_cases he : e = 0
    · subst he
      have HG := hide hG
      have hwl : pre.length < 65536 := by omega
      have HE := hide hE
      gi_wp2_with (gi_at_builtin; refine wpListIn_append_own _ rfl _ _ 46 rfl w.heap.size 9 i0 (.string ⟨#[]⟩) 1 16 Tryz.underlying46 hi hz0 hz1 hz2 rfl (by decide) _ _ _ rfl (HW.out.alloc _) ⟨W.heap.size, 0, none⟩ 1 1 [.string tx] rfl rfl (cell_one_new _ _ _) (by simp [Value.oneCell']) (by unfold maxLen; omega) (by omega) (by have := HB.out.size; simp; omega) ?_; intro v' w1 hown' hgrow _; obtain ⟨g', cap', rfl⟩ := ownsRow_succ hown'; obtain ⟨hv1, hv2, hr2, hk2, hb2⟩ := hv.appended (by decide) HW.out HB.out.size (Nat.le_refl _) hown' hgrow; have hc1 := hv1.cell; have hf1 := hv1.frozen; have hG1 := (HG.out.alloc _).kept hgrow (HG.out.not_row (by decide) HW.out); have hE1 := (HE.out.alloc _).kept hgrow (HE.out.not_row (by decide) HW.out); have hcG1 := hG1.cell; have hfG1 := hG1.frozen; have hX1' := kept3n HX.out HW.out hgrow)
      exact goOn rfl hv2 hr2 hk2 hb2 hG1 hE1 HA.out HB.out
    · have hez : ¬ ((e : Int) = 0) := by omega
      have hmx : Tryz.prog.follows .mixedOrders = true := by kernel_rfl
      gi_wp2
      gi_region_with_o (fail)
      all_goals
        gi_wp2
        refine retOut ?_ hv hG hE HW.out HA.out hez HB.out
        exact Three.drew (Three.setE (Three.setG (Three.setL (Three.refl hv hG hE) _) _) _)
  case done =>
    rintro D ys W hD rfl ⟨⟨⟨⟨⟨v, hv, hrow, -⟩, hG⟩, hE⟩, hall⟩, hB⟩ hK
    obtain ⟨a0, c0, rfl⟩ := slice_of hrow
    have hcL := hv.cell
    have hfL := hv.frozen
    have hcG := hG.cell
    have hfG := hG.frozen
    have hcE := hE.cell
    have hfE := hE.frozen
    have HA := hide hall
    have HB := hide hB
    have HW := hide hrow
    have HK := hide hK
    clear hall hB hrow hK
    have hmx : Tryz.prog.follows .mixedOrders = true := by kernel_rfl
    gi_wp2
    gi_region_with_o (fail)
    all_goals
      have hT := Three.drew (Three.setE (Three.setG (Three.setL (Three.refl hv hG hE) (.slice a0 (fnd s).length c0)) (.int .i64 (wsum (fnd s)))) (.int .i64 0))
      obtain ⟨hK', q1, q2, q3, q4⟩ := hT.put HK.out (by omega)
      gi_wp2
      refine ⟨by simp, .inl ⟨_, _, rfl, run_takeDeferred hK', ?_⟩⟩
      have k1 := q1.cell
      have k2 := q2.cell
      have k3 := q3.cell
      refine ⟨.tuple #[.slice a0 (fnd s).length c0, .int .i64 (wsum (fnd s)), .int .i64 0], ?_, ?_⟩
      · simp [results, Tryz.f120, go_sem, k1, k2, k3]
      · exact toldDone hs HA.out (hT.row hv hG hE HW.out) hK' (HB.out.trans q4)
  case stop =>
    rintro D c pre W hD hpre ⟨⟨⟨⟨⟨v, hv, hrow, -⟩, hG⟩, hE⟩, rfl, hne, hall, hlast⟩, hB⟩ hK
    obtain ⟨a0, c0, rfl⟩ := slice_of hrow
    obtain ⟨hK', q1, q2, q3, q4⟩ := (Three.refl hv hG hE).put hK (by omega)
    gi_wp2
    refine ⟨by simp, .inl ⟨_, _, rfl, run_takeDeferred hK, ?_⟩⟩
    have k1 := q1.cell
    have k2 := q2.cell
    have k3 := q3.cell
    refine ⟨.tuple #[.slice a0 pre.dropLast.length c0, .int .i64 (wsum pre.dropLast), .int .i64 (lastE pre)], ?_, ?_⟩
    · simp [results, Tryz.f120, go_sem, k1, k2, k3]
    · exact toldStop hs hpre hne hall hlast hrow hK (hB.trans q4)
end Go.Proofs.YtchhojkhfdkhfaaGreatDoor.Frm
namespace Go.Proofs.YtchhojkhfdkhfaaGreatDoor
open Go Go.RowKit Frm
/-- A buffer that lies at B or later: its bytes; its spare cells may be written. -/
def Buf (B : Nat) (w0 u : World) (v : Value) (n : Nat) (l : List Value) : Prop :=
  ∃ g cap, v = .slice (some ⟨g, 0, none⟩) n cap ∧ B ≤ g ∧ g < u.heap.size ∧ n ≤ cap ∧ l.length = n ∧ (∀ j x, l[j]? = some x → u.cell? ⟨g, j, none⟩ = some x) ∧
    (∀ j, n ≤ j → j < cap → (u.cell? ⟨g, j, none⟩).isSome = true ∧ u.frozen? ⟨g, j, none⟩ = false) ∧ Below B w0 u
theorem Buf.form {B : Nat} {w0 u : World} {v : Value} {n : Nat} {l : List Value} (h : Buf B w0 u v n l) : ∃ g cap, v = .slice (some ⟨g, 0, none⟩) n cap := by
  obtain ⟨g, cap, h1, _⟩ := h
  exact ⟨g, cap, h1⟩
theorem Buf.alloc {B : Nat} {w0 u : World} {v : Value} {n : Nat} {l : List Value} (h : Buf B w0 u v n l) (hB : B ≤ u.heap.size) (o : Obj) : Buf B w0 (u.alloc o) v n l := by
  obtain ⟨g, cap, h1, h2, h3, h4, h5, h6, h7, h8⟩ := h
  have hb : (u.alloc o).heap[g]? = u.heap[g]? := Below.heap_alloc u o g h3
  refine ⟨g, cap, h1, h2, by simp; omega, h4, h5, fun j x hx => ?_, fun j a b => ?_, h8.alloc hB o⟩
  · rw [World.cell?_of_block (a := ⟨g, j, none⟩) hb]; exact h6 j x hx
  · rw [World.cell?_of_block (a := ⟨g, j, none⟩) hb, World.frozen?_of_block (a := ⟨g, j, none⟩) hb]; exact h7 j a b
theorem Buf.own {B C : Nat} {w0 u : World} {v : Value} {n : Nat} {l : List Value} (h : u.ownsRow C 5 1 v n l) (hn : 0 < n) (hC : B ≤ C) (hb : Below B w0 u) : Buf B w0 u v n l := by
  rcases h.2 with ⟨_, h0⟩ | ⟨g, cap, cur, rfl, hg, hh, hc, _, hs, ht⟩
  · omega
  · have hlt := (Array.getElem?_eq_some_iff.1 hh).1
    have hl := h.1
    rw [Nat.mul_one] at hs ht hl
    refine ⟨g, cap, rfl, by omega, hlt, hc, hl, fun j x hx => ?_, fun j a b => ?_, hb⟩
    · have hj : j < l.length := (List.getElem?_eq_some_iff.1 hx).1
      rw [← ht, List.getElem?_take_of_lt (by omega)] at hx
      simp only [World.cell?, hh]
      simpa using hx
    · simp [World.cell?, World.frozen?, hh]
      omega
end Go.Proofs.YtchhojkhfdkhfaaGreatDoor
namespace Go.Proofs.YtchhojkhfdkhfaaGreatDoor
open Go Go.RowKit Frm
def lenOf : Value → Nat
  | .slice _ n _ => n
  | _ => 0
theorem Buf.size {B : Nat} {w0 u : World} {v : Value} {n : Nat} {l : List Value} (h : Buf B w0 u v n l) : B ≤ u.heap.size := by
  obtain ⟨g, cap, _, h2, h3, _⟩ := h
  omega
theorem Buf.below {B : Nat} {w0 u : World} {v : Value} {n : Nat} {l : List Value} (h : Buf B w0 u v n l) : Below B w0 u := by
  obtain ⟨g, cap, _, _, _, _, _, _, _, h8⟩ := h
  exact h8
/-- What Block makes. -/
theorem blk_list (s : ByteArray) (k lo hi : Nat) (hlo : lo = min (k * 255) s.size) (hhi : hi = min (lo + 255) s.size) : (⟨((s.extract lo hi).data.toList ++ List.replicate (255 - (hi - lo)) 0 ++ [UInt8.ofNat (hi - lo)]).toArray⟩ : ByteArray) = blkOf s k := by
  have h1 : hi - lo = cnt k s.size := by unfold cnt; omega
  have h2 : s.extract lo hi = s.extract (k * 255) (k * 255 + 255) := by
    by_cases e : k * 255 ≤ s.size
    · refine bytes_ext (by rw [ByteArray.size_extract, ByteArray.size_extract]; omega) (fun j hj => ?_)
      rw [ByteArray.size_extract] at hj
      by_cases e2 : k * 255 + 255 ≤ s.size
      · rw [show lo = k * 255 from by omega, show hi = k * 255 + 255 from by omega]
      · apply congrArg (byteAt · j)
        apply ByteArray.ext
        rw [ByteArray.data_extract, ByteArray.data_extract, show lo = k * 255 from by omega]
        apply Array.ext
        · have : s.data.size = s.size := rfl
          simp; omega
        · intro i a b; simp
    · refine bytes_ext (by rw [ByteArray.size_extract, ByteArray.size_extract]; omega) (fun j hj => ?_)
      rw [ByteArray.size_extract] at hj
      omega
  unfold blkOf
  rw [h1, h2]
  apply ByteArray.ext
  rw [ByteArray.data_append, ByteArray.data_append]
  unfold zs oneB
  simp
end Go.Proofs.YtchhojkhfdkhfaaGreatDoor
namespace Go.Proofs.YtchhojkhfdkhfaaGreatDoor
open Go Go.RowKit
theorem bcell {W w1 : World} (hb : Below W.heap.size W w1) : (∀ b o, b < W.heap.size → w1.cell? ⟨b, o, none⟩ = W.cell? ⟨b, o, none⟩) ∧ (∀ b o, b < W.heap.size → w1.frozen? ⟨b, o, none⟩ = W.frozen? ⟨b, o, none⟩) :=
  ⟨fun b o h => hb.cell (p := ⟨b, o, none⟩) h, fun b o h => hb.frozen (p := ⟨b, o, none⟩) h⟩

/-- What cell o of block b holds, under a name that simp does not open. -/
def tv (w : World) (b o : Nat) : Value := (w.cell? ⟨b, o, none⟩).getD undef
theorem tv_some {w : World} {b o : Nat} {v : Value} (h : w.cell? ⟨b, o, none⟩ = some v) : w.cell? ⟨b, o, none⟩ = some (tv w b o) := by
  unfold tv; rw [h]; rfl

/-- The relation of a region: below n all cells, below n + 1 all marks are those of W; block n has k cells at the least. -/
def Kp (n k : Nat) (W w' : World) : Prop := (∀ b o, b < n → w'.cell? ⟨b, o, none⟩ = W.cell? ⟨b, o, none⟩) ∧ (∀ b o, b < n + 1 → w'.frozen? ⟨b, o, none⟩ = W.frozen? ⟨b, o, none⟩) ∧
  (∀ o, o < k → w'.cell? ⟨n, o, none⟩ = some (tv w' n o)) ∧ n + 1 ≤ w'.heap.size ∧ Below n W w'

theorem Kp.start {n k : Nat} {W : World} (hn : n + 1 ≤ W.heap.size) (hk : ∀ o, o < k → ∃ v, W.cell? ⟨n, o, none⟩ = some v) : Kp n k W W.drew :=
  ⟨fun _ _ _ => rfl, fun _ _ _ => rfl, fun o ho => by obtain ⟨v, hv⟩ := hk o ho; exact tv_some (v := v) hv, hn, (Below.refl _ _).drew⟩
theorem new_cells (w : World) (c : Array Value) (t : TypeId) {n : Nat} (hn : n = w.heap.size) (o : Nat) (ho : o < c.size) : ∃ v, (w.alloc (.cells c t)).cell? ⟨n, o, none⟩ = some v := by
  subst hn
  refine ⟨c[o], ?_⟩
  have h : (w.alloc (.cells c t)).heap[w.heap.size]? = some (.cells c t) := by show (w.heap.push _)[w.heap.size]? = _; simp
  unfold World.cell?; rw [h]; simp [ho]
theorem Kp.begin {n k : Nat} {w : World} {c : Array Value} {t : TypeId} (hn : n = w.heap.size) (hk : k ≤ c.size) : Kp n k (w.alloc (.cells c t)) (w.alloc (.cells c t)).drew :=
  Kp.start (by rw [hn]; simp) (fun o ho => new_cells w c t hn o (by omega))
theorem Kp.call {n k : Nat} {W W1 w' : World} (h : Kp n k W W1) (hb : Below W1.heap.size W1 w') : Kp n k W w' :=
  ⟨fun b o hlt => ((bcell hb).1 b o (by have := h.2.2.2.1; omega)).trans (h.1 b o hlt), fun b o hlt => ((bcell hb).2 b o (by have := h.2.2.2.1; omega)).trans (h.2.1 b o hlt),
    fun o ho => tv_some (((bcell hb).1 n o (by have := h.2.2.2.1; omega)).trans (h.2.2.1 o ho)), Nat.le_trans h.2.2.2.1 hb.size, h.2.2.2.2.trans (hb.mono (by have := h.2.2.2.1; omega))⟩
theorem cell_set_ne (w : World) (b o c p : Nat) (v : Value) (h : b ≠ c) : (w.setCell ⟨c, p, none⟩ v).cell? ⟨b, o, none⟩ = w.cell? ⟨b, o, none⟩ :=
  World.cell?_of_block (w := w) (Below.heap_setCell w ⟨c, p, none⟩ v b h)
theorem Kp.set {n k : Nat} {W W1 : World} (h : Kp n k W W1) (p : Nat) (v : Value) : Kp n k W (W1.setCell ⟨n, p, none⟩ v) :=
  ⟨fun b o hlt => (cell_set_ne W1 b o n p v (by omega)).trans (h.1 b o hlt), fun b o hlt => by rw [World.frozen?_setCell]; exact h.2.1 b o hlt,
    fun o ho => by
      obtain ⟨u, hu⟩ := cell?_setCell_some (w := W1) (p := ⟨n, p, none⟩) (x := v) (q := ⟨n, o, none⟩) (h.2.2.1 o ho)
      exact tv_some hu, by simpa [World.setCell] using h.2.2.2.1, h.2.2.2.2.setCell (Nat.le_refl _) v⟩
theorem Kp.alloc {n k : Nat} {W u : World} (h : Kp n k W u) (o : Obj) : Kp n k W (u.alloc o) := h.call ((Below.refl _ _).alloc (Nat.le_refl _) _)
theorem Kp.out {n k : Nat} {w W u : World} (h : Kp n k W u) (hn : w.heap.size ≤ n) (hW : Below w.heap.size w W) : Below w.heap.size w u := hW.trans (h.2.2.2.2.mono hn)
theorem grow1 (w : World) (o1 : Obj) : Below w.heap.size w (w.alloc o1) := (Below.refl _ _).alloc (Nat.le_refl _) _
theorem grow2 (w : World) (o1 o2 : Obj) : Below w.heap.size w ((w.alloc o1).alloc o2) := (grow1 w o1).alloc (by simp) _
theorem grow3 (w : World) (o1 o2 o3 : Obj) : Below w.heap.size w (((w.alloc o1).alloc o2).alloc o3) := (grow2 w o1 o2).alloc (by simp; omega) _
end Go.Proofs.YtchhojkhfdkhfaaGreatDoor
