/- The iterator of package frame: all that is found, or a beginning of it. -/
import Derived.RangeFuncNested
import Derived.RangeFuncBound
import Derived.RangeFuncCalls
import Derived.RangeFuncLeaves
import Derived.Shelf.Abstract
import Derived.Shelf.RegionOpen
import Derived.WalkKit
import Derived.OwnWalkIn
import Derived.TacticsInMore
import Derived.LoopNIn
import Derived.LoopIn
import Derived.Maps.AppendAt
import Derived.Test.YtnmbojgjefhoaaaRefScan
namespace Go.Proofs.Ytnmbojgjefhoaaa
open Go Go.RowKit Go.Shelf
attribute [local go_sem] Oper.semAt_some
/-- What the iterator hands on. -/
def encF (x : ByteArray × Nat × Nat) : Array Value := #[.agg #[.string x.1, .int .i64 (x.2.1 : Int), .int .i64 (x.2.2 : Int)]]
def strSize : Value → Nat | .string s => s.size | _ => 0
theorem grown_of_below {w w' : World} (h : Below w.heap.size w w') : w.grownBy w' none := ⟨h.os, h.tape, h.output, h.size, fun k hk _ => h.block k hk⟩
set_option maxRecDepth 100000 in
set_option maxHeartbeats 1000000 in
theorem frames1_in (n : Nat) (hn : 1 ≤ n) (l Bs : Nat) (s : ByteArray) (hs : s.size ≤ 65536) (J Jx : List (ByteArray × Nat × Nat) → World → Prop) (W : World) (hJ : AbidesFrom W.heap.size J)
    (hY : ∀ pre x W1, J pre W1 → pre.length < (fnd s).length → YieldAt Fence.wide (n - 1) Try.prog l (encF x) W1 fun e W' =>
      (e = .returned (.bool true) ∧ J (pre ++ [x]) W' ∧ True) ∨ (e = .returned (.bool false) ∧ Jx (pre ++ [x]) W'))
    (hBs : W.cell? ⟨Bs, 0, none⟩ = some (.string s)) (h0 : J [] W) :
    CallsIn Fence.wide n Try.prog 26 #[.func (.yield l) #[] #[], .pointer (some ⟨Bs, 0, none⟩)] W fun e W' => (∃ v, e = .returned v) ∧
      ((∃ ys, ys = fnd s ∧ J ys W') ∨ (∃ pre, pre <+: fnd s ∧ Jx pre W')) := by
  refine callsIn_of_wp Try.func26 rfl trivial ?_ rfl
  simp only [Try.ntmps26, List.size_toArray, List.length_cons, List.length_nil, Nat.reduceAdd, Nat.reduceSub, Array.replicate_succ, Array.replicate_zero, List.push_toArray, List.append_toArray, List.nil_append, List.cons_append]
  gi_wp2
  gi_loopw [3, 4, 5, 6] (fun p _ _ _ wr => ∃ (rest : ByteArray) (pre : List (ByteArray × Nat × Nat)), p = .string rest ∧ rest.size ≤ 65536 ∧ fnd s = pre ++ fnd rest ∧ J pre wr) (fun p _ _ _ _ => strSize p)
  case atStart => exact ⟨s, [], rfl, hs, rfl, h0⟩
  case round =>
    obtain ⟨rest, pre, rfl, hr, hx, hJs⟩ := hrel
    have HX := hide hx
    have HJs := hide hJs
    have HJ := hide hJ
    have HY := hide hY
    clear hx hJs hJ hY h0
    by_cases hz : rest.size = 0
    · have he : rest = ⟨#[]⟩ := by
        apply ByteArray.ext; exact Array.eq_empty_of_size_eq_zero hz
      subst he
      gi_wp2
      go_end0
      exact ⟨⟨_, rfl⟩, .inl ⟨pre, by rw [HX.out, fnd_nil _ hz, List.append_nil], HJs.out⟩⟩
    · have hne : rest.toList.isEmpty = false := by
        rw [Lib.toList_data]
        cases hl : rest.data.toList with
        | nil => exact absurd (by have := congrArg List.length hl; simpa using this) hz
        | cons _ _ => rfl
      have KR := hide (fun u => read_any rest u (by omega))
      have hlen : pre.length < (fnd s).length := by
        rw [HX.out, List.length_append]
        by_cases he : (rdf rest).2.2 = 0
        · rw [fnd_ok rest hz he]; simp
        · rw [fnd_err rest hz he]; simp
      by_cases he : (rdf rest).2.2 = 0
      · have hx2 := HX.out
        rw [fnd_ok rest hz he] at hx2
        have HX2 := hide hx2
        clear hx2
        have hok := rdf_ok rest he
        rw [he] at KR
        have hxe : rdf rest = ((rdf rest).1, (rdf rest).2.1, 0) := by rw [← he]
        rw [hxe] at HX2
        clear hxe he HX
        generalize (rdf rest).1 = t at *
        generalize (rdf rest).2.1 = k at *
        have hk : (k : Int) ≤ (rest.size : Int) := by omega
        gi_wp2_with (refine ⟨trivial, ?_⟩; gi_at_call 10; refine (callsIn_wide.2 (KR.out _)).mono ?_; rintro e w1 ⟨rfl, hb1⟩; have hJ1 := HJ.out _ _ _ none HJs.out (grown_of_below hb1) (fun r e => by cases e); obtain ⟨fn, tmps, assign, body, hy0, hR⟩ := HY.out pre (t, k, 0) w1 hJ1 hlen; have hy : (Instr.yield l #[.agg #[.string t, .int .i64 (k : Int), .int .i64 0]]).run Try.prog w1 = .ok (.round l fn tmps assign body) w1 := hy0; clear hy0)
        refine hR.mono ?_
        rintro e W3 (⟨rfl, hJ3, -⟩ | ⟨rfl, hJx3⟩)
        · have HJ3 := hide hJ3
          clear hJ3 hJ1
          gi_wp2
          go_roundw
          case rel => exact ⟨rest.extract k rest.size, pre ++ [(t, k, 0)], rfl, by rw [ByteArray.size_extract]; omega, by rw [HX2.out]; simp, HJ3.out⟩
          case measure => simp [strSize]; omega
        · have HJx3 := hide hJx3
          clear hJx3 hJ1
          gi_wp2
          refine bodyPost_ret (results_none rfl _ _ _) rfl ?_
          exact ⟨⟨_, rfl⟩, .inr ⟨pre ++ [(t, k, 0)], ⟨fnd (rest.extract k rest.size), by rw [HX2.out]; simp⟩, HJx3.out⟩⟩
      · have hx2 := HX.out
        rw [fnd_err rest hz he] at hx2
        have HX2 := hide hx2
        clear hx2
        have hez : ¬ ((((rdf rest).2.2 : Nat) : Int) = 0) := by omega
        have hxe : rdf rest = ((rdf rest).1, (rdf rest).2.1, (rdf rest).2.2) := rfl
        rw [hxe] at HX2
        clear hxe he HX
        generalize (rdf rest).1 = t at *
        generalize (rdf rest).2.1 = k at *
        generalize (rdf rest).2.2 = x at *
        gi_wp2_with (refine ⟨trivial, ?_⟩; gi_at_call 10; refine (callsIn_wide.2 (KR.out _)).mono ?_; rintro e w1 ⟨rfl, hb1⟩; have hJ1 := HJ.out _ _ _ none HJs.out (grown_of_below hb1) (fun r e => by cases e); obtain ⟨fn, tmps, assign, body, hy0, hR⟩ := HY.out pre (t, k, x) w1 hJ1 hlen; have hy : (Instr.yield l #[.agg #[.string t, .int .i64 (k : Int), .int .i64 (x : Int)]]).run Try.prog w1 = .ok (.round l fn tmps assign body) w1 := hy0; clear hy0)
        refine hR.mono ?_
        rintro e W3 (⟨rfl, hJ3, -⟩ | ⟨rfl, hJx3⟩)
        · have HJ3 := hide hJ3
          clear hJ3 hJ1
          gi_wp2
          refine bodyPost_ret (results_none rfl _ _ _) rfl ?_
          exact ⟨⟨_, rfl⟩, .inl ⟨pre ++ [(t, k, x)], by rw [HX2.out], HJ3.out⟩⟩
        · have HJx3 := hide hJx3
          clear hJx3 hJ1
          gi_wp2
          refine bodyPost_ret (results_none rfl _ _ _) rfl ?_
          exact ⟨⟨_, rfl⟩, .inr ⟨pre ++ [(t, k, x)], ⟨[], by rw [HX2.out]; simp⟩, HJx3.out⟩⟩
set_option maxHeartbeats 1000000 in
theorem frames_in (n : Nat) (s : ByteArray) (w : World) :
    CallsIn Fence.wide n Try.prog 22 #[.string s] w fun e w' => e = .returned (.func (.func 26) #[] #[.pointer (some ⟨w.heap.size, 0, none⟩)]) ∧ w' = w.alloc (.cells #[.string s] 9) := by
  refine callsIn_of_wp Try.func22 rfl trivial ?_ rfl
  simp only [Try.ntmps22, List.size_toArray, List.length_cons, List.length_nil, Nat.reduceAdd, Nat.reduceSub, Array.replicate_succ, Array.replicate_zero, List.push_toArray, List.append_toArray, List.nil_append, List.cons_append]
  gi_wp2
  go_ret
  exact ⟨rfl, rfl⟩
/-- The iterator's contract: all that is found, in order, or a beginning of it, where a round has said 'no more'. -/
theorem frames_stops (n : Nat) (hn : 1 ≤ n) (Bs : Nat) (s : ByteArray) (hs : s.size ≤ 65536) (w : World) (hB : Bs < w.heap.size) (hc : w.cell? ⟨Bs, 0, none⟩ = some (.string s)) :
    SeqStopsK Fence.wide n Try.prog 26 #[.pointer (some ⟨Bs, 0, none⟩)] encF (fun _ _ => True) (fun ys => ys = fnd s) (fun pre => pre <+: fnd s) (fnd s).length w := fun l J Jx W hW hJ _ hY h0 =>
  frames1_in n hn l Bs s hs J Jx W hJ hY ((hW.cell (p := ⟨Bs, 0, none⟩) hB).trans hc) h0
end Go.Proofs.Ytnmbojgjefhoaaa
