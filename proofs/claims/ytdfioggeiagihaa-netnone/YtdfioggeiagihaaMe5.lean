/- The program's net: put. -/
import Derived.Test.YtdfioggeiagihaaMe1
import Derived.Deep.AppendLies
import Derived.Deep.CutBlock
import Derived.Deep.RegionLaw
namespace Go.Proofs.Ytdfioggeiagihaa
open Go Go.RowKit

set_option maxRecDepth 10000 in
set_option maxHeartbeats 2000000 in
theorem pPut (p b : Nat) (vL : Value) (st : Nt) (m : Nat) (x : Lt) (w : World) (h : PAt w p b vL st) (hok : st.Ok m) (hm : m ≤ 1099511627776) :
    Calls Try.prog 35 #[.pointer (some ⟨p, 0, none⟩), x.val] w fun e w' => (4096 ≤ st.l.length ∧ e = .returned (.tuple #[.int .u64 0, .int .i64 6]) ∧ Below w.heap.size w w') ∨
      (st.l.length < 4096 ∧ e = .returned (.tuple #[.int .u64 ((st.n + 1 : Nat) : Int), .int .i64 0]) ∧ ∃ vL', PAt w' p b vL' ⟨st.l ++ [x.as (st.n + 1)], st.n + 1, st.p⟩ ∧ Loc (PF p b vL) (PF p b vL') w w') := by
  obtain ⟨yi, ya, yb, ys, yg⟩ := x
  show Calls Try.prog 35 #[.pointer (some ⟨p, 0, none⟩), .agg #[.int .u64 (yi : Int), .int .i64 ya, .int .i64 yb, .string ys, .int .i64 (yg : Int)]] w fun e w' => (4096 ≤ st.l.length ∧ e = .returned (.tuple #[.int .u64 0, .int .i64 6]) ∧ Below w.heap.size w w') ∨
      (st.l.length < 4096 ∧ e = .returned (.tuple #[.int .u64 ((st.n + 1 : Nat) : Int), .int .i64 0]) ∧ ∃ vL', PAt w' p b vL' ⟨st.l ++ [⟨st.n + 1, ya, yb, ys, yg⟩], st.n + 1, st.p⟩ ∧ Loc (PF p b vL) (PF p b vL') w w')
  obtain ⟨i0, hi, hz0, hz1, hz2⟩ := info_parts infoL
  have HI := hide (And.intro hi (And.intro hz0 (And.intro hz1 hz2)))
  clear hi hz0 hz1 hz2
  have hby := one_below w (.cells #[.int .u64 (yi : Int), .int .i64 ya, .int .i64 yb, .string ys, .int .i64 (yg : Int)] 41)
  have HB := hide hby
  have H1 := hide (h.below hby)
  have HX := hide (Box.new w #[.int .u64 (yi : Int), .int .i64 ya, .int .i64 yb, .string ys, .int .i64 (yg : Int)] 41)
  have HNX : Hid (¬ PF p b vL w.heap.size) := fun hf => by have := h.lt _ hf; omega
  have hlast := hok.last
  have hfew := hok.few
  clear hok hby
  obtain ⟨aL, cL, rfl, -⟩ := h.ls.slice
  clear h
  by_cases hl : 4096 ≤ st.l.length
  · have hlz : ((st.l.length : Int) == 4096) = true := by simp; omega
    have Hl := hide hl
    obtain ⟨c0, c1, c2⟩ := H1.out.cells
    clear hl hfew hlast hm
    go_enter Try.func35, Try.ntmps35
    go_wp2
    go_ret2
    exact Or.inl ⟨Hl.out, rfl, HB.out⟩
  · have hlz : ¬ (st.l.length : Int) = 4096 := by omega
    have Hl : Hid (st.l.length < 4096) := by unfold Hid; omega
    obtain ⟨N, hN⟩ : ∃ N : Nat, N = st.n + 1 := ⟨_, rfl⟩
    have HNe := hide hN
    have HNz : Hid (IntKind.u64.wrap ((st.n : Int) + 1) = (N : Int)) := by unfold Hid; rw [IntKind.wrap_u64]; omega
    have Hlz : Hid (((st.l.length : Int) == 4096) = false) := by unfold Hid; simpa using hlz
    clear hl hN hlast hm hfew hlz
    go_enter Try.func35, Try.ntmps35
    go_upto_region 1 with fail
    have HXe : Hid (w.heap.size = w.heap.size) := rfl
    generalize w.alloc (.cells #[.int .u64 (yi : Int), .int .i64 ya, .int .i64 yb, .string ys, .int .i64 (yg : Int)] 41) = w1 at *
    generalize hXX : w.heap.size = X at *
    have HXw := hide hXX
    clear hXX HXe
    obtain ⟨c0, c1, c2⟩ := H1.out.cells
    have hf1 := H1.out.free 1
    have hlz := Hlz.out
    go_upto_region 3 with fail
    have H2 := hide (H1.out.setN N)
    have HXp : Hid (X ≠ p) := fun e => HNX.out (e ▸ Or.inl rfl)
    have HX2 : Hid (Box (w1.setCell ⟨p, 1, none⟩ (.int .u64 (N : Int))) X #[.int .u64 (yi : Int), .int .i64 ya, .int .i64 yb, .string ys, .int .i64 (yg : Int)] 41) := HX.out.same (Below.heap_setCell w1 ⟨p, 1, none⟩ _ X HXp.out)
    have hnz := HNz.out
    generalize ((st.n : Int)) = n0 at *
    go_upto_region 4 with fail
    clear hnz c0 c1 c2 hf1 hlz
    have HLa := hide (Loc.setCell (F := PF p b (.slice aL st.l.length cL)) w1 ⟨p, 1, none⟩ (.int .u64 (N : Int)) (Or.inl rfl))
    generalize w1.setCell ⟨p, 1, none⟩ (.int .u64 (N : Int)) = w2 at *
    obtain ⟨c0, c1, c2⟩ := H2.out.cells
    change w2.cell? ⟨p, 1, none⟩ = some (.int .u64 (N : Int)) at c1
    have f0 := HX2.out.free
    obtain ⟨x0, x1, x2, x3, x4⟩ := HX2.out.five
    have HX3 := hide (HX2.out.one_put (.int .u64 (N : Int)))
    have hl1 : Loc (fun k => k = X) (fun k => k = X) w2 (w2.setCell ⟨X, 0, none⟩ (.int .u64 (N : Int))) := Loc.setCell w2 ⟨X, 0, none⟩ _ rfl
    have H3 := hide (H2.out.far hl1 HNX.out)
    have HLd : Hid (Loc (PF p b (.slice aL st.l.length cL)) (PF p b (.slice aL st.l.length cL)) w (w2.setCell ⟨X, 0, none⟩ (.int .u64 (N : Int)))) := by
      have HLb := (Loc.of_below (PF p b (.slice aL st.l.length cL)) (by rw [HXw.out]; exact HB.out)).trans HLa.out
      exact ⟨hl1.os.trans HLb.os, hl1.tape.trans HLb.tape, hl1.output.trans HLb.output, Nat.le_trans HLb.size hl1.size, fun k hk hF => (hl1.block k (Nat.lt_of_lt_of_le hk HLb.size) (fun e => by have := HXw.out; omega)).trans (HLb.block k hk hF), HLb.own⟩
    clear hl1 HLa
    go_upto_region 5 with fail
    clear c0 c1 c2 f0 x0 x1 x2 x3 x4 H2 HX2
    generalize w2.setCell ⟨X, 0, none⟩ (.int .u64 (N : Int)) = U2 at *
    obtain ⟨q0, q1, -⟩ := H3.out.cells
    change U2.cell? ⟨p, 1, none⟩ = some (.int .u64 (N : Int)) at q1
    obtain ⟨x0, x1, x2, x3, x4⟩ := HX3.out.five
    have hf0 := H3.out.free 0
    have hby := hide (one_below U2 (.cells #[.int .u64 (N : Int), .int .i64 ya, .int .i64 yb, .string ys, .int .i64 (yg : Int)] 41))
    obtain ⟨k0, k1, -⟩ := (H3.out.below hby.out).cells
    have k2 := (H3.out.below hby.out).free 0
    obtain ⟨z0, z1, z2, z3, z4⟩ := (HX3.out.below hby.out).five
    have HCf : Hid (∀ w1 : World, w1.heap[p]? = U2.heap[p]? → w1.cell? ⟨p, 0, none⟩ = some (.slice aL st.l.length cL) ∧ w1.frozen? ⟨p, 0, none⟩ = false) := fun w1 e => by
      have hh := e.trans H3.out.head
      exact ⟨by simp [World.cell?, hh], by simp [World.frozen?, hh]⟩
    have HV := hide (((Below.refl U2.heap.size U2).alloc (Nat.le_refl _) (.cells #[.int .u64 (N : Int), .int .i64 ya, .int .i64 yb, .string ys, .int .i64 (yg : Int)] 41)).drew)
    have HXV : Hid (∀ (w1 : World) (v : Value), (U2.alloc (.cells #[.int .u64 (N : Int), .int .i64 ya, .int .i64 yb, .string ys, .int .i64 (yg : Int)] 41)).drew.grownBy w1 (Value.slice aL st.l.length cL).ownBlock → Box (w1.setCell ⟨p, 0, none⟩ v) X #[.int .u64 (N : Int), .int .i64 ya, .int .i64 yb, .string ys, .int .i64 (yg : Int)] 41) := fun w1 v hg => by
      have hb := HX3.out.below hby.out
      refine Box.same (Box.same (u := (U2.alloc (.cells #[.int .u64 (N : Int), .int .i64 ya, .int .i64 yb, .string ys, .int .i64 (yg : Int)] 41)).drew) hb (hg.block X hb.lt (fun e => HNX.out (Or.inr (Or.inr e.symm))))) (Below.heap_setCell w1 ⟨p, 0, none⟩ v X HXp.out)
    go_region_law ((refine step_append_lies _ (by rfl) _ _ _ (by rfl) 0 41 i0 (.agg #[.int .u64 0, .int .i64 0, .int .i64 0, .string ⟨#[]⟩, .int .i64 0]) 5 48 Try.underlying28 HI.out.1 HI.out.2.1 HI.out.2.2.1 HI.out.2.2.2 rfl (by decide) (.slice aL st.l.length cL) st.l.length _ (by rfl) (World.ownsRow.drew (World.ownsRow.alloc H3.out.ls _)) ⟨U2.heap.size, 0, none⟩ 1 1 [.int .u64 (N : Int), .int .i64 ya, .int .i64 yb, .string ys, .int .i64 (yg : Int)] (by rfl) rfl (news5 U2 _ _ _ _ _ _) (one_letC [⟨N, ya, yb, ys, yg⟩]) (by decide) (by have := Hl.out; unfold maxLen; omega) (by have := Hl.out; omega) (Nat.zero_le _) _ rfl ?_; intro g2 cap w1 hown1 hgrow hat hlt1; obtain ⟨he, hA, hLl⟩ := H3.out.grew (x := ⟨N, ya, yb, ys, yg⟩) HV.out hgrow hown1 (by rcases hat with h3 | h3; exact Or.inl h3.symm; exact Or.inr ⟨g2, by rw [h3]; simp, rfl⟩); have HA := hide (And.intro hA hLl); have HY := hide (HXV.out w1 (.slice (some ⟨g2, 0, none⟩) (st.l.length + 1) cap) hgrow); obtain ⟨hcw, hfw⟩ := HCf.out w1 he; clear he hA hLl hgrow hat hown1))
    all_goals
      clear k0 k1 k2 q0 q1 hf0 x0 x1 x2 x3 x4 z0 z1 z2 z3 z4
      obtain ⟨x0, x1, x2, x3, x4⟩ := HY.out.five
      go_wp2_with fail
      go_ret2
      have hNe := HNe.out
      subst hNe
      exact Or.inr ⟨Hl.out, rfl, _, HA.out.1, HLd.out.trans HA.out.2⟩
end Go.Proofs.Ytdfioggeiagihaa
