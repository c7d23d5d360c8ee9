/- The document's own net: Double. -/
import Derived.Test.YtdfioggeiagihaaRef5
namespace Go.Proofs.Ytdfioggeiagihaa
open Go Go.RowKit

theorem Nt.double_no {st : Nt} {id : Nat} (h : st.find id = none) : st.double id = (0, 5, st) := by unfold Nt.double; rw [h]
theorem Nt.double_full {st : Nt} {id : Nat} {x : Lt} (h : st.find id = some x) (hl : 4096 ≤ st.l.length) : st.double id = (0, 6, st) := by unfold Nt.double; rw [h]; simp [hl]
theorem Nt.double_ok {st : Nt} {id : Nat} {x : Lt} (h : st.find id = some x) (hl : ¬ 4096 ≤ st.l.length) : st.double id = (st.n + 1, 0, doubleN st x) := by unfold Nt.double; rw [h]; simp only; rw [if_neg hl]
theorem Box.one_put {u : World} {X : Nat} {T : TypeId} {a0 b c d e : Value} (h : Box u X #[a0, b, c, d, e] T) (a : Value) : Box (u.setCell ⟨X, 0, none⟩ a) X #[a, b, c, d, e] T := by
  show (u.setCell ⟨X, 0, none⟩ a).heap[X]? = _
  rw [heap_setAt h]
  rfl
set_option maxRecDepth 10000 in
set_option maxHeartbeats 2000000 in
theorem rDouble (q : Nat) (vL vC : Value) (st : Nt) (cuts : List (Int × Int)) (m id : Nat) (w : World) (h : RAt w q vL vC st cuts) (hok : st.Ok m) (hm : m ≤ 1099511627776) :
    Calls Try.prog 17 #[.pointer (some ⟨q, 0, none⟩), .int .u64 (id : Int)] w fun e w' => e = .returned (.tuple #[.int .u64 (((st.double id).1 : Nat) : Int), .int .i64 (((st.double id).2.1 : Nat) : Int)]) ∧ ∃ vL', RAt w' q vL' vC (st.double id).2.2 cuts ∧ Loc (RF q vL vC) (RF q vL' vC) w w' := by
  obtain ⟨i0, hi, hz0, hz1, hz2⟩ := info_parts infoL
  have HI := hide (And.intro hi (And.intro hz0 (And.intro hz1 hz2)))
  have H := hide h
  have KF := hide (rFind q vL vC st cuts m id w h hok)
  have Hlast : Hid (st.n ≤ 1099511627776) := by unfold Hid; have := hok.last; omega
  clear hi hz0 hz1 hz2 h hok
  go_enter Try.func17, Try.ntmps17
  go_wp2_with fail
  refine KF.out.mono ?_
  rintro e w2 ⟨hw, ⟨hf, rfl⟩ | ⟨k, hk, hf, hid, rfl⟩⟩
  · obtain rfl := hw.symm
    have HE := hide (Nt.double_no hf)
    clear hw KF hf
    go_wp2
    go_ret2
    exact ⟨by rw [HE.out]; rfl, vL, by rw [HE.out]; exact H.out, Loc.refl _ _⟩
  · obtain rfl := hw.symm
    clear hw KF
    obtain ⟨g, c, rfl, hcap, -, h4, -⟩ := H.out.letter (by omega)
    obtain ⟨q0, q1, -⟩ := H.out.cells
    have hz : ¬ (k : Int) < 0 := by omega
    by_cases hl : 4096 ≤ st.l.length
    · have HE := hide (Nt.double_full hf hl)
      have hlz : decide ((4096 : Int) ≤ (st.l.length : Int)) = true := by simp; omega
      clear hf hid hl h4 q1
      go_wp2_with fail
      go_ret2
      exact ⟨by rw [HE.out]; rfl, _, by rw [HE.out]; exact H.out, Loc.refl _ _⟩
    · have HE := hide (Nt.double_ok hf hl)
      have Hlen : Hid (st.l.length ≤ 4096) := by unfold Hid; omega
      have HLz : Hid (decide ((4096 : Int) ≤ (st.l.length : Int)) = false) := by unfold Hid; simp; omega
      obtain ⟨N, hN⟩ : ∃ N : Nat, N = st.n + 1 := ⟨_, rfl⟩
      have HNe := hide hN
      have H1 := hide (H.out.setN N)
      have HLc := hide (Loc.setCell (F := RF q (.slice (some ⟨g, 0, none⟩) st.l.length c) vC) w ⟨q, 1, none⟩ (.int .u64 (N : Int)) (Or.inl rfl))
      have HNz : Hid (IntKind.u64.wrap ((st.n : Int) + 1) = (N : Int)) := by unfold Hid; rw [IntKind.wrap_u64]; have := Hlast.out; omega
      have hfr := H.out.free 1
      have hlt : (k : Int) < (st.l.length : Int) := by omega
      have hkz : (k : Int) ≤ 4096 := by omega
      clear hl hN hf hid h4
      have hlz := HLz.out
      go_upto_region 6 with fail
      have hnz := HNz.out
      generalize ((st.n : Int)) = n0 at *
      go_upto_region 7 with fail
      clear q0 q1 hfr hnz
      generalize w.setCell ⟨q, 1, none⟩ (.int .u64 (N : Int)) = U at *
      obtain ⟨g', c', e', -, -, h4, -⟩ := H1.out.letter (by show 0 < st.l.length; omega)
      cases e'
      obtain ⟨g0, g1, g2, g3, g4⟩ := h4 k hk
      obtain ⟨q0, q1, -⟩ := H1.out.cells
      change U.cell? ⟨q, 1, none⟩ = some (.int .u64 (N : Int)) at q1
      clear h4
      change U.cell? _ = some (.int .u64 (st.l[k].id : Int)) at g0
      change U.cell? _ = some (.int .i64 st.l[k].a) at g1
      change U.cell? _ = some (.int .i64 st.l[k].b) at g2
      change U.cell? _ = some (.string st.l[k].s) at g3
      change U.cell? _ = some (.int .i64 (st.l[k].g : Int)) at g4
      generalize st.l[k] = y at *
      obtain ⟨yi, ya, yb, ys, yg⟩ := y
      dsimp only at *
      go_upto_region 8 with fail
      clear q0 q1 g0 g1 g2 g3 g4
      have hby := one_below U (.cells #[.int .u64 (yi : Int), .int .i64 ya, .int .i64 yb, .string ys, .int .i64 (yg : Int)] 41)
      have H2 := hide (H1.out.below hby)
      have HX := hide (Box.new U #[.int .u64 (yi : Int), .int .i64 ya, .int .i64 yb, .string ys, .int .i64 (yg : Int)] 41)
      have HNX : Hid (¬ RF q (.slice (some ⟨g, 0, none⟩) st.l.length c) vC U.heap.size) := fun hf => by have := H1.out.lt _ hf; omega
      have HLb := hide (HLc.out.trans (Loc.of_below (RF q (.slice (some ⟨g, 0, none⟩) st.l.length c) vC) hby))
      have HXs : Hid (w.heap.size ≤ U.heap.size) := HLc.out.size
      clear hby H1 HLc
      generalize U.alloc (.cells #[.int .u64 (yi : Int), .int .i64 ya, .int .i64 yb, .string ys, .int .i64 (yg : Int)] 41) = V0 at *
      generalize U.heap.size = X at *
      obtain ⟨q0, q1, -⟩ := H2.out.cells
      change V0.cell? ⟨q, 1, none⟩ = some (.int .u64 (N : Int)) at q1
      obtain ⟨x0, x1, x2, x3, x4⟩ := HX.out.five
      have f0 := HX.out.free
      have HX1 := hide (HX.out.one_put (.int .u64 (N : Int)))
      have hl1 : Loc (fun k => k = X) (fun k => k = X) V0 (V0.setCell ⟨X, 0, none⟩ (.int .u64 (N : Int))) := Loc.setCell V0 ⟨X, 0, none⟩ _ rfl
      have H3 := hide (H2.out.far hl1 HNX.out)
      have HLd : Hid (Loc (RF q (.slice (some ⟨g, 0, none⟩) st.l.length c) vC) (RF q (.slice (some ⟨g, 0, none⟩) st.l.length c) vC) w (V0.setCell ⟨X, 0, none⟩ (.int .u64 (N : Int)))) := ⟨hl1.os.trans HLb.out.os, hl1.tape.trans HLb.out.tape, hl1.output.trans HLb.out.output, Nat.le_trans HLb.out.size hl1.size, fun k hk hF => (hl1.block k (Nat.lt_of_lt_of_le hk HLb.out.size) (fun e => by have := HXs.out; omega)).trans (HLb.out.block k hk hF), HLb.out.own⟩
      clear hl1
      go_wp2_with fail
      clear q0 q1 x0 x1 x2 x3 x4 f0 H2 HX HLb
      generalize V0.setCell ⟨X, 0, none⟩ (.int .u64 (N : Int)) = U2 at *
      obtain ⟨q0, q1, -⟩ := H3.out.cells
      change U2.cell? ⟨q, 1, none⟩ = some (.int .u64 (N : Int)) at q1
      obtain ⟨x0, x1, x2, x3, x4⟩ := HX1.out.five
      have hf0 := H3.out.free 0
      have hby := hide (one_below U2 (.cells #[.int .u64 (N : Int), .int .i64 ya, .int .i64 yb, .string ys, .int .i64 (yg : Int)] 41))
      obtain ⟨k0, k1, -⟩ := (H3.out.below hby.out).cells
      have k2 := (H3.out.below hby.out).free 0
      change (U2.alloc (.cells #[.int .u64 (N : Int), .int .i64 ya, .int .i64 yb, .string ys, .int .i64 (yg : Int)] 41)).cell? ⟨q, 1, none⟩ = some (.int .u64 (N : Int)) at k1
      obtain ⟨z0, z1, z2, z3, z4⟩ := (HX1.out.below hby.out).five
      have HCf : Hid (∀ w1 : World, w1.heap[q]? = U2.heap[q]? → w1.cell? ⟨q, 0, none⟩ = some (.slice (some ⟨g, 0, none⟩) st.l.length c) ∧ w1.frozen? ⟨q, 0, none⟩ = false ∧ w1.cell? ⟨q, 1, none⟩ = some (.int .u64 (N : Int))) := fun w1 e => by
        have hh := e.trans H3.out.head
        exact ⟨by simp [World.cell?, hh], by simp [World.frozen?, hh], by simp [World.cell?, hh]⟩
      have HV := hide (((Below.refl U2.heap.size U2).alloc (Nat.le_refl _) (.cells #[.int .u64 (N : Int), .int .i64 ya, .int .i64 yb, .string ys, .int .i64 (yg : Int)] 41)).drew)
      clear hlz hm hlt hkz hz
      go_region_law ((refine step_append_lies _ (by rfl) _ _ _ (by rfl) 0 41 i0 (.agg #[.int .u64 0, .int .i64 0, .int .i64 0, .string ⟨#[]⟩, .int .i64 0]) 5 48 Try.underlying28 HI.out.1 HI.out.2.1 HI.out.2.2.1 HI.out.2.2.2 rfl (by decide) (.slice (some ⟨g, 0, none⟩) st.l.length c) st.l.length _ (by rfl) (World.ownsRow.drew (World.ownsRow.alloc H3.out.ls _)) ⟨U2.heap.size, 0, none⟩ 1 1 [.int .u64 (N : Int), .int .i64 ya, .int .i64 yb, .string ys, .int .i64 (yg : Int)] (by rfl) rfl (news5 U2 _ _ _ _ _ _) (one_letC [⟨N, ya, yb, ys, yg⟩]) (by decide) (by have := Hlen.out; unfold maxLen; omega) (by have := Hlen.out; omega) (Nat.zero_le _) _ rfl ?_; intro g2 cap w1 hown1 hgrow hat hlt1; obtain ⟨he, hA, hLl⟩ := H3.out.grewL (x := ⟨N, ya, yb, ys, yg⟩) HV.out hgrow hown1 (by rcases hat with h3 | h3; exact Or.inl h3.symm; exact Or.inr ⟨g2, by rw [h3]; simp, rfl⟩); have HA := hide (And.intro hA hLl); obtain ⟨hcw, hfw, hnw⟩ := HCf.out w1 he; clear he hA hLl hgrow hat hown1))
      all_goals
        clear k0 k1 k2 q0 q1 hf0 x0 x1 x2 x3 x4 z0 z1 z2 z3 z4
        go_wp2_with fail
        go_ret2
        have hNe := HNe.out
        subst hNe
        exact ⟨by rw [HE.out]; rfl, _, by rw [HE.out]; exact HA.out.1, HLd.out.trans HA.out.2⟩
end Go.Proofs.Ytdfioggeiagihaa
