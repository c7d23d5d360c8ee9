/- The document's own net: Send, Double. -/
import Derived.Test.YtdfioggeiagihaaRef4
import Derived.Deep.AppendLies
import Derived.Deep.CutBlock
import Derived.Deep.RegionLaw
namespace Go.Proofs.Ytdfioggeiagihaa
open Go Go.RowKit

/-- A letter is appended. -/
theorem RAt.grewL {u V w1 : World} {q : Nat} {vL vC v' : Value} {st : Nt} {cuts : List (Int × Int)} {x : Lt} (h : RAt u q vL vC st cuts) (hV : Below u.heap.size u V) (hg : V.grownBy w1 vL.ownBlock)
    (hown : w1.ownsRow 0 41 5 v' (st.l.length + 1) (st.l.flatMap letC ++ letC x)) (hat : v'.ownBlock = vL.ownBlock ∨ ∃ j, u.heap.size ≤ j ∧ v'.ownBlock = some j) :
    w1.heap[q]? = u.heap[q]? ∧ RAt (w1.setCell ⟨q, 0, none⟩ v') q v' vC ⟨st.l ++ [x], st.n, st.p⟩ cuts ∧ Loc (RF q vL vC) (RF q v' vC) u (w1.setCell ⟨q, 0, none⟩ v') := by
  have hq := h.lt q (Or.inl rfl)
  have e1 : w1.heap[q]? = u.heap[q]? := (hg.block q (Nat.lt_of_lt_of_le hq hV.size) (fun e => h.neL e.symm)).trans (hV.block q hq)
  have hC : Recs w1 72 2 cutC vC cuts := h.cs.same (fun g hgC => (hg.block g (Nat.lt_of_lt_of_le (h.cs.lt hgC) hV.size) (fun e => h.neLC e.symm hgC)).trans (hV.block g (h.cs.lt hgC)))
  have hL : Recs w1 41 5 letC v' (st.l ++ [x]) := by
    unfold Recs
    rw [List.length_append, List.flatMap_append]
    simp only [List.flatMap_cons, List.flatMap_nil, List.append_nil, List.length_cons, List.length_nil]
    exact hown
  refine ⟨e1, RAt.setL (e1.trans h.head) hL hC h.cut, ?_⟩
  have l1 : Loc (RF q vL vC) (RF q vL vC) u V := Loc.of_below _ hV
  have l2 : Loc (RF q vL vC) (RF q v' vC) u w1 := ⟨hg.os.trans hV.os, hg.tape.trans hV.tape, hg.output.trans hV.output, Nat.le_trans hV.size hg.size, fun k hk hF => (hg.block k (Nat.lt_of_lt_of_le hk hV.size) (fun e => hF (Or.inr (Or.inl e.symm)))).trans (hV.block k hk), fun k hk => by
    rcases hk with h3 | h3 | h3
    · exact Or.inl (Or.inl h3)
    · rcases hat with h4 | ⟨j, hj, h4⟩
      · exact Or.inl (Or.inr (Or.inl (h4 ▸ h3)))
      · rw [h4] at h3; cases h3; exact Or.inr hj
    · exact Or.inl (Or.inr (Or.inr h3))⟩
  exact l2.trans (Loc.setCell w1 ⟨q, 0, none⟩ v' (Or.inl rfl))
/-- A pair is appended. -/
theorem RAt.grewC {u V w1 : World} {q : Nat} {vL vC v' : Value} {st : Nt} {cuts : List (Int × Int)} {c : Int × Int} {p' : Int → Int → Bool} (h : RAt u q vL vC st cuts) (hV : Below u.heap.size u V) (hg : V.grownBy w1 vC.ownBlock)
    (hown : w1.ownsRow 0 72 2 v' (cuts.length + 1) (cuts.flatMap cutC ++ cutC c)) (hat : v'.ownBlock = vC.ownBlock ∨ ∃ j, u.heap.size ≤ j ∧ v'.ownBlock = some j) (hp : ∀ x y, p' x y = cutsOf (cuts ++ [c]) x y) :
    w1.heap[q]? = u.heap[q]? ∧ RAt (w1.setCell ⟨q, 2, none⟩ v') q vL v' ⟨st.l, st.n, p'⟩ (cuts ++ [c]) ∧ Loc (RF q vL vC) (RF q vL v') u (w1.setCell ⟨q, 2, none⟩ v') := by
  have hq := h.lt q (Or.inl rfl)
  have e1 : w1.heap[q]? = u.heap[q]? := (hg.block q (Nat.lt_of_lt_of_le hq hV.size) (fun e => h.neC e.symm)).trans (hV.block q hq)
  have hL : Recs w1 41 5 letC vL st.l := h.ls.same (fun g hgL => (hg.block g (Nat.lt_of_lt_of_le (h.ls.lt hgL) hV.size) (fun e => h.neLC hgL e.symm)).trans (hV.block g (h.ls.lt hgL)))
  have hC : Recs w1 72 2 cutC v' (cuts ++ [c]) := by
    unfold Recs
    rw [List.length_append, List.flatMap_append]
    simp only [List.flatMap_cons, List.flatMap_nil, List.append_nil, List.length_cons, List.length_nil]
    exact hown
  refine ⟨e1, RAt.setC (e1.trans h.head) hL hC hp, ?_⟩
  have l2 : Loc (RF q vL vC) (RF q vL v') u w1 := ⟨hg.os.trans hV.os, hg.tape.trans hV.tape, hg.output.trans hV.output, Nat.le_trans hV.size hg.size, fun k hk hF => (hg.block k (Nat.lt_of_lt_of_le hk hV.size) (fun e => hF (Or.inr (Or.inr e.symm)))).trans (hV.block k hk), fun k hk => by
    rcases hk with h3 | h3 | h3
    · exact Or.inl (Or.inl h3)
    · exact Or.inl (Or.inr (Or.inl h3))
    · rcases hat with h4 | ⟨j, hj, h4⟩
      · exact Or.inl (Or.inr (Or.inr (h4 ▸ h3)))
      · rw [h4] at h3; cases h3; exact Or.inr hj⟩
  exact l2.trans (Loc.setCell w1 ⟨q, 2, none⟩ v' (Or.inl rfl))
theorem news5 (u : World) (a b c d e : Value) (T : TypeId) : ∀ (j : Nat) (v : Value), ([a, b, c, d, e] : List Value)[j]? = some v → (u.alloc (.cells #[a, b, c, d, e] T)).drew.cell? ((⟨u.heap.size, 0, none⟩ : Addr).add j) = some v := by
  intro j v hj
  have hb := Box.new u #[a, b, c, d, e] T
  have e1 : (⟨u.heap.size, 0, none⟩ : Addr).add j = ⟨u.heap.size, j, none⟩ := by unfold Addr.add; split <;> simp_all
  rw [e1]
  exact hb.get j (by simpa using hj)
theorem Nt.send_ok {st : Nt} {a b : Int} {s : ByteArray} (ha : adr a = true) (hb : adr b = true) (hs : ¬ 131072 < s.size) (hl : ¬ 4096 ≤ st.l.length) : st.send a b s = (st.n + 1, 0, sendN st a b s) := by
  unfold Nt.send; rw [ha, hb]; simp only [Bool.and_self]; rw [if_neg (by simp), if_neg hs, if_neg hl]
set_option maxRecDepth 10000 in
set_option maxHeartbeats 2000000 in
theorem rSend (q : Nat) (vL vC : Value) (st : Nt) (cuts : List (Int × Int)) (m : Nat) (a b : Int) (s : ByteArray) (w : World) (h : RAt w q vL vC st cuts) (hok : st.Ok m) (hm : m ≤ 1099511627776) (hs : s.size ≤ 140737488351232) :
    Calls Try.prog 12 #[.pointer (some ⟨q, 0, none⟩), .int .i64 a, .int .i64 b, .string s] w fun e w' => e = .returned (.tuple #[.int .u64 (((st.send a b s).1 : Nat) : Int), .int .i64 (((st.send a b s).2.1 : Nat) : Int)]) ∧ ∃ vL', RAt w' q vL' vC (st.send a b s).2.2 cuts ∧ Loc (RF q vL vC) (RF q vL' vC) w w' := by
  obtain ⟨i0, hi, hz0, hz1, hz2⟩ := info_parts infoL
  have HI := hide (And.intro hi (And.intro hz0 (And.intro hz1 hz2)))
  have H := hide h
  have HOk := hide hok
  have KA := fun z => hide (rAddr a z)
  have KB := fun z => hide (rAddr b z)
  have hlast := hok.last
  obtain ⟨c0, c1, c2⟩ := h.cells
  have hfree := h.free
  clear hi hz0 hz1 hz2 h hok
  cases ha : adr a with
  | false =>
    have HE : Hid (st.send a b s = (0, 2, st)) := by unfold Hid Nt.send; rw [ha]; rfl
    rw [ha] at KA
    clear ha
    go_enter Try.func12, Try.ntmps12
    go_wp2_with fail
    refine (KA _).out.mono ?_
    rintro e w1 ⟨rfl, rfl⟩
    go_wp2
    go_ret2
    exact ⟨by rw [HE.out]; rfl, vL, by rw [HE.out]; exact H.out, Loc.refl _ _⟩
  | true =>
    cases hb : adr b with
    | false =>
      have HE : Hid (st.send a b s = (0, 2, st)) := by unfold Hid Nt.send; rw [ha, hb]; rfl
      rw [ha] at KA
      rw [hb] at KB
      clear ha hb
      go_enter Try.func12, Try.ntmps12
      go_wp2_with fail
      refine (KA _).out.mono ?_
      rintro e w1 ⟨rfl, hw⟩
      obtain rfl := hw.symm
      clear hw KA
      go_wp2_with fail
      refine (KB _).out.mono ?_
      rintro e w1 ⟨rfl, rfl⟩
      go_wp2
      go_ret2
      exact ⟨by rw [HE.out]; rfl, vL, by rw [HE.out]; exact H.out, Loc.refl _ _⟩
    | true =>
      obtain ⟨aL, cL, rfl, -⟩ := H.out.ls.slice
      by_cases hsz : 131072 < s.size
      · have HE : Hid (st.send a b s = (0, 4, st)) := by unfold Hid Nt.send; rw [ha, hb]; simp [hsz]
        rw [ha] at KA
        rw [hb] at KB
        have hz : (131072 : Int) < (s.size : Int) := by omega
        clear ha hb
        go_enter Try.func12, Try.ntmps12
        go_wp2_with fail
        refine (KA _).out.mono ?_
        rintro e w1 ⟨rfl, hw⟩
        obtain rfl := hw.symm
        clear hw KA
        go_wp2_with fail
        refine (KB _).out.mono ?_
        rintro e w1 ⟨rfl, rfl⟩
        go_wp2
        go_ret2
        exact ⟨by rw [HE.out]; rfl, _, by rw [HE.out]; exact H.out, Loc.refl _ _⟩
      · have hz : ¬ (131072 : Int) < (s.size : Int) := by omega
        by_cases hl : 4096 ≤ st.l.length
        · have HE : Hid (st.send a b s = (0, 6, st)) := by unfold Hid Nt.send; rw [ha, hb]; simp [hsz, hl]
          rw [ha] at KA
          rw [hb] at KB
          have hlz : (4096 : Int) ≤ (st.l.length : Int) := by omega
          clear ha hb
          go_enter Try.func12, Try.ntmps12
          go_wp2_with fail
          refine (KA _).out.mono ?_
          rintro e w1 ⟨rfl, hw⟩
          obtain rfl := hw.symm
          clear hw KA
          go_wp2_with fail
          refine (KB _).out.mono ?_
          rintro e w1 ⟨rfl, rfl⟩
          go_wp2
          go_ret2
          exact ⟨by rw [HE.out]; rfl, _, by rw [HE.out]; exact H.out, Loc.refl _ _⟩
        · have HE := hide (Nt.send_ok ha hb hsz hl)
          rw [ha] at KA
          rw [hb] at KB
          have hlz : ¬ (4096 : Int) ≤ (st.l.length : Int) := by omega
          have Hlen : Hid (st.l.length ≤ 4096) := by unfold Hid; omega
          have HLz : Hid (decide ((4096 : Int) ≤ (st.l.length : Int)) = false) := by unfold Hid; simp; omega
          obtain ⟨N, hN⟩ : ∃ N : Nat, N = st.n + 1 := ⟨_, rfl⟩
          have HNe := hide hN
          have H1 := hide (H.out.setN N)
          have HLc := hide (Loc.setCell (F := RF q (.slice aL st.l.length cL) vC) w ⟨q, 1, none⟩ (.int .u64 (N : Int)) (Or.inl rfl))
          have HNz : Hid (IntKind.u64.wrap ((st.n : Int) + 1) = (N : Int)) := by unfold Hid; rw [IntKind.wrap_u64]; omega
          clear ha hb hN
          have hf1 := hfree 1
          go_enter Try.func12, Try.ntmps12
          go_wp2_with fail
          refine (KA _).out.mono ?_
          rintro e w1 ⟨rfl, hw⟩
          obtain rfl := hw.symm
          clear hw KA
          go_wp2_with fail
          refine (KB _).out.mono ?_
          rintro e w1 ⟨rfl, hw⟩
          obtain rfl := hw.symm
          clear hw KB hfree hlz hl
          have hlz := HLz.out
          go_upto_region 7 with fail
          have hnz := HNz.out
          have Hhm := hide hlast
          clear hlast
          generalize ((st.n : Int)) = n0 at *
          go_wp2_with fail
          clear c0 c1 c2 hf1 hnz
          generalize w.setCell ⟨q, 1, none⟩ (.int .u64 (N : Int)) = U at *
          obtain ⟨c0, c1, c2⟩ := H1.out.cells
          have hf0 := H1.out.free 0
          change U.cell? ⟨q, 1, none⟩ = some (.int .u64 (N : Int)) at c1
          have hcf : ∀ w1 : World, w1.heap[q]? = U.heap[q]? → w1.cell? ⟨q, 0, none⟩ = some (.slice aL st.l.length cL) ∧ w1.frozen? ⟨q, 0, none⟩ = false ∧ w1.cell? ⟨q, 1, none⟩ = some (.int .u64 (N : Int)) := fun w1 e => by
            have hh := e.trans H1.out.head
            exact ⟨by simp [World.cell?, hh], by simp [World.frozen?, hh], by simp [World.cell?, hh]⟩
          have HCf := hide hcf
          have HV := hide (((Below.refl U.heap.size U).alloc (Nat.le_refl _) (.cells #[.int .u64 (N : Int), .int .i64 a, .int .i64 b, .string s, .int .i64 0] 41)).drew)
          obtain ⟨k0, k1, -⟩ := (H1.out.below (one_below U (.cells #[.int .u64 (N : Int), .int .i64 a, .int .i64 b, .string s, .int .i64 0] 41))).cells
          have k2 := (H1.out.below (one_below U (.cells #[.int .u64 (N : Int), .int .i64 a, .int .i64 b, .string s, .int .i64 0] 41))).free 0
          change (U.alloc (.cells #[.int .u64 (N : Int), .int .i64 a, .int .i64 b, .string s, .int .i64 0] 41)).cell? ⟨q, 1, none⟩ = some (.int .u64 (N : Int)) at k1
          clear hcf hlz hz hsz hs hm c2
          go_region_law ((refine step_append_lies _ (by rfl) _ _ _ (by rfl) 0 41 i0 (.agg #[.int .u64 0, .int .i64 0, .int .i64 0, .string ⟨#[]⟩, .int .i64 0]) 5 48 Try.underlying28 HI.out.1 HI.out.2.1 HI.out.2.2.1 HI.out.2.2.2 rfl (by decide) (.slice aL st.l.length cL) st.l.length _ (by rfl) (World.ownsRow.drew (World.ownsRow.alloc H1.out.ls _)) ⟨U.heap.size, 0, none⟩ 1 1 [.int .u64 (N : Int), .int .i64 a, .int .i64 b, .string s, .int .i64 0] (by rfl) rfl (news5 U _ _ _ _ _ _) (one_letC [⟨N, a, b, s, 0⟩]) (by decide) (by have := Hlen.out; unfold maxLen; omega) (by have := Hlen.out; omega) (Nat.zero_le _) _ rfl ?_; intro g cap w1 hown1 hgrow hat hlt1; obtain ⟨he, hA, hLl⟩ := H1.out.grewL (x := ⟨N, a, b, s, 0⟩) HV.out hgrow hown1 (by rcases hat with h3 | h3; exact Or.inl h3.symm; exact Or.inr ⟨g, by rw [h3]; simp, rfl⟩); have HA := hide (And.intro hA hLl); obtain ⟨hcw, hfw, hnw⟩ := HCf.out w1 he; clear he hA hLl hgrow hat hown1))
          all_goals
            clear k0 k1 k2 c0 c1 hf0
            go_wp2_with fail
            go_ret2
            have hNe := HNe.out
            subst hNe
            exact ⟨by rw [HE.out]; rfl, _, by rw [HE.out]; exact HA.out.1, HLc.out.trans HA.out.2⟩
end Go.Proofs.Ytdfioggeiagihaa
