/- Package wal's mend. -/
import Derived.Test.YtelkccfjeinlcaaG1LaySure
import Derived.Test.YtelkccfjeinlcaaG1ReadOn
import Derived.Laws.EntriesVeiled
namespace Go.Proofs.Ytelkccfjeinlcaa
open Go Go.RowKit Frm Go.Shelf
/-- The blocks are made those of the stream, in two steps. -/
def mended (o N : Nat) (a : Nat → ByteArray) (s : ByteArray) (st : St) : Nat × St :=
  if (made o (prs N a (fun i => recount (a i) s i)) st).1 ≠ 0 then made o (prs N a (fun i => recount (a i) s i)) st
  else made o (prs N (fun i => recount (a i) s i) (blkOf s)) (made o (prs N a (fun i => recount (a i) s i)) st).2
theorem prs_congr {n : Nat} {a a' b b' : Nat → ByteArray} (ha : ∀ i, i < n → a i = a' i) (hb : ∀ i, i < n → b i = b' i) : prs n a b = prs n a' b' := by
  unfold prs
  apply List.map_congr_left
  intro i hi
  rw [List.mem_range] at hi
  rw [ha i hi, hb i hi]
theorem made_ok (o N : Nat) (a b : Nat → ByteArray) (st : St) (h : st.Ok) : (made o (prs N a b) st).2.Ok ∧ (made o (prs N a b) st).2.loose.length ≤ st.loose.length + N := by
  have hp := lay_len o N a b st h
  unfold made
  split
  · exact hp
  · split
    · exact hp
    · refine ⟨hp.1.sync, ?_⟩
      unfold St.sync
      split
      · exact hp.2
      · simp
theorem heap4 (w : World) (o0 o1 o2 o3 : Obj) (j : Nat) : ((((w.alloc o0).alloc o1).alloc o2).alloc o3).heap[w.heap.size + j]? = [o0, o1, o2, o3][j]? := by
  have e : ((((w.alloc o0).alloc o1).alloc o2).alloc o3).heap = w.heap ++ #[o0, o1, o2, o3] := by
    show (((w.heap.push o0).push o1).push o2).push o3 = _
    apply Array.ext'
    simp
  rw [e, Array.getElem?_append_right (by omega), Nat.add_sub_cancel_left]
  simp
theorem strs_kept {w u : World} {a : Option Addr} {c : Nat} {l : List ByteArray} (h : OwnL w 0 (.slice a l.length c) l) (hb : ∀ k, OB (.slice a l.length c) k → u.heap[k]? = w.heap[k]?) : StrsAt u a l := by
  have h2 : OwnL u 0 (.slice a l.length c) l := own_same h (fun g hg => hb g hg)
  obtain ⟨a', c', e, hs⟩ := h2.strs
  cases e
  exact hs
set_option maxRecDepth 10000 in
set_option maxHeartbeats 2000000 in
theorem mend_any (q o N : Nat) (a0 : Option Addr) (c0 : Nat) (l : List ByteArray) (a : Nat → ByteArray) (s : ByteArray) (st : St) (F : Nat → Prop) (w : World) (hD : DAt w q st F) (hok : st.Ok) (hlo : st.loose.length + N + N ≤ 10000) (hN : N ≤ 4096) (ho : o ≤ 4096)
    (hlN : l.length = N) (hv : OwnL w 0 (.slice a0 l.length c0) l) (hdj : ∀ k, F k → ¬ OB (.slice a0 l.length c0) k) (h256 : ∀ b ∈ l, b.size = 256) (ha : ∀ i (hi : i < l.length), l[i] = a i) :
    Calls Try.prog 45 #[.agg #[.pointer (some ⟨q, 0, none⟩), .int .i64 (o : Int), .int .i64 (N : Int)], .slice a0 l.length c0, .string s] w fun e w' => e = .returned (.int .i64 (((mended o N a s st).1 : Nat) : Int)) ∧ ∃ F', DAt w' q (mended o N a s st).2 F' ∧ Loc F F' w w' := by
  obtain ⟨W, hW⟩ : ∃ W, ((((w.alloc (.cells #[.pointer (some ⟨q, 0, none⟩), .int .i64 (o : Int), .int .i64 (N : Int)] 87)).alloc (.cells #[.slice a0 l.length c0] 43)).alloc (.cells #[.string s] 9)).alloc (.cells #[.func (.func 66) #[] #[.pointer (some ⟨w.heap.size + 1 + 1, 0, none⟩)]] 91)) = W := ⟨_, rfl⟩
  have hsz : W.heap.size = w.heap.size + 4 := by rw [← hW]; simp
  have hb : Below w.heap.size w W := by
    rw [← hW]
    exact ((((Below.refl _ w).alloc (Nat.le_refl _) _).alloc (by simp) _).alloc (by simp; omega) _).alloc (by simp; omega) _
  have g : ∀ (j : Nat), W.heap[w.heap.size + j]? = [Obj.cells #[.pointer (some ⟨q, 0, none⟩), .int .i64 (o : Int), .int .i64 (N : Int)] 87 (0, 0), .cells #[.slice a0 l.length c0] 43 (0, 0), .cells #[.string s] 9 (0, 0), .cells #[.func (.func 66) #[] #[.pointer (some ⟨w.heap.size + 1 + 1, 0, none⟩)]] 91 (0, 0)][j]? := fun j => by
    rw [← hW]
    exact heap4 w _ _ _ _ j
  have g0 : W.heap[w.heap.size]? = some (.cells #[.pointer (some ⟨q, 0, none⟩), .int .i64 (o : Int), .int .i64 (N : Int)] 87 (0, 0)) := g 0
  have g1 : W.heap[w.heap.size + 1]? = some (.cells #[.slice a0 l.length c0] 43 (0, 0)) := g 1
  have g2 : W.heap[w.heap.size + 1 + 1]? = some (.cells #[.string s] 9 (0, 0)) := g 2
  have g3 : W.heap[w.heap.size + 1 + 1 + 1]? = some (.cells #[.func (.func 66) #[] #[.pointer (some ⟨w.heap.size + 1 + 1, 0, none⟩)]] 91 (0, 0)) := g 3
  have hF := con.lt hD
  obtain ⟨K0, hK0⟩ : ∃ K0 : Nat → Prop, K0 = fun k => OB (.slice a0 l.length c0) k ∨ k = w.heap.size + 1 ∨ k = w.heap.size + 1 + 1 ∨ k = w.heap.size + 1 + 1 + 1 := ⟨_, rfl⟩
  have hKW : ∀ k, K0 k → k < W.heap.size ∧ ¬ F k := fun k hk => by
    subst hK0
    rcases hk with h1 | h1 | h1 | h1
    · exact ⟨by have := own_lt0 hv h1; omega, fun hf => hdj k hf h1⟩
    · exact ⟨by omega, fun hf => by have := hF k hf; omega⟩
    · exact ⟨by omega, fun hf => by have := hF k hf; omega⟩
    · exact ⟨by omega, fun hf => by have := hF k hf; omega⟩
  have hst : ∀ u, Kpt K0 W u → StrsAt u a0 l := fun u hu => strs_kept (hv.below hb) (fun k hk => hu k (by subst hK0; exact Or.inl hk))
  have c1 : ∀ u, Kpt K0 W u → u.cell? ⟨w.heap.size + 1, 0, none⟩ = some (.slice a0 l.length c0) := fun u hu => hu.cell (by subst hK0; exact Or.inr (Or.inl rfl)) (by simp [World.cell?, g1])
  have c2 : ∀ u, Kpt K0 W u → u.cell? ⟨w.heap.size + 1 + 1, 0, none⟩ = some (.string s) := fun u hu => hu.cell (by subst hK0; exact Or.inr (Or.inr (Or.inl rfl))) (by simp [World.cell?, g2])
  have c3 : ∀ u, Kpt K0 W u → u.cell? ⟨w.heap.size + 1 + 1 + 1, 0, none⟩ = some (.func (.func 66) #[] #[.pointer (some ⟨w.heap.size + 1 + 1, 0, none⟩)]) := fun u hu => hu.cell (by subst hK0; exact Or.inr (Or.inr (Or.inr rfl))) (by simp [World.cell?, g3])
  have hl4 : l.length ≤ 4096 := by omega
  have m1 : ∀ u i, Kpt K0 W u → i < N → Calls Try.prog 71 #[.int .i64 (i : Int), .pointer (some ⟨w.heap.size + 1, 0, none⟩)] u fun e u' => e = .returned (.string (a i)) ∧ Below u.heap.size u u' := fun u i hu hi => by
    rw [← ha i (by omega)]
    exact are_any l _ i a0 c0 u (c1 u hu) (hst u hu) (by omega) hl4
  have m2 : ∀ u i, Kpt K0 W u → i < N → Calls Try.prog 72 #[.int .i64 (i : Int), .pointer (some ⟨w.heap.size + 1, 0, none⟩), .pointer (some ⟨w.heap.size + 1 + 1 + 1, 0, none⟩)] u fun e u' => e = .returned (.string (recount (a i) s i)) ∧ Below u.heap.size u u' := fun u i hu hi => by
    rw [← ha i (by omega)]
    exact counted_any l s _ _ (w.heap.size + 1 + 1) i a0 c0 u (c1 u hu) (c3 u hu) (c2 u hu) (hst u hu) (by omega) hl4 (h256 _ (List.getElem_mem _))
  have m3 : ∀ u i, Kpt K0 W u → i < N → Calls Try.prog 66 #[.int .i64 (i : Int), .pointer (some ⟨w.heap.size + 1 + 1, 0, none⟩)] u fun e u' => e = .returned (.string (blkOf s i)) ∧ Below u.heap.size u u' := fun u i hu hi => blk_any s _ i u (c2 u hu) (by omega)
  have K1 := hide (sure_71_72 q o N (w.heap.size + 1) (w.heap.size + 1) (w.heap.size + 1 + 1 + 1) a (fun i => recount (a i) s i) st F K0 W (con.below hD hb) hok (by omega) hN ho hKW m2 m1)
  have hmk := made_ok o N a (fun i => recount (a i) s i) st hok
  have K2 : Hid (∀ F1 w1, DAt w1 q (made o (prs N a (fun i => recount (a i) s i)) st).2 F1 → Loc F F1 W w1 → w1.cell? ⟨w.heap.size, 0, none⟩ = some (.pointer (some ⟨q, 0, none⟩)) ∧ w1.cell? ⟨w.heap.size, 1, none⟩ = some (.int .i64 (o : Int)) ∧ w1.cell? ⟨w.heap.size, 2, none⟩ = some (.int .i64 (N : Int)) ∧ w1.cell? ⟨w.heap.size + 1 + 1 + 1, 0, none⟩ = some (.func (.func 66) #[] #[.pointer (some ⟨w.heap.size + 1 + 1, 0, none⟩)]) ∧
      Calls Try.prog 73 #[.agg #[.pointer (some ⟨q, 0, none⟩), .int .i64 (o : Int), .int .i64 (N : Int)], .func (.func 72) #[] #[.pointer (some ⟨w.heap.size + 1, 0, none⟩), .pointer (some ⟨w.heap.size + 1 + 1 + 1, 0, none⟩)], .func (.func 66) #[] #[.pointer (some ⟨w.heap.size + 1 + 1, 0, none⟩)]] w1 fun e w' => e = .returned (.int .i64 (((made o (prs N (fun i => recount (a i) s i) (blkOf s)) (made o (prs N a (fun i => recount (a i) s i)) st).2).1 : Nat) : Int)) ∧ ∃ F', DAt w' q (made o (prs N (fun i => recount (a i) s i) (blkOf s)) (made o (prs N a (fun i => recount (a i) s i)) st).2).2 F' ∧ Loc F1 F' w1 w') := fun F1 w1 hd hl => by
    have hkp : Kpt K0 W w1 := fun k hk => hl.block k (hKW k hk).1 (hKW k hk).2
    have ha0 : w1.heap[w.heap.size]? = some (.cells #[.pointer (some ⟨q, 0, none⟩), .int .i64 (o : Int), .int .i64 (N : Int)] 87 (0, 0)) := (hl.block _ (by omega) (fun hf => by have := hF _ hf; omega)).trans g0
    refine ⟨by simp [World.cell?, ha0], by simp [World.cell?, ha0], by simp [World.cell?, ha0], c3 w1 hkp, ?_⟩
    refine sure_72_66 q o N (w.heap.size + 1) (w.heap.size + 1 + 1 + 1) (w.heap.size + 1 + 1) (fun i => recount (a i) s i) (blkOf s) _ F1 K0 w1 hd hmk.1 (by have := hmk.2; omega) hN ho (fun k hk => ⟨Nat.lt_of_lt_of_le (hKW k hk).1 hl.size, fun hf => ?_⟩) (fun u i hu hi => m3 u i (hkp.trans hu) hi) (fun u i hu hi => m2 u i (hkp.trans hu) hi)
    rcases hl.own k hf with h1 | h1
    · exact (hKW k hk).2 h1
    · have := (hKW k hk).1; omega
  have HL := hide (Loc.of_below F hb)
  have KB := hide (fun u => blocks_any s u)
  have hc0 : W.cell? ⟨w.heap.size, 0, none⟩ = some (.pointer (some ⟨q, 0, none⟩)) := by simp [World.cell?, g0]
  have hc1 : W.cell? ⟨w.heap.size, 1, none⟩ = some (.int .i64 (o : Int)) := by simp [World.cell?, g0]
  have hc2 : W.cell? ⟨w.heap.size, 2, none⟩ = some (.int .i64 (N : Int)) := by simp [World.cell?, g0]
  have HM : Hid (((made o (prs N a (fun i => recount (a i) s i)) st).1 ≠ 0 → mended o N a s st = made o (prs N a (fun i => recount (a i) s i)) st) ∧ ((made o (prs N a (fun i => recount (a i) s i)) st).1 = 0 → mended o N a s st = made o (prs N (fun i => recount (a i) s i) (blkOf s)) (made o (prs N a (fun i => recount (a i) s i)) st).2)) := by
    unfold mended
    exact ⟨fun h => by rw [if_pos h], fun h => by rw [if_neg (by rw [h]; simp)]⟩
  clear hD hok hlo hv hdj h256 ha hb g g0 g1 g2 g3 hKW hst c1 c2 c3 m1 m2 m3 hmk hF hlN hN ho hl4
  generalize mended o N a s st = M at *
  generalize made o (prs N a (fun i => recount (a i) s i)) st = M1 at *
  generalize made o (prs N (fun i => recount (a i) s i) (blkOf s)) M1.2 = M2 at *
  go_enter Try.func45, Try.ntmps45
  go_wp2_with fail
  refine (KB.out _).mono ?_
  rintro e w1 ⟨rfl, rfl⟩
  by_cases h0 : M1.1 = 0
  · have HA := hide (HM.out.2 h0)
    rw [h0] at K1
    clear h0
    go_wp2_with fail
    refine K1.out.mono ?_
    rintro e w1 ⟨rfl, F1, hd, hl⟩
    obtain ⟨hq0, hq1, hq2, hq3, hq4⟩ := K2.out F1 w1 hd hl
    have HL1 := hide hl
    have K3 := hide hq4
    clear hd hl hq4
    go_wp2_with fail
    refine K3.out.mono ?_
    rintro e w2 ⟨rfl, F2, hd2, hl2⟩
    have HD2 := hide hd2
    have HL2 := hide hl2
    clear hd2 hl2
    go_wp2
    go_ret
    exact ⟨by rw [HA.out]; rfl, F2, by rw [HA.out]; exact HD2.out, (HL.out.trans HL1.out).trans HL2.out⟩
  · have HA := hide (HM.out.1 h0)
    have hez : ¬ ((M1.1 : Int) = 0) := by omega
    clear h0
    go_wp2_with fail
    refine K1.out.mono ?_
    rintro e w1 ⟨rfl, F1, hd, hl⟩
    have HD1 := hide hd
    have HL1 := hide hl
    clear hd hl
    go_wp2
    go_ret
    exact ⟨by rw [HA.out]; rfl, F1, by rw [HA.out]; exact HD1.out, HL.out.trans HL1.out⟩
end Go.Proofs.Ytelkccfjeinlcaa
