/- The document's own clocks: Tick. -/
import Derived.Test.YtkphngljgfoniaaRef
import Derived.Deep.RegionWith
namespace Go.Proofs.Ytkphngljgfoniaa
open Go Go.RowKit

theorem RAt.drew {u : World} {q g k : Nat} {c : Ck} (h : RAt u q g k c) : RAt u.drew q g k c := h.same rfl rfl
/-- The same clocks, whatever else became of the world. -/
theorem RAt.loc {u v : World} {q g k : Nat} {c c' : Ck} (h : Loc (RF q g) (RF q g) u v) (_ : RAt v q g k c') (_ : RAt u q g k c) : ∀ i, i < u.heap.size → ¬ RF q g i → v.heap[i]? = u.heap[i]? := fun i hi hF => h.block i hi hF
theorem max_if (a b : Int) : (if a < b then b else a) = max a b := by split <;> omega
set_option maxHeartbeats 1000000 in
theorem rTick (q g k : Nat) (c : Ck) (i y : Int) (w : World) (h : RAt w q g k c) (hok : c.Ok) (hi : I64 i) : Calls Try.prog 12 #[.pointer (some ⟨q, 0, none⟩), .int .i64 i, .int .i64 y] w fun e w' => e = .returned (.int .i64 (((c.tick i y).1 : Nat) : Int)) ∧ RAt w' q g k (c.tick i y).2 ∧ Loc (RF q g) (RF q g) w w' := by
  have hc0 := h.cell0
  have H := hide h
  have HOk := hide hok
  have hfew := hok.few
  by_cases h0 : 0 ≤ i
  · obtain ⟨j, rfl⟩ : ∃ j : Nat, i = (j : Int) := ⟨i.toNat, by omega⟩
    by_cases hj : j < c.t.length
    · by_cases y0 : 0 ≤ y
      · by_cases y1 : y ≤ 17592186044416
        · have hx := hok.times _ (List.getElem_mem hj)
          have e1 := h.row.cell j hj
          have e2 := h.row.free j
          by_cases ho : 17592186044416 < c.t[j] + y
          · rw [Ck.tick_over c j y hj ⟨y0, y1⟩ ho]
            clear h hok hi
            generalize c.t[j] = x at *
            go_enter Try.func12, Try.ntmps12
            go_wp2
            go_ret
            exact ⟨rfl, H.out, Loc.refl _ _⟩
          · rw [Ck.tick_go c j y hj ⟨y0, y1⟩ ho]
            have HM := hide hok.fit
            have HT2 := hide (hok.times.set j (c.t[j] + y) (by omega))
            have HS2 : Hid (1 ≤ (c.t.set j (c.t[j] + y)).length ∧ (c.t.set j (c.t[j] + y)).length ≤ 128) := by unfold Hid; rw [List.length_set]; exact ⟨hok.some, hok.few⟩
            have H2 := hide (h.setTime j (c.t[j] + y))
            have HL := hide (Loc.setCell (F := RF q g) w ⟨g, j, none⟩ (.int .i64 (c.t[j] + y)) (Or.inr rfl))
            clear h hok hi H HOk
            generalize c.t[j] = x at *
            generalize c.t.set j (x + y) = t2 at *
            go_enter Try.func12, Try.ntmps12
            go_wp2_with fail
            go_region
            all_goals
              clear e1 e2 hc0
              have H3 := hide H2.out.drew
              have L3 := hide HL.out.drew
              clear H2 HL
              go_wp2_with fail
              generalize (w.setCell ⟨g, j, none⟩ (.int .i64 (x + y))).drew = U at *
              have KA : Hid (Calls Try.prog 14 #[.pointer (some ⟨q, 0, none⟩)] U.drew fun e w' => e = .returned (.int .i64 (apart t2)) ∧ Below U.drew.heap.size U.drew w') := hide (rApart q g k ⟨t2, c.b, c.m⟩ U.drew H3.out.drew HS2.out.1 HS2.out.2 HT2.out)
              have f1 := H3.out.cell2
              have f2 := H3.out.free 2
              have hm2 : (if c.m < apart t2 then apart t2 else c.m) = max c.m (apart t2) := max_if _ _
              generalize hMx : max c.m (apart t2) = M at *
              have HMx := hide hMx
              clear hMx
              have hA := apart_fit HT2.out
              have hm := HM.out
              generalize hAx : apart t2 = A at *
              have HAx := hide hAx
              clear hAx
              have f3 : ∀ z, Below U.drew.heap.size U.drew z → z.cell? ⟨q, 2, none⟩ = some (.int .i64 c.m) ∧ z.frozen? ⟨q, 2, none⟩ = false := fun z hz => ⟨(RAt.below H3.out.drew hz).cell2, (RAt.below H3.out.drew hz).free 2⟩
              have F3 := hide f3
              clear f3
              generalize hmx : c.m = m at *
              have HMm := hide hmx
              clear hmx
              go_region_with (go_at_call 14; refine KA.out.mono ?_; rintro e w1 ⟨rfl, hb⟩; obtain ⟨f3, f4⟩ := F3.out w1 hb; have HB := hide hb; clear hb)
              all_goals
                clear hm2 f3 f4 f1 f2
                go_wp2
                go_ret
                refine ⟨rfl, ?_, ?_⟩
                · show RAt _ q g k ⟨t2, c.b, max c.m (apart t2)⟩
                  rw [HMm.out, HAx.out, HMx.out]
                  exact (RAt.below H3.out.drew HB.out).setMost M
                · exact L3.out.drew.trans ((Loc.of_below _ HB.out).trans (Loc.setCell _ ⟨q, 2, none⟩ _ (Or.inl rfl)))
        · rw [Ck.tick_arg c j y ⟨h0, by omega⟩ (fun hh => y1 hh.2)]
          clear h hok hi
          go_enter Try.func12, Try.ntmps12
          go_wp2
          go_ret
          exact ⟨rfl, H.out, Loc.refl _ _⟩
      · rw [Ck.tick_arg c j y ⟨h0, by omega⟩ (fun hh => y0 hh.1)]
        clear h hok hi
        go_enter Try.func12, Try.ntmps12
        go_wp2
        go_ret
        exact ⟨rfl, H.out, Loc.refl _ _⟩
    · rw [Ck.tick_none c j y (fun hh => hj (by omega))]
      clear h hok hi
      go_enter Try.func12, Try.ntmps12
      go_wp2
      go_ret
      exact ⟨rfl, H.out, Loc.refl _ _⟩
  · rw [Ck.tick_none c i y (fun hh => h0 hh.1)]
    clear h hok hi
    go_enter Try.func12, Try.ntmps12
    go_wp2
    go_ret
    exact ⟨rfl, H.out, Loc.refl _ _⟩
end Go.Proofs.Ytkphngljgfoniaa
