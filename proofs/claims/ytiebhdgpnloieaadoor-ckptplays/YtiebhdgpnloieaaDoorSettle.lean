/- The program's disk: settle. -/
import Derived.Test.YtiebhdgpnloieaaDoorWrite
namespace Go.Proofs.YtiebhdgpnloieaaDoor
set_option maxRecDepth 20000
set_option maxRecDepth 20000
open Go Go.RowKit
/-- Cells are copied into the midst of a row. -/
theorem own_copy {w : World} {e : TypeId} {size n g c : Nat} {xs cs : List Value} {cur : Array Value} {i : Nat} (h : w.ownsRow 0 e size (.slice (some ⟨g, 0, none⟩) n c) n xs) (hg : w.heap[g]? = some (.cells cur e (0, 0))) (hi : i + cs.length ≤ n * size) :
    (w.setRow g (cur.toList.take i ++ cs ++ cur.toList.drop (i + cs.length)).toArray).ownsRow 0 e size (.slice (some ⟨g, 0, none⟩) n c) n (xs.take i ++ cs ++ xs.drop (i + cs.length)) := by
  have hl := h.1
  rcases h.2 with ⟨h1, _⟩ | ⟨g', cap, cur', h1, h2, h3, h4, h5, h6, h7⟩
  · cases h1
  · cases h1
    rw [hg] at h3
    cases h3
    have hle : n * size ≤ cur.size := by rw [h6]; exact Nat.mul_le_mul_right _ h4
    refine ⟨?_, Or.inr ⟨g, c, _, rfl, Nat.zero_le _, setRow_heap w g _ _ _ _ hg, h4, h5, ?_, ?_⟩⟩
    · simp only [List.length_append, List.length_take, List.length_drop]
      omega
    · simp only [List.size_toArray, List.length_append, List.length_take, List.length_drop, Array.length_toList]
      omega
    · have ht : (cur.toList.take i).length = i := by rw [List.length_take, Array.length_toList]; omega
      show (cur.toList.take i ++ cs ++ cur.toList.drop (i + cs.length)).take (n * size) = _
      rw [← h7, List.take_append, List.take_append, ht, List.length_append, ht, List.take_take, List.take_take, List.drop_take, List.take_of_length_le (l := cs) (by omega)]
      congr 2
      rw [show min (n * size) i = i from by omega, show min i (n * size) = i from by omega]
/-- The block of what is sure. -/
theorem own_block {w : World} {e : TypeId} {size n g c : Nat} {xs : List Value} (h : w.ownsRow 0 e size (.slice (some ⟨g, 0, none⟩) n c) n xs) : ∃ cur, w.heap[g]? = some (.cells cur e (0, 0)) ∧ n * size ≤ cur.size := by
  rcases h.2 with ⟨h1, _⟩ | ⟨g', cap, cur', h1, h2, h3, h4, h5, h6, h7⟩
  · cases h1
  · cases h1
    exact ⟨cur', h3, by rw [h6]; exact Nat.mul_le_mul_right _ h4⟩
theorem Loc.setRow {F : Nat → Prop} (u : World) (g : Nat) (cs : Array Value) (hg : F g) : Loc F F u (u.setRow g cs) :=
  ⟨rfl, rfl, rfl, by rw [setRow_size]; exact Nat.le_refl _, fun k _ hF => setRow_other u g k cs (fun e => hF (e ▸ hg)), fun _ h => Or.inl h⟩
/-- As many bytes of a write as are copied into its block. -/
theorem PAt.settled {u : World} {p gS n c : Nat} {vL : Value} {x : Int} {st : St} {cur : Array Value} (h : PAt u p (.slice (some ⟨gS, 0, none⟩) n c) vL x st) (hn : n = st.sure.length) (hs : ∀ s ∈ st.sure, s.size = 256) (hg : u.heap[gS]? = some (.cells cur 72 (0, 0))) (b : Nat) (d : ByteArray) (y : Int) (q : Nat) (hb : b < st.sure.length) (hd : d.size = 256) (hq : max (min y 256) 0 = (q : Int)) :
    PAt (u.setRow gS (cur.toList.take (b * 256) ++ (tc d).take q ++ cur.toList.drop (b * 256 + ((tc d).take q).length)).toArray) p (.slice (some ⟨gS, 0, none⟩) n c) vL x ⟨st.sure.set b (torn (st.sure.getD b noText) d y), st.loose, st.left⟩ := by
  subst hn
  have n0 : gS ≠ p := fun e => h.ne0 (by rw [e]; rfl)
  have n2 : vL.ownBlock ≠ some gS := h.ne2 rfl
  have hql : ((tc d).take q).length = q := by rw [List.length_take, tc_length]; omega
  refine ⟨(setRow_other u gS p _ (fun e => n0 e.symm)).trans h.head, ?_, own_same h.loose (fun k hk => setRow_other u gS k _ (fun e => n2 (e ▸ hk))), h.left, h.fit⟩
  show World.ownsRow _ 0 72 256 _ (st.sure.set b (torn (st.sure.getD b noText) d y)).length (sc (st.sure.set b (torn (st.sure.getD b noText) d y)))
  rw [List.length_set, ← sc_copy st.sure hs b hb d y q hq]
  have := own_copy (cs := (tc d).take q) (i := b * 256) h.sure hg (by rw [hql]; omega)
  rw [hql] at this ⊢
  exact this
theorem copy61 (u : World) (gS b g : Nat) (cur : Array Value) (m : Nat) (d : ByteArray) (q : Nat) (hd : d.size = 256) (hq : q ≤ 256) (hg : u.heap[gS]? = some (.cells cur 72 (0, 0))) (hc : b * 256 + 256 ≤ cur.size) (hw : u.heap[g]? = some (.cells (wc (m, d)).toArray 78 (0, 0))) (ty : TypeId) :
    (Builtin.copy_ #[56, 56] ty #[.slice (some ⟨gS, b * 256, none⟩) 256 256, .slice (some ⟨g, 1, none⟩) q 256]).run Tryd.prog u = .ok (goInt q) (u.setRow gS (cur.toList.take (b * 256) ++ (tc d).take q ++ cur.toList.drop (b * 256 + ((tc d).take q).length)).toArray) := by
  have hql : ((tc d).take q).length = q := by rw [List.length_take, tc_length]; omega
  have h := run_copy_row (P := Tryd.prog) u 56 56 ty 5 gS (b * 256) 256 256 ⟨g, 1, none⟩ q 256 cur 72 ((tc d).take q) Tryd.underlying56 size5 hg (by rw [hql]; exact (Nat.min_eq_left hq).symm) (fun j v hv => by
    rw [Addr.add_mid, cell_of_row _ _ _ _ _ _ hw, List.getElem?_toArray, Nat.add_comm]
    show (wc (m, d))[j + 1]? = some v
    have hj : j < ((tc d).take q).length := (List.getElem?_eq_some_iff.1 hv).1
    rw [List.getElem?_take_of_lt (by omega)] at hv
    exact hv) (by rw [hql]; omega) (fun v hv => tc_one d v (List.mem_of_mem_take hv))
  rw [h]
  congr 2
  rw [hql]
set_option maxRecDepth 10000 in
set_option maxHeartbeats 1000000 in
theorem pSettle (p : Nat) (vS vL : Value) (x : Int) (st : St) (b : Nat) (d : ByteArray) (y : Int) (w : World) (h : PAt w p vS vL x st) (hs : ∀ s ∈ st.sure, s.size = 256) (hf : st.sure.length ≤ 4096) (hb : b < st.sure.length) (hd : d.size = 256) (hy : -9223372036854775808 ≤ y ∧ y ≤ 9223372036854775807) :
    Calls Tryd.prog 42 #[.pointer (some ⟨p, 0, none⟩), .agg (wc (b, d)).toArray, .int .i64 y] w fun e w' => (∃ v, e = .returned v) ∧ PAt w' p vS vL x ⟨st.sure.set b (torn (st.sure.getD b noText) d y), st.loose, st.left⟩ ∧ Loc (DF p vS vL) (DF p vS vL) w w' := by
  obtain ⟨q, hq⟩ : ∃ q : Nat, max (min y 256) 0 = (q : Int) := ⟨(max (min y 256) 0).toNat, by omega⟩
  obtain ⟨aS, cS, rfl, _⟩ := slice_of h.sure
  obtain ⟨gS, rfl, hxS⟩ := row_cell h.sure (by omega)
  clear hxS
  have hU : Below w.heap.size w (w.alloc (.cells (wc (b, d)).toArray 78)) := (Below.refl _ _).alloc (Nat.le_refl _) _
  have hP := h.below hU
  obtain ⟨cur, hg, hcs⟩ := own_block hP.sure
  have hG : (w.alloc (.cells (wc (b, d)).toArray 78)).heap[w.heap.size]? = some (.cells (wc (b, d)).toArray 78 (0, 0)) := heap_alloc_last w _
  have hcp := copy61 (w.alloc (.cells (wc (b, d)).toArray 78)).drew gS b w.heap.size cur b d q hd (by omega) hg (by omega) hG
  have HS := hide (hP.drew.settled rfl hs hg b d y q hb hd hq)
  have L0 : Hid (Loc (DF p (.slice (some ⟨gS, 0, none⟩) st.sure.length cS) vL) (DF p (.slice (some ⟨gS, 0, none⟩) st.sure.length cS) vL) w (w.alloc (.cells (wc (b, d)).toArray 78)).drew) := (Loc.of_below _ hU).drew
  have hc0 := hP.cell0
  have hcb : (w.alloc (.cells (wc (b, d)).toArray 78)).cell? ⟨w.heap.size, 0, none⟩ = some (.int .i64 (b : Int)) := by rw [cell_of_row _ _ _ _ _ _ hG]; rfl
  clear h hP hU hG hg
  generalize hW : (wc (b, d)).toArray = W at *
  clear hW
  have HNew := hide (Loc.setRow (F := DF p (.slice (some ⟨gS, 0, none⟩) st.sure.length cS) vL) (w.alloc (.cells W 78)).drew gS (cur.toList.take (b * 256) ++ (tc d).take q ++ cur.toList.drop (b * 256 + ((tc d).take q).length)).toArray (Or.inr (Or.inl rfl)))
  generalize (cur.toList.take (b * 256) ++ (tc d).take q ++ cur.toList.drop (b * 256 + ((tc d).take q).length)).toArray = N at *
  have hbz : (b : Int) < (st.sure.length : Int) := by omega
  go_enter Tryd.func42, Tryd.ntmps42
  go_upto_region 1 with fail
  generalize w.alloc (.cells W 78) = U at *
  generalize w.heap.size = g at *
  by_cases h0 : y < 0
  · have hq0 : q = 0 := by omega
    subst hq0
    have hy2 : ¬ (0 ≤ y) := by omega
    clear hq hy
    go_wp2_with fail
    go_region
    all_goals
      go_wp2
      go_end0
      exact ⟨⟨_, rfl⟩, HS.out, L0.out.trans HNew.out⟩
  · by_cases h1 : y ≤ 256
    · have hqy : y = (q : Int) := by omega
      subst hqy
      have hq2 : (q : Int) ≤ 256 := by omega
      have hq1 : (0 : Int) ≤ (q : Int) := by omega
      clear hq h0
      go_wp2_with fail
      go_region
      all_goals
        go_wp2
        go_end0
        exact ⟨⟨_, rfl⟩, HS.out, L0.out.trans HNew.out⟩
    · have hq0 : q = 256 := by omega
      subst hq0
      have hy2 : (256 : Int) < y := by omega
      have hy3 : (0 : Int) ≤ y := by omega
      clear hq hy
      go_wp2_with fail
      go_region
      all_goals
        go_wp2
        go_end0
        exact ⟨⟨_, rfl⟩, HS.out, L0.out.trans HNew.out⟩
end Go.Proofs.YtiebhdgpnloieaaDoor
