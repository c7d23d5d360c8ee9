/- What narrow does: a walk over the contracts of word and wideOf. -/
import Derived.Test.YtklekpbfjcpjlaaBeside
import Derived.Test.YtklekpbfjcpjlaaEq
namespace Go.Proofs.Ytklekpbfjcpjlaa
open Go.RowKit
attribute [local go_sem ↓] Go.wp_at_zero Go.wp_at_succ

theorem idx0 (v0 v1 v2 v3 v4 v5 : Value) (w : World) : Sem.run Try.prog (Instr.index 46 (.agg #[v0, v1, v2, v3, v4, v5]) (.int .i64 0)) w = .ok (.agg #[v0, v1]) w := rfl
theorem idx1 (v0 v1 v2 v3 v4 v5 : Value) (w : World) : Sem.run Try.prog (Instr.index 46 (.agg #[v0, v1, v2, v3, v4, v5]) (.int .i64 1)) w = .ok (.agg #[v2, v3]) w := rfl
theorem idx2 (v0 v1 v2 v3 v4 v5 : Value) (w : World) : Sem.run Try.prog (Instr.index 46 (.agg #[v0, v1, v2, v3, v4, v5]) (.int .i64 2)) w = .ok (.agg #[v4, v5]) w := rfl
attribute [local go_sem] idx0 idx1 idx2 eq44

/-- What narrow answers. -/
def nv (x0 x1 x2 : Int) : Value := if (fit x0 && fit x1 && fit x2) = true then .tuple #[V3 x0 x1 x2, .int .i64 0] else .tuple #[V3 0 0 0, .int .i64 9]
theorem nv_ok {x0 x1 x2 : Int} (h0 : fit x0 = true) (h1 : fit x1 = true) (h2 : fit x2 = true) : nv x0 x1 x2 = .tuple #[V3 x0 x1 x2, .int .i64 0] := by
  unfold nv; simp [h0, h1, h2]
theorem nv_no {x0 x1 x2 : Int} (h : fit x0 = false ∨ fit x1 = false ∨ fit x2 = false) : nv x0 x1 x2 = .tuple #[V3 0 0 0, .int .i64 9] := by
  unfold nv; rcases h with h | h | h <;> simp [h]
/-- The first k numbers are such as int64 has. -/
def Fits (x0 x1 x2 : Int) (k : Nat) : Prop := (0 < k → fit x0 = true) ∧ (1 < k → fit x1 = true) ∧ (2 < k → fit x2 = true)
theorem Kp.grown {n k : Nat} {W u u' : World} (h : Kp n k W u) (hb : Below u.heap.size u u') : Kp n k W u' := h.call hb
theorem bnext {W u u' : World} (h : Below W.heap.size W u) (hb : Below u.heap.size u u') : Below W.heap.size W u' := h.trans (hb.mono h.size)
theorem bcellA {W w1 : World} (hb : Below W.heap.size W w1) {b o : Nat} {v : Value} (hlt : b < W.heap.size) (h : W.cell? ⟨b, o, none⟩ = some v) : w1.cell? ⟨b, o, none⟩ = some v := by
  rw [(bcell hb).1 b o hlt]; exact h
theorem narrowS (x0 : Int) (wr u : World) (hb : Below (wr.alloc (.cells #[.int .u64 (lo x0), .int .u64 (hi x0)] 44)).heap.size (wr.alloc (.cells #[.int .u64 (lo x0), .int .u64 (hi x0)] 44)) u) :
    u.cell? ⟨wr.heap.size, 0, none⟩ = some (.int .u64 (lo x0)) ∧ u.cell? ⟨wr.heap.size, 1, none⟩ = some (.int .u64 (hi x0)) ∧ Below (wr.alloc (.cells #[.int .u64 (lo x0), .int .u64 (hi x0)] 44)).heap.size (wr.alloc (.cells #[.int .u64 (lo x0), .int .u64 (hi x0)] 44)) u :=
  ⟨bcellA hb (by simp) (by simp [go_sem]), bcellA hb (by simp) (by simp [go_sem]), hb⟩
theorem narrowT (x0 x1 x2 : Int) (w u : World) (hk : Kp (w.heap.size + 1) 3 ((w.alloc (.cells #[.int .u64 (lo x0), .int .u64 (hi x0), .int .u64 (lo x1), .int .u64 (hi x1), .int .u64 (lo x2), .int .u64 (hi x2)] 46)).alloc (.cells #[.int .i64 0, .int .i64 0, .int .i64 0] 23)) u) :
    u.cell? ⟨w.heap.size, 0, none⟩ = some (.int .u64 (lo x0)) ∧
    u.cell? ⟨w.heap.size, 1, none⟩ = some (.int .u64 (hi x0)) ∧
    u.cell? ⟨w.heap.size, 2, none⟩ = some (.int .u64 (lo x1)) ∧
    u.cell? ⟨w.heap.size, 3, none⟩ = some (.int .u64 (hi x1)) ∧
    u.cell? ⟨w.heap.size, 4, none⟩ = some (.int .u64 (lo x2)) ∧
    u.cell? ⟨w.heap.size, 5, none⟩ = some (.int .u64 (hi x2)) ∧
    u.cell? ⟨w.heap.size + 1, 0, none⟩ = some (tv u (w.heap.size + 1) 0) ∧
    u.cell? ⟨w.heap.size + 1, 1, none⟩ = some (tv u (w.heap.size + 1) 1) ∧
    u.cell? ⟨w.heap.size + 1, 2, none⟩ = some (tv u (w.heap.size + 1) 2) ∧
    u.frozen? ⟨w.heap.size + 1, 0, none⟩ = false ∧
    u.frozen? ⟨w.heap.size + 1, 1, none⟩ = false ∧
    u.frozen? ⟨w.heap.size + 1, 2, none⟩ = false ∧
    Kp (w.heap.size + 1) 3 ((w.alloc (.cells #[.int .u64 (lo x0), .int .u64 (hi x0), .int .u64 (lo x1), .int .u64 (hi x1), .int .u64 (lo x2), .int .u64 (hi x2)] 46)).alloc (.cells #[.int .i64 0, .int .i64 0, .int .i64 0] 23)) u :=
  ⟨(hk.1 _ _ (by omega)).trans (by simp [go_sem]),
    (hk.1 _ _ (by omega)).trans (by simp [go_sem]),
    (hk.1 _ _ (by omega)).trans (by simp [go_sem]),
    (hk.1 _ _ (by omega)).trans (by simp [go_sem]),
    (hk.1 _ _ (by omega)).trans (by simp [go_sem]),
    (hk.1 _ _ (by omega)).trans (by simp [go_sem]),
    hk.2.2.1 _ (by decide),
    hk.2.2.1 _ (by decide),
    hk.2.2.1 _ (by decide),
    (hk.2.1 _ _ (by omega)).trans (by simp [go_sem]),
    (hk.2.1 _ _ (by omega)).trans (by simp [go_sem]),
    (hk.2.1 _ _ (by omega)).trans (by simp [go_sem]),
    hk⟩
theorem narrowE (x0 x1 x2 : Int) (w u : World) (hk : Kp (w.heap.size + 1) 3 ((w.alloc (.cells #[.int .u64 (lo x0), .int .u64 (hi x0), .int .u64 (lo x1), .int .u64 (hi x1), .int .u64 (lo x2), .int .u64 (hi x2)] 46)).alloc (.cells #[.int .i64 0, .int .i64 0, .int .i64 0] 23)) u) :
    u.cell? ⟨w.heap.size + 1, 0, none⟩ = some (tv u (w.heap.size + 1) 0) ∧
    u.cell? ⟨w.heap.size + 1, 1, none⟩ = some (tv u (w.heap.size + 1) 1) ∧
    u.cell? ⟨w.heap.size + 1, 2, none⟩ = some (tv u (w.heap.size + 1) 2) ∧
    u.frozen? ⟨w.heap.size + 1, 0, none⟩ = false ∧
    u.frozen? ⟨w.heap.size + 1, 1, none⟩ = false ∧
    u.frozen? ⟨w.heap.size + 1, 2, none⟩ = false :=
  ⟨hk.2.2.1 _ (by decide),
    hk.2.2.1 _ (by decide),
    hk.2.2.1 _ (by decide),
    (hk.2.1 _ _ (by omega)).trans (by simp [go_sem]),
    (hk.2.1 _ _ (by omega)).trans (by simp [go_sem]),
    (hk.2.1 _ _ (by omega)).trans (by simp [go_sem])⟩

set_option maxHeartbeats 400000 in
theorem narrow_any (x0 x1 x2 : Int) (h0 : W128 x0) (h1 : W128 x1) (h2 : W128 x2) (w : World) :
    Calls Try.prog 28 #[V6 x0 x1 x2] w fun e w' => e = .returned (nv x0 x1 x2) ∧ Below w.heap.size w w' := by
  have H0 := hide h0; have H1 := hide h1; have H2 := hide h2
  clear h0 h1 h2
  unfold V6
  go_enter Try.func28, Try.ntmps28
  go_wp2_with fail
  go_loopw [7] (fun i wr => ∃ k : Nat, k ≤ 3 ∧ i = .int .i64 k ∧ Fits x0 x1 x2 k ∧ Kp (w.heap.size + 1) 3 ((w.alloc (.cells #[.int .u64 (lo x0), .int .u64 (hi x0), .int .u64 (lo x1), .int .u64 (hi x1), .int .u64 (lo x2), .int .u64 (hi x2)] 46)).alloc (.cells #[.int .i64 0, .int .i64 0, .int .i64 0] 23)) wr) (fun i _ => 3 - (intOf i).toNat)
  case atStart => exact ⟨0, by omega, rfl, ⟨fun h => absurd h (by decide), fun h => absurd h (by decide), fun h => absurd h (by decide)⟩, Kp.begin0 (by simp) (by simp)⟩
  case round =>
    obtain ⟨k, hk, rfl, hF, hK⟩ := hrel
    have hcase : k = 0 ∨ k = 1 ∨ k = 2 ∨ k = 3 := by omega
    clear hk
    rcases hcase with rfl | rfl | rfl | rfl
    · cases hf : fit x0
      · have hl := lo_sgn x0
        have hh : (hi (sgn x0) == hi x0) = false := by simpa using hi_sgn H0.out hf
        have HF := hide hf
        clear hf
        go_wp2_with fail
        go_region_held3 (fun w' => w'.cell? ⟨wr.heap.size, 0, none⟩ = some (.int .u64 (lo x0)) ∧
          w'.cell? ⟨wr.heap.size, 1, none⟩ = some (.int .u64 (hi x0)) ∧
          Below (wr.alloc (.cells #[.int .u64 (lo x0), .int .u64 (hi x0)] 44)).heap.size (wr.alloc (.cells #[.int .u64 (lo x0), .int .u64 (hi x0)] 44)) w')
          (((with_reducible refine narrowS x0 wr _ ?_); first | ((with_reducible refine bnext ?_ hb); go_split_ands; with_reducible assumption) | (with_reducible exact (Below.refl _ _).drew)))
          (first | (go_at_call 41; refine (word_any x0 _).mono ?_; rintro e w' ⟨rfl, hb⟩) | (go_at_call 39; refine (wideOf_any _ ?_ _).mono ?_; (first | exact sgn_bd _ | exact fit_I64 HF.out); rintro e w' ⟨rfl, hb⟩; unfold V2))
        go_split_ands
        have hK2 : Kp (w.heap.size + 1) 3 ((w.alloc (.cells #[.int .u64 (lo x0), .int .u64 (hi x0), .int .u64 (lo x1), .int .u64 (hi x1), .int .u64 (lo x2), .int .u64 (hi x2)] 46)).alloc (.cells #[.int .i64 0, .int .i64 0, .int .i64 0] 23)) w' := hK.call (below1 (o1 := .cells #[.int .u64 (lo x0), .int .u64 (hi x0)] 44) (by with_reducible assumption))
        clear hK
        have hE := narrowE x0 x1 x2 w w' hK2
        have HK := hide hK2
        clear hK2
        go_split_ands
        go_wp2
        exact bodyPost_ret (v := nv x0 x1 x2) (by rw [nv_no (Or.inl HF.out)]; simp [results, Try.results28, go_sem, V3, *]) rfl ⟨rfl, (((Kp.out HK.out (by omega) (grow2 w _ _)).setCell (by simp) _).setCell (by simp) _).setCell (by simp) _⟩
      · have hs := sgn_eq hf
        have HF := hide hf
        clear hf
        go_wp2_with fail
        go_region_held3 (fun w' => w'.cell? ⟨wr.heap.size, 0, none⟩ = some (.int .u64 (lo x0)) ∧
          w'.cell? ⟨wr.heap.size, 1, none⟩ = some (.int .u64 (hi x0)) ∧
          Below (wr.alloc (.cells #[.int .u64 (lo x0), .int .u64 (hi x0)] 44)).heap.size (wr.alloc (.cells #[.int .u64 (lo x0), .int .u64 (hi x0)] 44)) w')
          (((with_reducible refine narrowS x0 wr _ ?_); first | ((with_reducible refine bnext ?_ hb); go_split_ands; with_reducible assumption) | (with_reducible exact (Below.refl _ _).drew)))
          (first | (go_at_call 41; refine (word_any x0 _).mono ?_; rintro e w' ⟨rfl, hb⟩) | (go_at_call 39; refine (wideOf_any _ ?_ _).mono ?_; (first | exact sgn_bd _ | exact fit_I64 HF.out); rintro e w' ⟨rfl, hb⟩; unfold V2))
        go_split_ands
        have hK2 : Kp (w.heap.size + 1) 3 ((w.alloc (.cells #[.int .u64 (lo x0), .int .u64 (hi x0), .int .u64 (lo x1), .int .u64 (hi x1), .int .u64 (lo x2), .int .u64 (hi x2)] 46)).alloc (.cells #[.int .i64 0, .int .i64 0, .int .i64 0] 23)) w' := hK.call (below1 (o1 := .cells #[.int .u64 (lo x0), .int .u64 (hi x0)] 44) (by with_reducible assumption))
        clear hK
        go_wp2
        go_roundw
        case rel => exact ⟨1, by decide, rfl, ⟨fun _ => HF.out, fun h => absurd h (by decide), fun h => absurd h (by decide)⟩, hK2⟩
        case measure => simp [intOf]
    · cases hf : fit x1
      · have hl := lo_sgn x1
        have hh : (hi (sgn x1) == hi x1) = false := by simpa using hi_sgn H1.out hf
        have HF := hide hf
        clear hf
        go_wp2_with fail
        go_region_held3 (fun w' => w'.cell? ⟨wr.heap.size, 0, none⟩ = some (.int .u64 (lo x1)) ∧
          w'.cell? ⟨wr.heap.size, 1, none⟩ = some (.int .u64 (hi x1)) ∧
          Below (wr.alloc (.cells #[.int .u64 (lo x1), .int .u64 (hi x1)] 44)).heap.size (wr.alloc (.cells #[.int .u64 (lo x1), .int .u64 (hi x1)] 44)) w')
          (((with_reducible refine narrowS x1 wr _ ?_); first | ((with_reducible refine bnext ?_ hb); go_split_ands; with_reducible assumption) | (with_reducible exact (Below.refl _ _).drew)))
          (first | (go_at_call 41; refine (word_any x1 _).mono ?_; rintro e w' ⟨rfl, hb⟩) | (go_at_call 39; refine (wideOf_any _ ?_ _).mono ?_; (first | exact sgn_bd _ | exact fit_I64 HF.out); rintro e w' ⟨rfl, hb⟩; unfold V2))
        go_split_ands
        have hK2 : Kp (w.heap.size + 1) 3 ((w.alloc (.cells #[.int .u64 (lo x0), .int .u64 (hi x0), .int .u64 (lo x1), .int .u64 (hi x1), .int .u64 (lo x2), .int .u64 (hi x2)] 46)).alloc (.cells #[.int .i64 0, .int .i64 0, .int .i64 0] 23)) w' := hK.call (below1 (o1 := .cells #[.int .u64 (lo x1), .int .u64 (hi x1)] 44) (by with_reducible assumption))
        clear hK
        have hE := narrowE x0 x1 x2 w w' hK2
        have HK := hide hK2
        clear hK2
        go_split_ands
        go_wp2
        exact bodyPost_ret (v := nv x0 x1 x2) (by rw [nv_no (Or.inr (Or.inl HF.out))]; simp [results, Try.results28, go_sem, V3, *]) rfl ⟨rfl, (((Kp.out HK.out (by omega) (grow2 w _ _)).setCell (by simp) _).setCell (by simp) _).setCell (by simp) _⟩
      · have hs := sgn_eq hf
        have HF := hide hf
        clear hf
        go_wp2_with fail
        go_region_held3 (fun w' => w'.cell? ⟨wr.heap.size, 0, none⟩ = some (.int .u64 (lo x1)) ∧
          w'.cell? ⟨wr.heap.size, 1, none⟩ = some (.int .u64 (hi x1)) ∧
          Below (wr.alloc (.cells #[.int .u64 (lo x1), .int .u64 (hi x1)] 44)).heap.size (wr.alloc (.cells #[.int .u64 (lo x1), .int .u64 (hi x1)] 44)) w')
          (((with_reducible refine narrowS x1 wr _ ?_); first | ((with_reducible refine bnext ?_ hb); go_split_ands; with_reducible assumption) | (with_reducible exact (Below.refl _ _).drew)))
          (first | (go_at_call 41; refine (word_any x1 _).mono ?_; rintro e w' ⟨rfl, hb⟩) | (go_at_call 39; refine (wideOf_any _ ?_ _).mono ?_; (first | exact sgn_bd _ | exact fit_I64 HF.out); rintro e w' ⟨rfl, hb⟩; unfold V2))
        go_split_ands
        have hK2 : Kp (w.heap.size + 1) 3 ((w.alloc (.cells #[.int .u64 (lo x0), .int .u64 (hi x0), .int .u64 (lo x1), .int .u64 (hi x1), .int .u64 (lo x2), .int .u64 (hi x2)] 46)).alloc (.cells #[.int .i64 0, .int .i64 0, .int .i64 0] 23)) w' := hK.call (below1 (o1 := .cells #[.int .u64 (lo x1), .int .u64 (hi x1)] 44) (by with_reducible assumption))
        clear hK
        go_wp2
        go_roundw
        case rel => exact ⟨2, by decide, rfl, ⟨fun _ => hF.1 (by decide), fun _ => HF.out, fun h => absurd h (by decide)⟩, hK2⟩
        case measure => simp [intOf]
    · cases hf : fit x2
      · have hl := lo_sgn x2
        have hh : (hi (sgn x2) == hi x2) = false := by simpa using hi_sgn H2.out hf
        have HF := hide hf
        clear hf
        go_wp2_with fail
        go_region_held3 (fun w' => w'.cell? ⟨wr.heap.size, 0, none⟩ = some (.int .u64 (lo x2)) ∧
          w'.cell? ⟨wr.heap.size, 1, none⟩ = some (.int .u64 (hi x2)) ∧
          Below (wr.alloc (.cells #[.int .u64 (lo x2), .int .u64 (hi x2)] 44)).heap.size (wr.alloc (.cells #[.int .u64 (lo x2), .int .u64 (hi x2)] 44)) w')
          (((with_reducible refine narrowS x2 wr _ ?_); first | ((with_reducible refine bnext ?_ hb); go_split_ands; with_reducible assumption) | (with_reducible exact (Below.refl _ _).drew)))
          (first | (go_at_call 41; refine (word_any x2 _).mono ?_; rintro e w' ⟨rfl, hb⟩) | (go_at_call 39; refine (wideOf_any _ ?_ _).mono ?_; (first | exact sgn_bd _ | exact fit_I64 HF.out); rintro e w' ⟨rfl, hb⟩; unfold V2))
        go_split_ands
        have hK2 : Kp (w.heap.size + 1) 3 ((w.alloc (.cells #[.int .u64 (lo x0), .int .u64 (hi x0), .int .u64 (lo x1), .int .u64 (hi x1), .int .u64 (lo x2), .int .u64 (hi x2)] 46)).alloc (.cells #[.int .i64 0, .int .i64 0, .int .i64 0] 23)) w' := hK.call (below1 (o1 := .cells #[.int .u64 (lo x2), .int .u64 (hi x2)] 44) (by with_reducible assumption))
        clear hK
        have hE := narrowE x0 x1 x2 w w' hK2
        have HK := hide hK2
        clear hK2
        go_split_ands
        go_wp2
        exact bodyPost_ret (v := nv x0 x1 x2) (by rw [nv_no (Or.inr (Or.inr HF.out))]; simp [results, Try.results28, go_sem, V3, *]) rfl ⟨rfl, (((Kp.out HK.out (by omega) (grow2 w _ _)).setCell (by simp) _).setCell (by simp) _).setCell (by simp) _⟩
      · have hs := sgn_eq hf
        have HF := hide hf
        clear hf
        go_wp2_with fail
        go_region_held3 (fun w' => w'.cell? ⟨wr.heap.size, 0, none⟩ = some (.int .u64 (lo x2)) ∧
          w'.cell? ⟨wr.heap.size, 1, none⟩ = some (.int .u64 (hi x2)) ∧
          Below (wr.alloc (.cells #[.int .u64 (lo x2), .int .u64 (hi x2)] 44)).heap.size (wr.alloc (.cells #[.int .u64 (lo x2), .int .u64 (hi x2)] 44)) w')
          (((with_reducible refine narrowS x2 wr _ ?_); first | ((with_reducible refine bnext ?_ hb); go_split_ands; with_reducible assumption) | (with_reducible exact (Below.refl _ _).drew)))
          (first | (go_at_call 41; refine (word_any x2 _).mono ?_; rintro e w' ⟨rfl, hb⟩) | (go_at_call 39; refine (wideOf_any _ ?_ _).mono ?_; (first | exact sgn_bd _ | exact fit_I64 HF.out); rintro e w' ⟨rfl, hb⟩; unfold V2))
        go_split_ands
        have hK2 : Kp (w.heap.size + 1) 3 ((w.alloc (.cells #[.int .u64 (lo x0), .int .u64 (hi x0), .int .u64 (lo x1), .int .u64 (hi x1), .int .u64 (lo x2), .int .u64 (hi x2)] 46)).alloc (.cells #[.int .i64 0, .int .i64 0, .int .i64 0] 23)) w' := hK.call (below1 (o1 := .cells #[.int .u64 (lo x2), .int .u64 (hi x2)] 44) (by with_reducible assumption))
        clear hK
        go_wp2
        go_roundw
        case rel => exact ⟨3, by decide, rfl, ⟨fun _ => hF.1 (by decide), fun _ => hF.2.1 (by decide), fun _ => HF.out⟩, hK2⟩
        case measure => simp [intOf]
    · have hs0 := sgn_eq (hF.1 (by decide))
      have hs1 := sgn_eq (hF.2.1 (by decide))
      have hs2 := sgn_eq (hF.2.2 (by decide))
      have hn := nv_ok (hF.1 (by decide)) (hF.2.1 (by decide)) (hF.2.2 (by decide))
      have HN := hide hn
      clear hn hF
      go_wp2_with fail
      go_region_held3 (fun w' => w'.cell? ⟨w.heap.size, 0, none⟩ = some (.int .u64 (lo x0)) ∧
          w'.cell? ⟨w.heap.size, 1, none⟩ = some (.int .u64 (hi x0)) ∧
          w'.cell? ⟨w.heap.size, 2, none⟩ = some (.int .u64 (lo x1)) ∧
          w'.cell? ⟨w.heap.size, 3, none⟩ = some (.int .u64 (hi x1)) ∧
          w'.cell? ⟨w.heap.size, 4, none⟩ = some (.int .u64 (lo x2)) ∧
          w'.cell? ⟨w.heap.size, 5, none⟩ = some (.int .u64 (hi x2)) ∧
          w'.cell? ⟨w.heap.size + 1, 0, none⟩ = some (tv w' (w.heap.size + 1) 0) ∧
          w'.cell? ⟨w.heap.size + 1, 1, none⟩ = some (tv w' (w.heap.size + 1) 1) ∧
          w'.cell? ⟨w.heap.size + 1, 2, none⟩ = some (tv w' (w.heap.size + 1) 2) ∧
          w'.frozen? ⟨w.heap.size + 1, 0, none⟩ = false ∧
          w'.frozen? ⟨w.heap.size + 1, 1, none⟩ = false ∧
          w'.frozen? ⟨w.heap.size + 1, 2, none⟩ = false ∧
          Kp (w.heap.size + 1) 3 ((w.alloc (.cells #[.int .u64 (lo x0), .int .u64 (hi x0), .int .u64 (lo x1), .int .u64 (hi x1), .int .u64 (lo x2), .int .u64 (hi x2)] 46)).alloc (.cells #[.int .i64 0, .int .i64 0, .int .i64 0] 23)) w')
        (((with_reducible refine narrowT x0 x1 x2 w _ ?_); first | ((with_reducible refine Kp.set ?_ _ _); (repeat (with_reducible refine Kp.set ?_ _ _)); go_split_ands; with_reducible assumption) | ((with_reducible refine Kp.call ?_ hb); go_split_ands; with_reducible assumption) | (with_reducible exact Kp.drew hK)))
        (first | (go_at_call 41; refine (word_any _ _).mono ?_; rintro e w' ⟨rfl, hb⟩))
      go_split_ands
      go_wp2
      exact bodyPost_ret (v := nv x0 x1 x2) (by rw [HN.out]; simp [results, Try.results28, go_sem, V3, *]; exact read3 (n := w.heap.size + 1) _ _ _ (by with_reducible assumption)) rfl ⟨rfl, Kp.out (n := w.heap.size + 1) (k := 3) (by with_reducible assumption) (by omega) (grow2 w _ _)⟩
end Go.Proofs.Ytklekpbfjcpjlaa
