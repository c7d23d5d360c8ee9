/- Package wal's laySure. -/
import Derived.Test.YtelkccfjeinlcaaGLayB
import Derived.Test.YtelkccfjeinlcaaGLayC
namespace Go.Proofs.Ytelkccfjeinlcaa
open Go Go.RowKit Frm Go.Shelf
theorem wl_none (o o' : Nat) : ∀ (l : List (ByteArray × ByteArray)) (i : Nat), wl o l i = [] → wl o' l i = []
  | [], _, _ => rfl
  | x :: l, i, h => by
    have e : ∀ m, wl m (x :: l) i = if x.1 = x.2 then wl m l (i + 1) else (m + i, x.2) :: wl m l (i + 1) := fun _ => rfl
    rw [e] at h ⊢
    split at h
    · rename_i hx; rw [if_pos hx]; exact wl_none o o' l (i + 1) h
    · cases h
theorem made_of (o N : Nat) (a b : Nat → ByteArray) (st : St) : ((puts o (prs N a b) 0 st).1 ≠ 0 → made o (prs N a b) st = puts o (prs N a b) 0 st) ∧ ((puts o (prs N a b) 0 st).1 = 0 → df a b N = [] → made o (prs N a b) st = (0, (puts o (prs N a b) 0 st).2)) ∧ ((puts o (prs N a b) 0 st).1 = 0 → df a b N ≠ [] → made o (prs N a b) st = (puts o (prs N a b) 0 st).2.sync) := by
  unfold made df
  refine ⟨fun h => by rw [if_pos h], fun h k => by rw [if_neg (by rw [h]; simp), if_pos (wl_none 0 o _ _ k)], fun h k => by rw [if_neg (by rw [h]; simp), if_neg (fun e => k (wl_none o 0 _ _ e))]⟩
theorem puts_ok (o : Nat) : ∀ (l : List (ByteArray × ByteArray)) (i : Nat) (st : St), st.Ok → (puts o l i st).2.Ok ∧ (puts o l i st).2.loose.length ≤ st.loose.length + l.length
  | [], _, st, h => ⟨h, by simp [puts]⟩
  | x :: l, i, st, h => by
    have e2 : puts o (x :: l) i st = if x.1 = x.2 then puts o l (i + 1) st else if (st.write ((o + i : Nat) : Int) x.2).1 = 0 then puts o l (i + 1) (st.write ((o + i : Nat) : Int) x.2).2 else st.write ((o + i : Nat) : Int) x.2 := rfl
    rw [e2, List.length_cons]
    have hw := write_loose st ((o + i : Nat) : Int) x.2
    split
    · have := puts_ok o l (i + 1) st h
      exact ⟨this.1, by omega⟩
    · split
      · have := puts_ok o l (i + 1) (st.write ((o + i : Nat) : Int) x.2).2 (h.write _ _)
        exact ⟨this.1, by omega⟩
      · exact ⟨h.write _ _, by omega⟩
theorem lay_len (o N : Nat) (a b : Nat → ByteArray) (st : St) (h : st.Ok) : (puts o (prs N a b) 0 st).2.Ok ∧ (puts o (prs N a b) 0 st).2.loose.length ≤ st.loose.length + N := by
  have := puts_ok o (prs N a b) 0 st h
  rw [prs_length] at this
  exact this
set_option maxRecDepth 10000 in
set_option maxHeartbeats 2000000 in
theorem sure_71_72 (q o N pw0 pn0 pn1 : Nat) (a b : Nat → ByteArray) (st : St) (F K0 : Nat → Prop) (w : World) (hD : DAt w q st F) (hok : st.Ok) (hlo : st.loose.length + N ≤ 10000) (hN : N ≤ 4096) (ho : o ≤ 4096) (hK0 : ∀ k, K0 k → k < w.heap.size ∧ ¬ F k)
    (hnow : ∀ u i, Kpt K0 w u → i < N → Calls Try.prog 72 #[.int .i64 (i : Int), .pointer (some ⟨pn0, 0, none⟩), .pointer (some ⟨pn1, 0, none⟩)] u fun e u' => e = .returned (.string (b i)) ∧ Below u.heap.size u u')
    (hwas : ∀ u i, Kpt K0 w u → i < N → Calls Try.prog 71 #[.int .i64 (i : Int), .pointer (some ⟨pw0, 0, none⟩)] u fun e u' => e = .returned (.string (a i)) ∧ Below u.heap.size u u') :
    Calls Try.prog 73 #[.agg #[.pointer (some ⟨q, 0, none⟩), .int .i64 (o : Int), .int .i64 (N : Int)], .func (.func 71) #[] #[.pointer (some ⟨pw0, 0, none⟩)], .func (.func 72) #[] #[.pointer (some ⟨pn0, 0, none⟩), .pointer (some ⟨pn1, 0, none⟩)]] w fun e w' => e = .returned (.int .i64 (((made o (prs N a b) st).1 : Nat) : Int)) ∧ ∃ F', DAt w' q (made o (prs N a b) st).2 F' ∧ Loc F F' w w' := by
  obtain ⟨W, hW⟩ : ∃ W, w.alloc (.cells #[.pointer (some ⟨q, 0, none⟩), .int .i64 (o : Int), .int .i64 (N : Int)] 87) = W := ⟨_, rfl⟩
  have hbW : Below w.heap.size w W := by rw [← hW]; exact (Below.refl _ _).alloc (Nat.le_refl _) _
  have hszW : W.heap.size = w.heap.size + 1 := by rw [← hW]; simp
  have harea : W.heap[w.heap.size]? = some (.cells #[.pointer (some ⟨q, 0, none⟩), .int .i64 (o : Int), .int .i64 (N : Int)] 87 (0, 0)) := by rw [← hW]; exact World.alloc_heap_new w _
  have hc0 : W.cell? ⟨w.heap.size, 0, none⟩ = some (.pointer (some ⟨q, 0, none⟩)) := by simp [World.cell?, harea]
  have hc1 : W.cell? ⟨w.heap.size, 1, none⟩ = some (.int .i64 (o : Int)) := by simp [World.cell?, harea]
  have hc2 : W.cell? ⟨w.heap.size, 2, none⟩ = some (.int .i64 (N : Int)) := by simp [World.cell?, harea]
  have hF := con.lt hD
  have hkp : Kpt K0 w W := fun k hk => hbW.block k (hK0 k hk).1
  have KL := hide (lay_71_72 q o N pw0 pn0 pn1 a b st F K0 W (con.below hD hbW) hok hlo hN ho (fun k hk => ⟨by have := (hK0 k hk).1; omega, (hK0 k hk).2⟩) (fun u i hu hi => hnow u i (hkp.trans hu) hi) (fun u i hu hi => hwas u i (hkp.trans hu) hi))
  have HM := hide (made_of o N a b st)
  have HL0 := hide (Loc.of_below F hbW)
  have HOK := hide hok
  have HNA : Hid (∀ F' u, Loc F F' W u → u.heap[w.heap.size]? = some (.cells #[.pointer (some ⟨q, 0, none⟩), .int .i64 (o : Int), .int .i64 (N : Int)] 87 (0, 0))) := fun F' u hl => (hl.block _ (by omega) (fun hf => by have := hF _ hf; omega)).trans harea
  have HLL := hide (lay_len o N a b st hok)
  have HN := hide hlo
  clear hok hnow hwas hbW harea hkp
  by_cases h0 : (puts o (prs N a b) 0 st).1 = 0
  · by_cases h1 : df a b N = []
    · have hdec : decide ((puts o (prs N a b) 0 st).1 = 0 ∧ df a b N ≠ []) = false := decide_eq_false (fun h => h.2 h1)
      have HA := hide (HM.out.2.1 h0 h1)
      clear hlo
      unfold LaidOut at KL
      rw [hdec, h0] at KL
      generalize made o (prs N a b) st = M at *
      generalize (puts o (prs N a b) 0 st).2 = S at *
      clear h0 h1 hdec
      go_enter Try.func73, Try.ntmps73
      go_wp2_with fail
      refine KL.out.mono ?_
      rintro e w1 ⟨rfl, F', hd, hloc⟩
      have HD := hide hd
      have HLoc := hide hloc
      clear hd hloc
      go_wp2
      go_ret
      exact ⟨by rw [HA.out]; rfl, F', by rw [HA.out]; exact HD.out, HL0.out.trans HLoc.out⟩
    · have hdec : decide ((puts o (prs N a b) 0 st).1 = 0 ∧ df a b N ≠ []) = true := decide_eq_true ⟨h0, h1⟩
      have HA := hide (HM.out.2.2 h0 h1)
      have HS := hide HLL.out
      clear hlo
      unfold LaidOut at KL
      rw [hdec, h0] at KL
      generalize made o (prs N a b) st = M at *
      generalize (puts o (prs N a b) 0 st).2 = S at *
      clear h0 h1 hdec
      go_enter Try.func73, Try.ntmps73
      go_wp2_with fail
      refine KL.out.mono ?_
      rintro e w1 ⟨rfl, F', hd, hloc⟩
      have HD := hide hd
      have HLoc := hide hloc
      have hq : w1.cell? ⟨w.heap.size, 0, none⟩ = some (.pointer (some ⟨q, 0, none⟩)) := by simp [World.cell?, HNA.out F' w1 hloc]
      have KS := hide (con.sync q S F' w1 hd HS.out.1 (by have := HS.out.2; have := HN.out; omega))
      clear hd hloc
      go_wp2_with fail
      refine KS.out.mono ?_
      rintro e w2 ⟨rfl, F2, hd2, hloc2⟩
      have HD2 := hide hd2
      have HLoc2 := hide hloc2
      clear hd2 hloc2
      go_wp2
      go_ret
      exact ⟨by rw [HA.out]; rfl, F2, by rw [HA.out]; exact HD2.out, (HL0.out.trans HLoc.out).trans HLoc2.out⟩
  · have hdec : decide ((puts o (prs N a b) 0 st).1 = 0 ∧ df a b N ≠ []) = false := decide_eq_false (fun h => h0 h.1)
    have HA := hide (HM.out.1 h0)
    have hez : ¬ ((((puts o (prs N a b) 0 st).1 : Nat) : Int) = 0) := by omega
    clear hlo
    unfold LaidOut at KL
    rw [hdec] at KL
    generalize made o (prs N a b) st = M at *
    generalize (puts o (prs N a b) 0 st) = S at *
    clear h0 hdec
    go_enter Try.func73, Try.ntmps73
    go_wp2_with fail
    refine KL.out.mono ?_
    rintro e w1 ⟨rfl, F', hd, hloc⟩
    have HD := hide hd
    have HLoc := hide hloc
    clear hd hloc
    go_wp2
    go_ret
    exact ⟨by rw [HA.out]; rfl, F', by rw [HA.out]; exact HD.out, HL0.out.trans HLoc.out⟩
set_option maxRecDepth 10000 in
set_option maxHeartbeats 2000000 in
theorem sure_72_66 (q o N pw0 pw1 pn0 : Nat) (a b : Nat → ByteArray) (st : St) (F K0 : Nat → Prop) (w : World) (hD : DAt w q st F) (hok : st.Ok) (hlo : st.loose.length + N ≤ 10000) (hN : N ≤ 4096) (ho : o ≤ 4096) (hK0 : ∀ k, K0 k → k < w.heap.size ∧ ¬ F k)
    (hnow : ∀ u i, Kpt K0 w u → i < N → Calls Try.prog 66 #[.int .i64 (i : Int), .pointer (some ⟨pn0, 0, none⟩)] u fun e u' => e = .returned (.string (b i)) ∧ Below u.heap.size u u')
    (hwas : ∀ u i, Kpt K0 w u → i < N → Calls Try.prog 72 #[.int .i64 (i : Int), .pointer (some ⟨pw0, 0, none⟩), .pointer (some ⟨pw1, 0, none⟩)] u fun e u' => e = .returned (.string (a i)) ∧ Below u.heap.size u u') :
    Calls Try.prog 73 #[.agg #[.pointer (some ⟨q, 0, none⟩), .int .i64 (o : Int), .int .i64 (N : Int)], .func (.func 72) #[] #[.pointer (some ⟨pw0, 0, none⟩), .pointer (some ⟨pw1, 0, none⟩)], .func (.func 66) #[] #[.pointer (some ⟨pn0, 0, none⟩)]] w fun e w' => e = .returned (.int .i64 (((made o (prs N a b) st).1 : Nat) : Int)) ∧ ∃ F', DAt w' q (made o (prs N a b) st).2 F' ∧ Loc F F' w w' := by
  obtain ⟨W, hW⟩ : ∃ W, w.alloc (.cells #[.pointer (some ⟨q, 0, none⟩), .int .i64 (o : Int), .int .i64 (N : Int)] 87) = W := ⟨_, rfl⟩
  have hbW : Below w.heap.size w W := by rw [← hW]; exact (Below.refl _ _).alloc (Nat.le_refl _) _
  have hszW : W.heap.size = w.heap.size + 1 := by rw [← hW]; simp
  have harea : W.heap[w.heap.size]? = some (.cells #[.pointer (some ⟨q, 0, none⟩), .int .i64 (o : Int), .int .i64 (N : Int)] 87 (0, 0)) := by rw [← hW]; exact World.alloc_heap_new w _
  have hc0 : W.cell? ⟨w.heap.size, 0, none⟩ = some (.pointer (some ⟨q, 0, none⟩)) := by simp [World.cell?, harea]
  have hc1 : W.cell? ⟨w.heap.size, 1, none⟩ = some (.int .i64 (o : Int)) := by simp [World.cell?, harea]
  have hc2 : W.cell? ⟨w.heap.size, 2, none⟩ = some (.int .i64 (N : Int)) := by simp [World.cell?, harea]
  have hF := con.lt hD
  have hkp : Kpt K0 w W := fun k hk => hbW.block k (hK0 k hk).1
  have KL := hide (lay_72_66 q o N pw0 pw1 pn0 a b st F K0 W (con.below hD hbW) hok hlo hN ho (fun k hk => ⟨by have := (hK0 k hk).1; omega, (hK0 k hk).2⟩) (fun u i hu hi => hnow u i (hkp.trans hu) hi) (fun u i hu hi => hwas u i (hkp.trans hu) hi))
  have HM := hide (made_of o N a b st)
  have HL0 := hide (Loc.of_below F hbW)
  have HOK := hide hok
  have HNA : Hid (∀ F' u, Loc F F' W u → u.heap[w.heap.size]? = some (.cells #[.pointer (some ⟨q, 0, none⟩), .int .i64 (o : Int), .int .i64 (N : Int)] 87 (0, 0))) := fun F' u hl => (hl.block _ (by omega) (fun hf => by have := hF _ hf; omega)).trans harea
  have HLL := hide (lay_len o N a b st hok)
  have HN := hide hlo
  clear hok hnow hwas hbW harea hkp
  by_cases h0 : (puts o (prs N a b) 0 st).1 = 0
  · by_cases h1 : df a b N = []
    · have hdec : decide ((puts o (prs N a b) 0 st).1 = 0 ∧ df a b N ≠ []) = false := decide_eq_false (fun h => h.2 h1)
      have HA := hide (HM.out.2.1 h0 h1)
      clear hlo
      unfold LaidOut at KL
      rw [hdec, h0] at KL
      generalize made o (prs N a b) st = M at *
      generalize (puts o (prs N a b) 0 st).2 = S at *
      clear h0 h1 hdec
      go_enter Try.func73, Try.ntmps73
      go_wp2_with fail
      refine KL.out.mono ?_
      rintro e w1 ⟨rfl, F', hd, hloc⟩
      have HD := hide hd
      have HLoc := hide hloc
      clear hd hloc
      go_wp2
      go_ret
      exact ⟨by rw [HA.out]; rfl, F', by rw [HA.out]; exact HD.out, HL0.out.trans HLoc.out⟩
    · have hdec : decide ((puts o (prs N a b) 0 st).1 = 0 ∧ df a b N ≠ []) = true := decide_eq_true ⟨h0, h1⟩
      have HA := hide (HM.out.2.2 h0 h1)
      have HS := hide HLL.out
      clear hlo
      unfold LaidOut at KL
      rw [hdec, h0] at KL
      generalize made o (prs N a b) st = M at *
      generalize (puts o (prs N a b) 0 st).2 = S at *
      clear h0 h1 hdec
      go_enter Try.func73, Try.ntmps73
      go_wp2_with fail
      refine KL.out.mono ?_
      rintro e w1 ⟨rfl, F', hd, hloc⟩
      have HD := hide hd
      have HLoc := hide hloc
      have hq : w1.cell? ⟨w.heap.size, 0, none⟩ = some (.pointer (some ⟨q, 0, none⟩)) := by simp [World.cell?, HNA.out F' w1 hloc]
      have KS := hide (con.sync q S F' w1 hd HS.out.1 (by have := HS.out.2; have := HN.out; omega))
      clear hd hloc
      go_wp2_with fail
      refine KS.out.mono ?_
      rintro e w2 ⟨rfl, F2, hd2, hloc2⟩
      have HD2 := hide hd2
      have HLoc2 := hide hloc2
      clear hd2 hloc2
      go_wp2
      go_ret
      exact ⟨by rw [HA.out]; rfl, F2, by rw [HA.out]; exact HD2.out, (HL0.out.trans HLoc.out).trans HLoc2.out⟩
  · have hdec : decide ((puts o (prs N a b) 0 st).1 = 0 ∧ df a b N ≠ []) = false := decide_eq_false (fun h => h0 h.1)
    have HA := hide (HM.out.1 h0)
    have hez : ¬ ((((puts o (prs N a b) 0 st).1 : Nat) : Int) = 0) := by omega
    clear hlo
    unfold LaidOut at KL
    rw [hdec] at KL
    generalize made o (prs N a b) st = M at *
    generalize (puts o (prs N a b) 0 st) = S at *
    clear h0 hdec
    go_enter Try.func73, Try.ntmps73
    go_wp2_with fail
    refine KL.out.mono ?_
    rintro e w1 ⟨rfl, F', hd, hloc⟩
    have HD := hide hd
    have HLoc := hide hloc
    clear hd hloc
    go_wp2
    go_ret
    exact ⟨by rw [HA.out]; rfl, F', by rw [HA.out]; exact HD.out, HL0.out.trans HLoc.out⟩
end Go.Proofs.Ytelkccfjeinlcaa
