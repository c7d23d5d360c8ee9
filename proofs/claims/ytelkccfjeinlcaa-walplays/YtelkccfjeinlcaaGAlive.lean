/- What package wal's calls do, whole. The law's own 'alive': some answers that the document fixes. -/
import Derived.Test.YtelkccfjeinlcaaGOpens
import Derived.Test.YtelkccfjeinlcaaGAppend
import Derived.Test.YtelkccfjeinlcaaGTail
namespace Go.Proofs.Ytelkccfjeinlcaa
open Go Go.RowKit Frm Go.Shelf
/-- What Open answers, and leaves. -/
def Opened (q o N : Nat) (r : (Nat × ByteArray × List ByteArray) × St) (F : Nat → Prop) (w : World) (e : Ending) (w' : World) : Prop :=
  (r.1.1 = 0 ∧ HasLog q o N r.1.2.1 r.1.2.2 r.2 F w e w') ∨ (r.1.1 ≠ 0 ∧ NoLog q r.2 F w ((r.1.1 : Nat) : Int) e w')
theorem pOpen (q o N : Nat) (st : St) (F : Nat → Prop) (w : World) (hD : DAt w q st F) (hok : st.Ok) (hl : st.loose.length + N + N ≤ 10000) (hN : o + N ≤ st.sure.length) (h1 : 1 ≤ N) (hN2 : N ≤ 200) :
    Calls Try.prog 19 #[.pointer (some ⟨q, 0, none⟩), .int .i64 (o : Int), .int .i64 (N : Int)] w (Opened q o N (walOpen st o N) F w) := by
  rw [walOpen_eq]
  by_cases h0 : st.left = 0
  · rw [if_pos h0]
    exact (open_down q o N st F w hD hok hl hN h1 hN2 h0).mono (fun e w' h => Or.inr ⟨by simp, h⟩)
  · rw [if_neg h0]
    by_cases hx : (scn (streamOf (reads st o N))).2.2 = 41 ∨ (scn (streamOf (reads st o N))).2.2 = 4
    · rw [if_pos hx]
      rcases hx with hx | hx
      · exact (open_bad41 q o N st F w hD hok hl hN h1 hN2 h0 hx).mono (fun e w' h => Or.inr ⟨by simp, h⟩)
      · exact (open_bad4 q o N st F w hD hok hl hN h1 hN2 h0 hx).mono (fun e w' h => Or.inr ⟨by simp, h⟩)
    · rw [if_neg hx]
      by_cases hm : (mended o N (fun i => st.at (o + i)) (kept (reads st o N)) st).1 = 0
      · rw [if_neg (by rw [hm]; simp)]
        exact (open_ok q o N st F w hD hok hl hN h1 hN2 h0 (fun e => hx (Or.inl e)) (fun e => hx (Or.inr e)) hm).mono (fun e w' h => Or.inl ⟨rfl, h⟩)
      · rw [if_pos hm]
        exact (open_err q o N st F w hD hok hl hN h1 hN2 h0 (fun e => hx (Or.inl e)) (fun e => hx (Or.inr e)) hm).mono (fun e w' h => Or.inr ⟨hm, h⟩)
/-- Whether Append breaks the log. -/
def brk (st : St) (o n : Nat) (s t : ByteArray) : Bool := decide (t.size ≤ 65536 ∧ s.size + (t.size + 8) ≤ n * 255 ∧ (puts o (prs n (blkOf s) (blkOf (s ++ frm t))) 0 st).1 ≠ 0)
theorem pAppend (p q o n : Nat) (s t : ByteArray) (st : St) (F : Nat → Prop) (w : World) (hL : LAt w p q o n s false) (hD : DAt w q st F) (hp : ¬ F p) (hok : st.Ok) (hlo : st.loose.length + n ≤ 10000) (ho : o + n ≤ 4096) (hn : n ≤ 200) (hs : s.size ≤ n * 255) (ht : t.size ≤ maxLen) :
    Calls Try.prog 20 #[.pointer (some ⟨p, 0, none⟩), .string t] w (Apd p q o n (walAppend st o n s t).2.1 (brk st o n s t) (walAppend st o n s t).2.2 F w (((walAppend st o n s t).1 : Nat) : Int)) := by
  unfold walAppend brk
  by_cases h1 : 65536 < t.size
  · rw [if_pos h1, decide_eq_false (fun h => by omega)]
    exact append_long' p q o n s t st F w hL hD hp h1 ht
  · rw [if_neg h1]
    by_cases h2 : n * 255 < s.size + (t.size + 8)
    · rw [if_pos h2, decide_eq_false (fun h => by omega)]
      exact append_full' p q o n s t st F w hL hD hp (by omega) hn hs h2
    · rw [if_neg h2]
      by_cases h3 : (puts o (prs n (blkOf s) (blkOf (s ++ frm t))) 0 st).1 = 0
      · rw [if_neg (by rw [h3]; simp), decide_eq_false (fun h => h.2.2 h3)]
        exact append_ok p q o n s t st F w hL hD hp hok hlo ho (by omega) hn hs (by omega) h3
      · rw [if_pos h3, decide_eq_true ⟨by omega, by omega, h3⟩]
        exact append_err p q o n s t st F w hL hD hp hok hlo ho (by omega) hn hs (by omega) h3
end Go.Proofs.Ytelkccfjeinlcaa
namespace Go.Proofs.Ytelkccfjeinlcaa
open Go Go.RowKit Frm Go.Shelf
theorem append_bare (n : Nat) (S t : ByteArray) (h1 : t.size ≤ 65536) (h2 : S.size + (t.size + 8) ≤ n * 255) : walAppend (bare n S) 0 n S t = (0, S ++ frm t, ⟨(bare n S).sure, wl 0 (prs n (blkOf S) (blkOf (S ++ frm t))) 0, -1⟩) ∧ brk (bare n S) 0 n S t = false := by
  have hp := puts_bare n S (S ++ frm t)
  unfold walAppend brk
  rw [hp, if_neg (by omega), if_neg (by omega), if_neg (by simp)]
  exact ⟨rfl, decide_eq_false (fun h => h.2.2 rfl)⟩
/-- A disk of the caller's own, as it stands. -/
structure Al (w : World) (q : Nat) (st : St) (F : Nat → Prop) (u : World) : Prop where
  disk : DAt u q st F
  below : Below w.heap.size w u
  new : ∀ k, F k → w.heap.size ≤ k
theorem Al.step {w : World} {q : Nat} {st st' : St} {F F' : Nat → Prop} {u v : World} (h : Al w q st F u) (hd : DAt v q st' F') (hl : Loc F F' u v) : Al w q st' F' v :=
  ⟨hd, h.below.trans (hl.below h.new h.below.size), hl.beyond h.new h.below.size⟩
theorem Al.stepP {w : World} {q p : Nat} {st st' : St} {F F' : Nat → Prop} {u v : World} (h : Al w q st F u) (hp : w.heap.size ≤ p) (hd : DAt v q st' F') (hl : Loc (fun k => F k ∨ k = p) (fun k => F' k ∨ k = p) u v) : Al w q st' F' v := by
  have hn : ∀ k, F k ∨ k = p → w.heap.size ≤ k := fun k hk => by
    rcases hk with h1 | rfl
    · exact h.new k h1
    · exact hp
  exact ⟨hd, h.below.trans (hl.below hn h.below.size), fun k hk => hl.beyond hn h.below.size k (Or.inl hk)⟩
theorem Al.keep {w : World} {q : Nat} {st : St} {F : Nat → Prop} {u v : World} (h : Al w q st F u) (hb : Below u.heap.size u v) : Al w q st F v := ⟨con.below h.disk hb, bnext h.below hb, h.new⟩
theorem Al.drewN {w : World} {q : Nat} {st : St} {F : Nat → Prop} {u : World} (h : Al w q st F u) (n : Nat) : Al w q st F (u.drewN n) := ⟨con.same h.disk (fun _ _ => rfl), below_drewN h.below n, h.new⟩
theorem short_one {t : ByteArray} (h : t.size ≤ 65536) : ∀ x ∈ [t], x.size ≤ 65536 := fun x hx => by rw [List.mem_singleton.1 hx]; exact h
theorem cat_one (t : ByteArray) : cat [t] = frm t := by
  show frm t ++ ⟨#[]⟩ = _
  exact Frm.append_nil _
theorem cat_two (t u : ByteArray) : cat [t] ++ frm u = cat [t, u] := by
  rw [cat_one]
  show _ = frm t ++ (frm u ++ ⟨#[]⟩)
  rw [Frm.append_nil]
def abT : ByteArray := ⟨#[97, 98]⟩
def cT : ByteArray := ⟨#[99]⟩
theorem cat_nil_app (t : ByteArray) : cat [] ++ frm t = cat [t] := by rw [cat_one]; exact Frm.nil_append _
/-- What the walk meets, call by call. -/
theorem al_open (w : World) (q : Nat) (F : Nat → Prop) (l : List ByteArray) (u : World) (hs : ∀ t ∈ l, t.size ≤ 65536) (hf : (cat l).size ≤ 4 * 255) (h : Al w q (bare 4 (cat l)) F u) :
    Calls Try.prog 19 #[.pointer (some ⟨q, 0, none⟩), .int .i64 0, .int .i64 4] u fun e v => ∃ p a c F', e = .returned (.tuple #[.pointer (some ⟨p, 0, none⟩), .slice a l.length c, .int .i64 0]) ∧ LAt v p q 0 4 (cat l) false ∧ (OwnL v w.heap.size (.slice a l.length c) l ∧ ∀ k, F' k → ¬ OB (.slice a l.length c) k) ∧ Al w q (bare 4 (cat l)) F' v ∧ ¬ F' p ∧ w.heap.size ≤ p := by
  have key := pOpen q 0 4 (bare 4 (cat l)) F u h.disk (bare_ok 4 _ (by decide) (by decide)) (by show 0 + 4 + 4 ≤ 10000; decide) (by rw [bare_len]; exact Nat.le_refl _) (by decide) (by decide)
  rw [open_bare 4 l hs hf] at key
  refine Calls.mono key ?_
  rintro e v (⟨_, p, vR, F', rfl, hL, hp, hR, hd, hl, hnp, hdj, _⟩ | ⟨h1, _⟩)
  · obtain ⟨a, c, rfl, -⟩ := hR.strs
    exact ⟨p, a, c, F', rfl, hL, ⟨own_up hR (fun k hk => Nat.le_trans h.below.size (own_ge hR hk)), hdj⟩, h.step hd hl, hnp, Nat.le_trans h.below.size hp⟩
  · exact absurd rfl h1
theorem al_append (w : World) (p q : Nat) (F : Nat → Prop) (S t : ByteArray) (u : World) (hL : LAt u p q 0 4 S false) (h : Al w q (bare 4 S) F u) (hp : ¬ F p) (hpw : w.heap.size ≤ p) (h1 : t.size ≤ 65536) (h2 : S.size + (t.size + 8) ≤ 4 * 255) :
    Calls Try.prog 20 #[.pointer (some ⟨p, 0, none⟩), .string t] u fun e v => ∃ F', e = .returned (.int .i64 0) ∧ LAt v p q 0 4 (S ++ frm t) false ∧ Al w q ⟨(bare 4 S).sure, wl 0 (prs 4 (blkOf S) (blkOf (S ++ frm t))) 0, -1⟩ F' v ∧ ¬ F' p := by
  have key := pAppend p q 0 4 S t (bare 4 S) F u hL h.disk hp (bare_ok 4 _ (by decide) (by decide)) (by show 0 + 4 ≤ 10000; decide) (by decide) (by decide) (by omega) (by unfold maxLen; omega)
  obtain ⟨e1, e2⟩ := append_bare 4 S t h1 h2
  rw [e1, e2] at key
  refine Calls.mono key ?_
  rintro e v ⟨rfl, hL', F', hd, hl, hnp⟩
  exact ⟨F', rfl, hL', h.stepP hpw hd hl, hnp⟩
theorem wl_few (S T : ByteArray) : (wl 0 (prs 4 (blkOf S) (blkOf T)) 0).length ≤ 4 := df_length (blkOf S) (blkOf T) 4
theorem pend_ok (S T : ByteArray) : (⟨(bare 4 S).sure, wl 0 (prs 4 (blkOf S) (blkOf T)) 0, -1⟩ : St).Ok := by
  have h := lay_len 0 4 (blkOf S) (blkOf T) (bare 4 S) (bare_ok 4 _ (by decide) (by decide))
  rw [puts_bare] at h
  exact h.1
theorem al_sync (w : World) (q : Nat) (F : Nat → Prop) (S T : ByteArray) (u : World) (h : Al w q ⟨(bare 4 S).sure, wl 0 (prs 4 (blkOf S) (blkOf T)) 0, -1⟩ F u) :
    Calls Try.prog 22 #[.pointer (some ⟨q, 0, none⟩)] u fun e v => ∃ F', e = .returned (.int .i64 0) ∧ Al w q (bare 4 T) F' v ∧ Loc F F' u v := by
  have key := con.sync q _ F u h.disk (pend_ok S T) (by have := wl_few S T; show (wl _ _ _).length ≤ 10000; omega)
  rw [sync_bare] at key
  refine Calls.mono key ?_
  rintro e v ⟨rfl, F', hd, hl⟩
  exact ⟨F', rfl, h.step hd hl, hl⟩
theorem al_crash (w : World) (q : Nat) (F : Nat → Prop) (S T : ByteArray) (u : World) (h : Al w q ⟨(bare 4 S).sure, wl 0 (prs 4 (blkOf S) (blkOf T)) 0, -1⟩ F u) :
    Calls Try.prog 23 #[.pointer (some ⟨q, 0, none⟩), .slice none 0 0] u fun e v => ∃ F', e = .returned (.int .i64 0) ∧ Al w q (bare 4 S) F' v := by
  have key := con.crash q _ F none 0 [] u h.disk (pend_ok S T) (by have := wl_few S T; show (wl _ _ _).length ≤ 10000; omega) (Or.inl rfl) (fun h => absurd rfl h) (by decide) (by simp)
  rw [crash_bare] at key
  refine Calls.mono key ?_
  rintro e v ⟨rfl, F', hd, hl⟩
  exact ⟨F', rfl, h.step hd hl⟩
theorem LAt.loc {u v : World} {p q o n : Nat} {s : ByteArray} {b : Bool} {F F' : Nat → Prop} (h : LAt u p q o n s b) (hl : Loc F F' u v) (hp : ¬ F p) : LAt v p q o n s b ∧ ¬ F' p :=
  ⟨h.same (hl.block p h.lt hp), fun hf => by
    rcases hl.own p hf with h1 | h1
    · exact hp h1
    · have := h.lt; omega⟩
set_option maxRecDepth 10000 in
set_option maxHeartbeats 4000000 in
theorem alive_any (w : World) : Calls Try.prog 8 #[] w fun e w' => e = .returned (.bool true) ∧ Below w.heap.size w w' := by
  have K1 := hide (con.new 4 w (by decide) (by decide))
  have hA : abT.size = 2 := rfl
  have hC : cT.size = 1 := rfl
  have hs1 : (cat [abT]).size = 10 := by rw [cat_one, frm_size, hA]
  have hs0 : (cat []).size = 0 := rfl
  have K3 : Hid (∀ q F u, Al w q (bare 4 (cat [])) F u → Calls Try.prog 19 #[.pointer (some ⟨q, 0, none⟩), .int .i64 0, .int .i64 4] u fun e v => ∃ p a c F', e = .returned (.tuple #[.pointer (some ⟨p, 0, none⟩), .slice a 0 c, .int .i64 0]) ∧ LAt v p q 0 4 (cat []) false ∧ (OwnL v w.heap.size (.slice a 0 c) [] ∧ ∀ k, F' k → ¬ OB (.slice a 0 c) k) ∧ Al w q (bare 4 (cat [])) F' v ∧ ¬ F' p ∧ w.heap.size ≤ p) := fun q F u h => al_open w q F [] u (by simp) (by rw [hs0]; decide) h
  have K4 : Hid (∀ p q F u, LAt u p q 0 4 (cat []) false → Al w q (bare 4 (cat [])) F u → ¬ F p → w.heap.size ≤ p → Calls Try.prog 20 #[.pointer (some ⟨p, 0, none⟩), .string ⟨#[97, 98]⟩] u fun e v => ∃ F', e = .returned (.int .i64 0) ∧ LAt v p q 0 4 (cat [abT]) false ∧ Al w q ⟨(bare 4 (cat [])).sure, wl 0 (prs 4 (blkOf (cat [])) (blkOf (cat [abT]))) 0, -1⟩ F' v ∧ ¬ F' p) := fun p q F u hL h hp hw => by
    have := al_append w p q F (cat []) abT u hL h hp hw (by rw [hA]; decide) (by rw [hs0, hA]; decide)
    rw [cat_nil_app] at this
    exact this
  have K5 : Hid (∀ q F u, Al w q ⟨(bare 4 (cat [])).sure, wl 0 (prs 4 (blkOf (cat [])) (blkOf (cat [abT]))) 0, -1⟩ F u → Calls Try.prog 22 #[.pointer (some ⟨q, 0, none⟩)] u fun e v => ∃ F', e = .returned (.int .i64 0) ∧ Al w q (bare 4 (cat [abT])) F' v ∧ Loc F F' u v) := fun q F u h => al_sync w q F _ _ u h
  have K6 : Hid (∀ p q F u, LAt u p q 0 4 (cat [abT]) false → Al w q (bare 4 (cat [abT])) F u → ¬ F p → w.heap.size ≤ p → Calls Try.prog 20 #[.pointer (some ⟨p, 0, none⟩), .string ⟨#[99]⟩] u fun e v => ∃ F', e = .returned (.int .i64 0) ∧ LAt v p q 0 4 (cat [abT] ++ frm cT) false ∧ Al w q ⟨(bare 4 (cat [abT])).sure, wl 0 (prs 4 (blkOf (cat [abT])) (blkOf (cat [abT] ++ frm cT))) 0, -1⟩ F' v ∧ ¬ F' p) := fun p q F u hL h hp hw => al_append w p q F (cat [abT]) cT u hL h hp hw (by rw [hC]; decide) (by rw [hs1, hC]; decide)
  have K7 : Hid (∀ q F u, Al w q ⟨(bare 4 (cat [abT])).sure, wl 0 (prs 4 (blkOf (cat [abT])) (blkOf (cat [abT] ++ frm cT))) 0, -1⟩ F u → Calls Try.prog 23 #[.pointer (some ⟨q, 0, none⟩), .slice none 0 0] u fun e v => ∃ F', e = .returned (.int .i64 0) ∧ Al w q (bare 4 (cat [abT])) F' v) := fun q F u h => al_crash w q F _ _ u h
  have K8 : Hid (∀ q F u, Al w q (bare 4 (cat [abT])) F u → Calls Try.prog 19 #[.pointer (some ⟨q, 0, none⟩), .int .i64 0, .int .i64 4] u fun e v => ∃ p a c F', e = .returned (.tuple #[.pointer (some ⟨p, 0, none⟩), .slice a 1 c, .int .i64 0]) ∧ LAt v p q 0 4 (cat [abT]) false ∧ (OwnL v w.heap.size (.slice a 1 c) [abT] ∧ ∀ k, F' k → ¬ OB (.slice a 1 c) k) ∧ Al w q (bare 4 (cat [abT])) F' v ∧ ¬ F' p ∧ w.heap.size ≤ p) := fun q F u h => al_open w q F [abT] u (short_one (by rw [hA]; decide)) (by rw [hs1]; decide) h
  have K9 : Hid (∀ q F u, Al w q (bare 4 (cat [abT])) F u → Calls Try.prog 19 #[.pointer (some ⟨q, 0, none⟩), .int .i64 3, .int .i64 2] u (NoLog q (bare 4 (cat [abT])) F u 2)) := fun q F u h => open_not q 3 2 _ F u h.disk (bare_ok 4 _ (by decide) (by decide)) (by decide) (fun hm => by
    unfold St.may at hm
    rw [bare_len] at hm
    omega)
  have KL : Hid (∀ p q u, LAt u p q 0 4 (cat [abT]) false → Calls Try.prog 16 #[.pointer (some ⟨p, 0, none⟩)] u fun e w' => e = .returned (.int .i64 10) ∧ w' = u) := fun p q u h => by
    have := len_any p q 0 4 (cat [abT]) false u h
    rw [hs1] at this
    exact this
  have KR : Hid (∀ p q u, LAt u p q 0 4 (cat [abT]) false → Calls Try.prog 17 #[.pointer (some ⟨p, 0, none⟩)] u fun e w' => e = .returned (.int .i64 1010) ∧ ∃ n, w' = u.drewN n) := fun p q u h => by
    have := room_any p q 0 4 (cat [abT]) false u h (by decide) (by rw [hs1]; decide)
    rw [hs1] at this
    exact this
  have K2 : Hid (∀ q F u, DAt u q (St.new 4) F → Calls Try.prog 18 #[.pointer (some ⟨q, 0, none⟩), .int .i64 0, .int .i64 4] u fun e w' => e = .returned (.int .i64 0) ∧ ∃ F', DAt w' q (bare 4 (cat [])) F' ∧ Loc F F' u w') := fun q F u h => by
    have := clear_any q 0 4 (St.new 4) F u h (St.Ok.new (by decide) (by decide)) (by decide) (by decide) (by decide)
    rw [clear_four] at this
    exact this
  clear hA hC hs1 hs0
  go_enter Try.func8, Try.ntmps8
  go_wp2_with fail
  refine K1.out.mono ?_
  rintro e w1 ⟨q, F1, rfl, hd1, hF1, hb1⟩
  have K2a := hide (K2.out q F1 w1 hd1)
  have A1 := hide (Al.mk (st := St.new 4) hd1 hb1 hF1)
  clear hd1 hF1 hb1
  go_wp2_with fail
  refine K2a.out.mono ?_
  rintro e w2 ⟨rfl, F2, hd2, hl2⟩
  have A2 := hide (A1.out.step hd2 hl2)
  clear hd2 hl2
  have K3a := hide (K3.out q F2 w2 A2.out)
  go_wp2_with fail
  refine K3a.out.mono ?_
  rintro e w3 ⟨p, a3, c3, F3, rfl, hL3, -, hA3, hp3, hpw⟩
  have K4a := hide (K4.out p q F3 w3 hL3 hA3 hp3 hpw)
  clear hL3 hA3 hp3
  have HPW := hide hpw
  clear hpw
  go_wp2_with fail
  refine K4a.out.mono ?_
  rintro e w4 ⟨F4, rfl, hL4, hA4, hp4⟩
  have KLa := hide (KL.out p q w4 hL4)
  have KRa := hide (KR.out p q w4 hL4)
  have HL4 := hide hL4
  have HA4 := hide hA4
  have HP4 := hide hp4
  clear hL4 hA4 hp4
  go_wp2_with fail
  refine KLa.out.mono ?_
  rintro e w5 ⟨rfl, hw5⟩
  obtain rfl := hw5.symm
  go_wp2_with fail
  refine KRa.out.mono ?_
  rintro e w6 ⟨rfl, n6, rfl⟩
  have K5a := hide (K5.out q F4 _ (HA4.out.drewN n6))
  have HL5 : Hid (LAt (w4.drewN n6) p q 0 4 (cat [abT]) false) := HL4.out
  generalize w4.drewN n6 = w5 at *
  go_wp2_with fail
  refine K5a.out.mono ?_
  rintro e w6 ⟨F6, rfl, hA6, hl6⟩
  obtain ⟨hL6, hp6⟩ := HL5.out.loc hl6 HP4.out
  have K6a := hide (K6.out p q F6 w6 hL6 hA6 hp6 HPW.out)
  clear hA6 hl6 hL6 hp6
  go_wp2_with fail
  refine K6a.out.mono ?_
  rintro e w7 ⟨F7, rfl, -, hA7, -⟩
  have K7a := hide (K7.out q F7 w7 hA7)
  clear hA7
  go_wp2_with fail
  refine K7a.out.mono ?_
  rintro e w8 ⟨F8, rfl, hA8⟩
  have K8a := hide (K8.out q F8 w8 hA8)
  clear hA8
  go_wp2_with fail
  refine K8a.out.mono ?_
  rintro e w9 ⟨p9, a9, c9, F9, rfl, -, ⟨hs9, hdj9⟩, hA9, -, -⟩
  have K9a := hide (K9.out q F9 w9 hA9)
  obtain ⟨b9, off9, rfl, hc9, hn9⟩ : ∃ b off, a9 = some ⟨b, off, none⟩ ∧ w9.cell? ⟨b, off, none⟩ = some (.string ⟨#[97, 98]⟩) ∧ ¬ F9 b := by
    obtain ⟨a', c', e, hst⟩ := hs9.strs
    cases e
    rcases hs9.2 with ⟨e, _⟩ | ⟨g, cap, cur, e, _⟩
    · cases e
    · cases e
      rcases hst with h | ⟨b, off, e, hc⟩
      · cases h
      · cases e
        exact ⟨g, 0, rfl, hc 0 (by decide), fun hf => hdj9 g hf rfl⟩
  have HN9 := hide hn9
  clear hn9 hdj9
  have HA9 := hide hA9
  have HC9 := hide hc9
  clear hA9 hc9 hs9
  go_wp2_with fail
  refine K9a.out.mono ?_
  rintro e w10 ⟨rfl, F10, hd10, hl10⟩
  have HB := hide (HA9.out.step hd10 hl10).below
  have hc10 : w10.cell? ⟨b9, off9, none⟩ = some (.string ⟨#[97, 98]⟩) := (World.cell?_of_block (a := ⟨b9, off9, none⟩) (hl10.block b9 (World.block_lt_of_cell? w9 _ HC9.out) HN9.out)).trans HC9.out
  clear hd10 hl10
  go_wp2_with fail
  go_ret
  exact ⟨rfl, HB.out⟩
end Go.Proofs.Ytelkccfjeinlcaa
