/- The law WalPlays: steps of both: Crash. The law WalPlays: steps of both: Append. The law WalPlays. -/
import Derived.Test.YtelkccfjeinlcaaGPl
namespace Go.Proofs.Ytelkccfjeinlcaa
open Go Go.RowKit Frm Go.Shelf
/-- A list of numbers goes behind an empty row, at a step of a region that draws. -/
theorem step_append_ints {ops : Array Oper} {o : Oper} {a : Act} {K : Act → World → Prop} {Q : Exit → Act → World → Prop} {E : Prop} (w : World) (hgd : o.guard = none) (s x : Operand)
    (ho : o.op = .call { callee := .builtin .append, args := #[s, x], argTypes := #[38, 38] })
    (base : Nat) (v : Value) (hs : a.eval s = v) (hown : w.ownsRow base 3 1 v 0 [])
    (ao : Option Addr) (c : Nat) (L : List Int) (hx : a.eval x = .slice ao L.length c) (hI : IntsAt w ao L) (hn : ao = none → c = 0) (hl : L.length ≤ 10000) (hb : base ≤ w.heap.size)
    (h : ∀ v' w', w'.ownsRow base 3 1 v' L.length (L.map (Value.int .i64)) → w.grownBy w' v.ownBlock → K (a.put o.dst v') w') : if Region.wanted o (yielded ops a.tmps) = true then Oper.wp Try.prog o a w K Q else E := by
  have hw : Region.wanted o (yielded ops a.tmps) = true := by simp [Region.wanted, hgd]
  rw [if_pos hw]
  obtain ⟨i0, hi, hz0, hz1, hz2⟩ := info_parts info3
  by_cases h0 : L = []
  · subst h0
    cases ao with
    | none =>
      have hc := hn rfl
      subst hc
      have hrun := run_append_owned_none (P := Try.prog) (w := w) base 38 o.type 3 i0 1 Try.underlying38 hi v 0 [] hown
      have hx' : a.eval x = .slice none 0 0 := hx
      unfold Oper.wp
      simp [execOp, ho, resolve, invoke, builtin, hs, hx', hrun, Result.andThen]
      exact h v w hown (World.grownBy.refl _ _)
    | some ad =>
      refine wp_append_own w s x 38 ho base 3 i0 (.int .i64 0) 1 8 Try.underlying38 hi hz0 hz1 hz2 rfl (by decide) v 0 [] hs hown ad 0 c [] hx rfl (fun j v hj => by cases hj) (fun v hv => by cases hv) (by decide) (by decide) hb ?_
      intro v' w' h1 h2 _
      exact h v' w' h1 h2
  · rcases hI with h1 | ⟨b, off, rfl, hc⟩
    · exact absurd h1 h0
    · refine wp_append_own w s x 38 ho base 3 i0 (.int .i64 0) 1 8 Try.underlying38 hi hz0 hz1 hz2 rfl (by decide) v 0 [] hs hown ⟨b, off, none⟩ L.length c (L.map (Value.int .i64)) hx (by simp) (news_ints hc) (one_ints _) (by unfold maxLen; omega) (by omega) hb ?_
      intro v' w' h1 h2 _
      rw [Nat.zero_add] at h1
      exact h v' w' h1 h2
/-- What Crash is asked on. -/
theorem mid_crash {w : World} {B pd pr : Nat} {o n : Int} {st st' : St} {c : Nat} {F G A C : Nat → Prop} {lv xv : Value} {S : Nat} {x : Stp} {u v : World} (h : Mid w B pd pr o n st st' F G A C lv xv S x u) (hf : Form 8 c st') (hc : c ≤ 9000) (hx : x.Ok) (hpl : x.picks.length ≤ 10000) {a : Option Addr} {cc : Nat} (hb : Below u.heap.size u v) (hi : IntsAt v a x.picks) (hg : ∀ b off, a = some ⟨b, off, none⟩ → u.heap.size ≤ b) :
    Calls Try.prog 23 #[.pointer (some ⟨pd, 0, none⟩), .slice a x.picks.length cc] v fun e z => e = .returned (.int .i64 0) ∧ ∃ F' A', Mid w B pd pr o n st (st'.crash x.picks) F' G A' C lv xv S x z := by
  have hv := h.keep hb
  refine (con.crash pd st' F a cc x.picks v hv.d hf.ok (by have := hf.few; omega) hi (fun _ b off e hf' => by have q1 := hg b off e; have q2 := con.lt h.d b hf'; omega) (by omega) hx.picks).mono ?_
  rintro e z ⟨rfl, F', hd, hl⟩
  obtain ⟨A', hM⟩ := hv.first hd hl
  exact ⟨rfl, F', A', hM⟩
theorem ints_block {w : World} {a : Option Addr} {l : List Int} (h : IntsAt w a l) : l ≠ [] → ∀ b off, a = some ⟨b, off, none⟩ → b < w.heap.size := fun hne b off e => by
  rcases h with h0 | ⟨b', off', h1, hc⟩
  · exact absurd h0 hne
  · rw [e] at h1
    cases h1
    exact World.block_lt_of_cell? w _ (hc 0 (List.length_pos_iff.2 hne))
theorem mid_crashR {w : World} {B pd pr : Nat} {o n : Int} {st : St} {c : Nat} {F G A C : Nat → Prop} {lv xv : Value} {S : Nat} {x : Stp} {u : World} (h : Mid w B pd pr o n st (st.crash x.picks) F G A C lv xv S x u) (hf : Form 8 c st) (hc : c ≤ 9000) (hpl : x.picks.length ≤ 10000) (hP : IntsAt w x.pa x.picks) :
    Calls Try.prog 29 #[.pointer (some ⟨pr, 0, none⟩), .slice x.pa x.picks.length x.pc] u fun e z => (∃ y, e = .returned y) ∧ ∃ G' C', Mid w B pd pr o n (st.crash x.picks) (st.crash x.picks) F G' A C' lv xv S x z := by
  refine (rd_crash pr st G x.pa x.pc x.picks u h.r hf.ok (by have := hf.few; omega) (hP.old h.core.below) (fun hne b off e hg => by have q1 := ints_block hP hne b off e; have q2 := h.core.cNew b (h.logs.fA.2 b hg); omega) (by omega)).mono ?_
  rintro e z ⟨he, G', hr, hl⟩
  obtain ⟨C', hM⟩ := h.thenM hr hl
  exact ⟨he, G', C', hM⟩
theorem Mid.c1s4 {w : World} {B pd pr : Nat} {o n : Int} {st st' : St} {F G A C : Nat → Prop} {lv xv : Value} {S : Nat} {x : Stp} {u : World} (h : Mid w B pd pr o n st st' F G A C lv xv S x u) : u.cell? ⟨B, 1, none⟩ = some (.pointer (some ⟨pr, 0, none⟩)) ∧ u.cell? ⟨S, 4, none⟩ = some (.slice x.pa x.picks.length x.pc) := ⟨h.box.cells.2.1, h.step.cells.2.2.2.2⟩
set_option maxRecDepth 10000 in
set_option maxHeartbeats 4000000 in
theorem bdoes2 (w u : World) (B pd pr : Nat) (o n : Int) (st : St) (c : Nat) (F G A C : Nat → Prop) (lv xv : Value) (x : Stp) (h : Full w B pd pr o n st c F G A C lv xv u) (hc : c ≤ 9000) (hn : -9223372036854775808 ≤ n ∧ n ≤ 9223372036854775807) (hx : x.Ok) (ha : x.act % 7 = 2) (hpl : x.picks.length ≤ 10000) (hP : IntsAt w x.pa x.picks) :
    Calls Try.prog 12 #[.pointer (some ⟨B, 0, none⟩), x.val] u (OpenSays w B pd pr o n (c + 32)) := by
  have hm := mod7 x.act 2 ha
  have hact := hx.act
  have HM := hide (Mid.start h x)
  obtain ⟨s0, s1, s2, s3, s4⟩ := HM.out.step.cells
  unfold Stp.val
  have HF := hide h.form
  have HF2 := hide ((h.form.crash x.picks).more (Nat.zero_le 16))
  have HX := hide hx
  have HP0 := hide hP
  have KC := hide (fun v a cc hb hi hg => mid_crash (a := a) (cc := cc) (v := v) HM.out HF.out hc HX.out hpl hb hi hg)
  have HP := hide (hP.old HM.out.core.below)
  have KR := hide (fun z F' A' (hM : Mid w B pd pr o n st (st.crash x.picks) F' G A' C lv xv u.heap.size x z) => mid_crashR hM HF.out hc hpl hP)
  have KO := hide (fun v F' G' A' C' (hF : Full w B pd pr o n (st.crash x.picks) 16 F' G' A' C' lv xv v) => both_open w v B pd pr o n (st.crash x.picks) 16 F' G' lv xv hF.disks (by omega) hn)
  clear h hx ha hP
  generalize st.crash x.picks = R at *
  go_enter Try.func12, Try.ntmps12
  go_wp2_with fail
  generalize u.alloc (.cells #[.int .u8 (x.act : Int), .string x.text, .int .u8 (x.times : Int), .int .i64 x.n, .slice x.pa x.picks.length x.pc] 40) = U at *
  generalize u.heap.size = S at *
  have hbU : Below U.heap.size U (U.alloc (.cells #[] 3)) := (Below.refl _ _).alloc (Nat.le_refl _) _
  have HI : Hid (IntsAt (U.alloc (.cells #[] 3)).drew x.pa x.picks) := HP.out.old hbU.drew
  have HBw : Hid (U.heap.size ≤ (U.alloc (.cells #[] 3)).drew.heap.size) := hbU.size
  have HR := hide (World.ownsRow.drew (World.ownsRow_lit (base := U.heap.size) (e := 3) (size := 1) U #[] 0 (Nat.le_refl _) (by decide) rfl))
  have HBg : Hid (∀ u1 r, (U.alloc (.cells #[] 3)).drew.grownBy u1 (Value.slice (some ⟨U.heap.size, 0, none⟩) 0 r).ownBlock → Below U.heap.size U u1) := fun u1 r hg => hbU.drew.grown hg hbU.size (fun j e => by cases e; exact Nat.le_refl _)
  obtain ⟨b0, b1, b2, b3, b4, b5⟩ := HM.out.box.cells
  obtain ⟨d0, d1, d2, d3, d4, d5⟩ := (HM.out.keep hbU).box.cells
  obtain ⟨t0, t1, t2, t3, t4⟩ := (HM.out.keep hbU).step.cells
  clear hbU
  go_region_law (first
    | (refine step_append_ints _ (by rfl) _ _ (by rfl) U.heap.size (.slice (some ⟨U.heap.size, 0, none⟩) 0 0) (by rfl) HR.out x.pa x.pc x.picks (by rfl) HI.out HX.out.nil hpl HBw.out ?_; intro v5 u1 hown5 hgrow5; have hb5 := HBg.out u1 0 hgrow5; obtain ⟨a5, c5, rfl, hi5, hg5⟩ := ints_of_own hown5; have y0 := (HM.out.keep hb5).box.cells.1)
    | (go_simp; go_at_call 23; refine (KC.out u1 a5 c5 hb5 hi5 hg5).mono ?_; rintro e z2 ⟨rfl, F1, A1, K⟩))
  all_goals
    have HK := hide K
    clear K y0 hb5 hi5 hg5 hown5 hgrow5 b0 b1 b2 b3 b4 b5 d0 d1 d2 d3 d4 d5 t0 t1 t2 t3 t4 s0 s1 s2 s3 s4
    go_wp2_with fail
    have K := HK.out.keep ((Below.refl _ _).drew)
    clear HK
    go_region_held3 (fun z => z.cell? ⟨B, 1, none⟩ = some (.pointer (some ⟨pr, 0, none⟩)) ∧ z.cell? ⟨S, 4, none⟩ = some (.slice x.pa x.picks.length x.pc))
      ((with_reducible exact Mid.c1s4 K))
      (first
        | (go_at_call 29; refine (KR.out _ _ _ K).mono ?_; rintro e z3 ⟨⟨v3, rfl⟩, G1, C1, K⟩))
    all_goals
      have HFu := hide (K.full HF2.out)
      clear K
      go_wp2_with fail
      refine (KO.out _ _ _ _ _ HFu.out).mono ?_
      rintro e z4 ⟨rfl, hK⟩
      have HE : Hid (OpenSays w B pd pr o n (c + 32) (.returned (.bool true)) z4) := OpenSays.more (c := 16 + 16) ⟨rfl, hK⟩ (by omega)
      clear hK
      go_wp2
      go_ret
      exact HE.out
end Go.Proofs.Ytelkccfjeinlcaa
namespace Go.Proofs.Ytelkccfjeinlcaa
open Go Go.RowKit Frm Go.Shelf
/-- Both logs, in the midst of an Append. -/
structure Ap (w : World) (B pd pr : Nat) (o n : Int) (st st' : St) (F G : Nat → Prop) (p q o' N : Nat) (s s' : ByteArray) (b b' : Bool) (u : World) : Prop where
  d : DAt u pd st' F
  r : RD u pr st G
  core : Core w B (fun k => F k ∨ k = p) (fun k => G k ∨ k = q) u
  box : BAt u B pd pr (.pointer (some ⟨p, 0, none⟩)) (.pointer (some ⟨q, 0, none⟩)) o n
  log : LAt u p pd o' N s' b'
  rlog : RLAt u q pr o' N s b
  notp : ¬ F p
  notq : ¬ G q
theorem Ap.keep {w : World} {B pd pr : Nat} {o n : Int} {st st' : St} {F G : Nat → Prop} {p q o' N : Nat} {s s' : ByteArray} {b b' : Bool} {u v : World} (h : Ap w B pd pr o n st st' F G p q o' N s s' b b' u) (hb : Below u.heap.size u v) : Ap w B pd pr o n st st' F G p q o' N s s' b b' v :=
  ⟨con.below h.d hb, h.r.below hb, h.core.keep hb, h.box.same (hb.block B h.box.lt), h.log.same (hb.block p h.log.lt), h.rlog.same (hb.block q h.rlog.lt), h.notp, h.notq⟩
theorem Ap.first {w : World} {B pd pr : Nat} {o n : Int} {st st' st2 : St} {F F' G : Nat → Prop} {p q o' N : Nat} {s s' s2 : ByteArray} {b b' b2 : Bool} {u v : World} (h : Ap w B pd pr o n st st' F G p q o' N s s' b b' u) (hL : LAt v p pd o' N s2 b2) (hd : DAt v pd st2 F') (hl : Loc (fun k => F k ∨ k = p) (fun k => F' k ∨ k = p) u v) (hp : ¬ F' p) : Ap w B pd pr o n st st2 F' G p q o' N s s2 b b2 v := by
  refine ⟨hd, h.r.same (hl.other (fun k h1 h2 => h.core.aC k h1 (Or.inl h2)) h.r.lt), h.core.stepA hl (fun k hk => ?_), h.box.same (hl.block B h.core.bLt h.core.aB), hL, h.rlog.same (hl.block q h.rlog.lt (fun hf => h.core.aC q hf (Or.inr rfl))), hp, h.notq⟩
  rcases hk with h1 | rfl
  · exact con.lt hd k h1
  · exact hL.lt
theorem Ap.then {w : World} {B pd pr : Nat} {o n : Int} {st st2 : St} {F G G' : Nat → Prop} {p q o' N : Nat} {s s2 : ByteArray} {b b2 : Bool} {u v : World} (h : Ap w B pd pr o n st st2 F G p q o' N s s2 b b2 u) (hL : RLAt v q pr o' N s2 b2) (hr : RD v pr st2 G') (hl : Loc (fun k => G k ∨ k = q) (fun k => G' k ∨ k = q) u v) (hq : ¬ G' q) : Ap w B pd pr o n st2 st2 F G' p q o' N s2 s2 b2 b2 v := by
  refine ⟨con.same h.d (hl.other (fun k h1 h2 => h.core.aC k (Or.inl h2) h1) (con.lt h.d)), hr, h.core.stepC hl (fun k hk => ?_), h.box.same (hl.block B h.core.bLt h.core.cB), h.log.same (hl.block p h.log.lt (fun hf => h.core.aC p (Or.inr rfl) hf)), hL, h.notp, hq⟩
  rcases hk with h1 | rfl
  · exact hr.lt k h1
  · exact hL.lt
theorem Ap.c23 {w : World} {B pd pr : Nat} {o n : Int} {st st' : St} {F G : Nat → Prop} {p q o' N : Nat} {s s' : ByteArray} {b b' : Bool} {u : World} (h : Ap w B pd pr o n st st' F G p q o' N s s' b b' u) : u.cell? ⟨B, 2, none⟩ = some (.pointer (some ⟨p, 0, none⟩)) ∧ u.cell? ⟨B, 3, none⟩ = some (.pointer (some ⟨q, 0, none⟩)) := ⟨h.box.cells.2.2.1, h.box.cells.2.2.2.1⟩
theorem Ap.says {w : World} {B pd pr o' N : Nat} {st : St} {c : Nat} {F G : Nat → Prop} {p q : Nat} {s : ByteArray} {b : Bool} {u : World} (h : Ap w B pd pr (o' : Int) (N : Int) st st F G p q o' N s s b b u) (hf : Form 8 c st) (h1 : 1 ≤ N) (h8 : o' + N ≤ 8) (hs : s.size ≤ N * 255) : OpenSays w B pd pr (o' : Int) (N : Int) c (.returned (.bool true)) u :=
  ⟨rfl, st, F, G, _, _, _, _, hf, h.d, h.r, h.core, h.box, Or.inr ⟨p, q, o', N, s, b, rfl, rfl, rfl, rfl, h1, h8, hs, h.log, h.rlog, h.notp, h.notq, rfl, rfl⟩⟩
set_option maxRecDepth 10000 in
set_option maxHeartbeats 4000000 in
theorem bdoes0y (w u : World) (B pd pr o' N : Nat) (st st2 : St) (c : Nat) (F G : Nat → Prop) (p q : Nat) (s s2 : ByteArray) (b b2 : Bool) (y : Int) (x : Stp) (h : Ap w B pd pr (o' : Int) (N : Int) st st F G p q o' N s s b b u) (hx : x.Ok) (ht : x.text.size ≤ 100000) (ha : x.act % 7 = 0)
    (hf : Form 8 (c + 32) st2) (h1 : 1 ≤ N) (h8 : o' + N ≤ 8) (hs : s2.size ≤ N * 255)
    (k1 : ∀ v, LAt v p pd o' N s b → DAt v pd st F → Calls Try.prog 20 #[.pointer (some ⟨p, 0, none⟩), .string x.says] v (Apd p pd o' N s2 b2 st2 F v y))
    (k2 : ∀ v, RLAt v q pr o' N s b → RD v pr st G → Calls Try.prog 27 #[.pointer (some ⟨q, 0, none⟩), .string x.says] v (RApd q pr o' N s2 b2 st2 G v y)) :
    Calls Try.prog 12 #[.pointer (some ⟨B, 0, none⟩), x.val] u (OpenSays w B pd pr (o' : Int) (N : Int) (c + 32)) := by
  have hm := mod7 x.act 0 ha
  have hact := hx.act
  have hb0 : Below u.heap.size u (u.alloc (.cells #[.int .u8 (x.act : Int), .string x.text, .int .u8 (x.times : Int), .int .i64 x.n, .slice x.pa x.picks.length x.pc] 40)) := (Below.refl _ _).alloc (Nat.le_refl _) _
  have HA := hide (h.keep hb0)
  have HSB : Hid (SBox (u.alloc (.cells #[.int .u8 (x.act : Int), .string x.text, .int .u8 (x.times : Int), .int .i64 x.n, .slice x.pa x.picks.length x.pc] 40)) u.heap.size x) := heap_alloc_last u _
  obtain ⟨s0, s1, s2', s3, s4⟩ := HSB.out.cells
  obtain ⟨b2', b3'⟩ := HA.out.c23
  have KT := hide (fun v => text_any x v hx ht)
  have K1 := hide k1
  have K2 := hide k2
  have HEnd : Hid (∀ F' G' v, Ap w B pd pr (o' : Int) (N : Int) st2 st2 F' G' p q o' N s2 s2 b2 b2 v → OpenSays w B pd pr (o' : Int) (N : Int) (c + 32) (.returned (.bool true)) v) := fun F' G' v hh => hh.says hf h1 h8 hs
  unfold Stp.val at KT ⊢
  clear h hx ha ht hb0 hf h1 h8 hs k1 k2
  generalize x.says = t at *
  generalize (o' : Int) = o at *
  generalize (N : Int) = n at *
  go_enter Try.func12, Try.ntmps12
  go_wp2_with fail
  refine (KT.out _).mono ?_
  rintro e z0 ⟨rfl, hb⟩
  have HA1 := hide (HA.out.keep hb)
  clear hb HA b2' b3' s0 s1 s2' s3 s4 HSB KT
  go_wp2_with fail
  have K := HA1.out.keep ((Below.refl _ _).drew)
  clear HA1
  go_region_held3 (fun z => z.cell? ⟨B, 2, none⟩ = some (.pointer (some ⟨p, 0, none⟩)) ∧ z.cell? ⟨B, 3, none⟩ = some (.pointer (some ⟨q, 0, none⟩)))
    ((with_reducible exact Ap.c23 K))
    (first
      | (go_at_call 20; refine (K1.out _ K.log K.d).mono ?_; rintro e z1 ⟨rfl, hL1, F1, hd1, hl1, hp1⟩; have K := Ap.first K hL1 hd1 hl1 hp1)
      | (go_at_call 27; refine (K2.out _ K.rlog K.r).mono ?_; rintro e z2 ⟨rfl, hL2, G1, hr2, hl2, hq2⟩; have K := Ap.then K hL2 hr2 hl2 hq2))
  all_goals
    have HE := hide (HEnd.out _ _ _ K)
    clear K
    go_wp2
    go_ret
    exact HE.out
set_option maxRecDepth 10000 in
set_option maxHeartbeats 1000000 in
theorem bdoes0n (w u : World) (B pd pr : Nat) (o n : Int) (st : St) (c : Nat) (F G : Nat → Prop) (x : Stp) (h : Full w B pd pr o n st c F G F G (.pointer none) (.pointer none) u) (hx : x.Ok) (ha : x.act % 7 = 0) :
    Calls Try.prog 12 #[.pointer (some ⟨B, 0, none⟩), x.val] u (OpenSays w B pd pr o n (c + 32)) := by
  have hm := mod7 x.act 0 ha
  have hact := hx.act
  have HM := hide (Mid.start h x)
  obtain ⟨s0, s1, s2, s3, s4⟩ := HM.out.step.cells
  obtain ⟨b0, b1, b2, b3, b4, b5⟩ := HM.out.box.cells
  have HE := hide (HM.out.says (h.form.more (show c ≤ c + 32 by omega)))
  unfold Stp.val
  clear h hx ha
  go_enter Try.func12, Try.ntmps12
  go_wp2
  go_ret
  exact HE.out
theorem bdoes0 (w u : World) (B pd pr : Nat) (o n : Int) (st : St) (c : Nat) (F G A C : Nat → Prop) (lv xv : Value) (x : Stp) (h : Full w B pd pr o n st c F G A C lv xv u) (hc : c ≤ 9000) (hx : x.Ok) (ht : x.text.size ≤ 1024) (ha : x.act % 7 = 0) :
    Calls Try.prog 12 #[.pointer (some ⟨B, 0, none⟩), x.val] u (OpenSays w B pd pr o n (c + 32)) := by
  have hok := h.form.ok
  have hlen := h.form.len
  have hfew := h.form.few
  have hsz : x.says.size ≤ 65536 := by have := says_size x; omega
  obtain ⟨hf, hd, hr, hcore, hbox, hlogs⟩ := h
  rcases hlogs with ⟨rfl, rfl, rfl, rfl⟩ | ⟨p, q, o', N, s, b, rfl, rfl, rfl, rfl, h1, h8, hs, hL, hR, hp, hq, rfl, rfl⟩
  · exact bdoes0n w u B pd pr o n st c A C x ⟨hf, hd, hr, hcore, hbox, Or.inl ⟨rfl, rfl, rfl, rfl⟩⟩ hx ha
  · have hAp : Ap w B pd pr (o' : Int) (N : Int) st st F G p q o' N s s b b u := ⟨hd, hr, hcore, hbox, hL, hR, hp, hq⟩
    cases b with
    | true =>
      exact bdoes0y w u B pd pr o' N st st c F G p q s s true true 3 x hAp hx (by omega) ha (hf.more (by omega)) h1 h8 hs (fun v hl hd' => append_broken p pd o' N s x.says st F v hl hd' hp) (fun v hl hd' => rAppend_broken q pr o' N s x.says st G v hl hd' hq)
    | false =>
      exact bdoes0y w u B pd pr o' N st (walAppend st o' N s x.says).2.2 c F G p q s (walAppend st o' N s x.says).2.1 false (brk st o' N s x.says) (((walAppend st o' N s x.says).1 : Nat) : Int) x hAp hx (by omega) ha ((hf.append o' N s x.says).more (by omega)) h1 h8 (append_size st o' N s x.says hs) (fun v hl hd' => pAppend p pd o' N s x.says st F v hl hd' hp hok (by omega) (by omega) (by omega) hs (by unfold maxLen; omega)) (fun v hl hd' => pRAppend q pr o' N s x.says st G v hl hd' hq hok (by omega) (by omega) (by omega) hs hsz)
end Go.Proofs.Ytelkccfjeinlcaa
namespace Go.Proofs.Ytelkccfjeinlcaa
open Go Go.RowKit Frm Go.Shelf
theorem does_any (w u : World) (B pd pr : Nat) (o n : Int) (st : St) (c : Nat) (F G A C : Nat → Prop) (lv xv : Value) (x : Stp) (h : Full w B pd pr o n st c F G A C lv xv u) (hc : c ≤ 9000) (hn : -9223372036854775808 ≤ n ∧ n ≤ 9223372036854775807) (hx : x.Ok) (hsm : x.picks.length + 8 * x.text.size ≤ 8192) (hP : IntsAt w x.pa x.picks) :
    Calls Try.prog 12 #[.pointer (some ⟨B, 0, none⟩), x.val] u (OpenSays w B pd pr o n (c + 32)) := by
  have h7 : x.act % 7 < 7 := Nat.mod_lt _ (by decide)
  by_cases h0 : x.act % 7 = 0
  · exact bdoes0 w u B pd pr o n st c F G A C lv xv x h hc hx (by omega) h0
  by_cases h1 : x.act % 7 = 1
  · exact bdoes1 w u B pd pr o n st c F G A C lv xv x h hc hx h1
  by_cases h2 : x.act % 7 = 2
  · exact bdoes2 w u B pd pr o n st c F G A C lv xv x h hc hn hx h2 (by omega) hP
  by_cases h3 : x.act % 7 = 3
  · exact bdoes3 w u B pd pr o n st c F G A C lv xv x h hx h3
  by_cases h4 : x.act % 7 = 4
  · exact bdoes4 w u B pd pr o n st c F G A C lv xv x h hc hx (by omega) h4
  by_cases h5 : x.act % 7 = 5
  · exact bdoes5 w u B pd pr o n st c F G A C lv xv x h hc hn hx h5
  · exact bdoes6 w u B pd pr o n st c F G A C lv xv x h hc hn hx (by omega)
theorem rd_looseAt {u : World} {p : Nat} {st : St} {G : Nat → Prop} (h : RD u p st G) : ∃ a c, u.cell? ⟨p, 1, none⟩ = some (.slice a st.loose.length c) := by
  obtain ⟨vS, vL, rfl, hR⟩ := h
  obtain ⟨a, c, e, _⟩ := slice_of hR.loose
  exact ⟨a, c, by rw [hR.cell1, e]⟩
/-- What holds under more holds under less. -/
theorem wpAnyH_weak {P : Program} {md : Region.Mode} {ops : Array Oper} {Q : Exit → Act → World → Prop} {S S' : World → Prop} (hs : ∀ w, S' w → S w) :
    ∀ {fuel : Nat} {listed : Array Bool} {a : Act} {w : World}, wpAnyH P md ops Q S' fuel listed a w → wpAnyH P md ops Q S fuel listed a w
  | 0, _, _, _, h => h
  | _ + 1, _, _, _, h => ⟨h.1, fun i hi => wpOp_mono (fun _ _ h' => ⟨hs _ h'.1, wpAnyH_weak hs h'.2⟩) (h.2 i hi)⟩
/-- An operation that yields the same in every world that meets S is taken first; its slot is written out. -/
theorem takeAt {P : Program} {md : Region.Mode} {ops : Array Oper} {Q : Exit → Act → World → Prop} {S : World → Prop} (i d : Nat) {oi : Oper} {v : Value} {fuel : Nat} {listed : Array Bool} {a : Act} {w : World} (hi : ops[i]? = some oi) (hd : oi.dst = some d)
    (hs : Region.noSelect ops = true) (hf : Region.free md ops listed i = true) (hr : (Region.ready md ops listed).contains i = true)
    (hQ : ∀ c a w, Q (.panic c) (a.put oi.dst v) w → Q (.panic c) a w) (hy : YieldsIf P ops S oi v a) (hS : S w)
    (h : wpAnyH P md ops Q S fuel (listed.setIfInBounds i true) { tmps := a.tmps.setIfInBounds d v, defers := a.defers } w) : wpAnyH P md ops Q S (fuel + 1) listed a w := by
  refine wpAnyH_take hi hs hf hr hQ hy hS ?_
  rw [hd]
  exact h
theorem room_iwrap {n m : Nat} (hn : n ≤ 8) (hm : m ≤ n * 255) : IntKind.i64.wrap ((n : Int) * 255) = (n : Int) * 255 ∧ IntKind.i64.wrap ((n : Int) * 255 - (m : Int)) = (n : Int) * 255 - (m : Int) := by rw [IntKind.wrap_i64, IntKind.wrap_i64]; omega
theorem below_eq {u v : World} (h : v = u) : Below u.heap.size u v := by subst h; exact Below.refl _ _
theorem few_ok {n c : Nat} {st : St} (h : Form n (c + 32) st) (hc : c + 32 ≤ 9000) : st.loose.length ≤ 10000 := by have := h.few; omega
set_option maxRecDepth 10000 in
set_option maxHeartbeats 8000000 in
theorem WalPlays_any (o n : Int) (a : Option Addr) (c : Nat) (l : List Stp) (w : World) (h : StepsAt w a l) (hok : ∀ x ∈ l, x.Ok) (hl : l.length ≤ 140737488351232) (hn : -9223372036854775808 ≤ n ∧ n ≤ 9223372036854775807) :
    Calls Try.prog 3 #[.int .i64 o, .int .i64 n, .slice a l.length c] w fun e w' => e = .returned (.bool true) ∧ Below w.heap.size w w' := by
  have KA := hide alive_any
  have HSt := hide h
  have HOk := hide hok
  have KH := hide (heavy_any a c l w h hok hl)
  have HN := hide hn
  clear h hok hn
  go_enter Try.func3, Try.ntmps3
  go_wp2_with fail
  refine KH.out.mono ?_
  rintro e w1 ⟨r, rfl, ⟨n1, hw1⟩, hr⟩
  have HB1 : Hid (Below w.heap.size w w1) := by rw [hw1]; exact below_drewN (Below.refl _ _) n1
  clear hw1
  cases r with
  | true =>
    clear hr
    go_wp2_with fail
    refine (KA.out _).mono ?_
    rintro e w2 ⟨rfl, hb2⟩
    have HB2 := hide (bnext HB1.out hb2)
    clear hb2
    go_wp2
    go_ret
    exact ⟨rfl, HB2.out⟩
  | false =>
    obtain ⟨hl60, hsm⟩ := hr rfl
    have HSm := hide hsm
    clear hr hsm
    have K1 := hide (con.new 8 w1 (by decide) (by decide))
    go_wp2_with fail
    refine K1.out.mono ?_
    rintro e w2 ⟨pd, F, rfl, hd1, hF1, hb1⟩
    have K2 := hide (rd_new 8 w2 (by decide) (by decide))
    have HD1 := hide hd1
    have HF1 := hide hF1
    have HB2 := hide hb1
    clear hd1 hF1 hb1
    go_wp2_with fail
    refine K2.out.mono ?_
    rintro e w3 ⟨pr, G, rfl, hr3, hG3, hb3⟩
    have HDs : Hid (Disks w w3.heap.size pd pr o n (St.new 8) 0 F G (.pointer none) (.pointer none) (w3.alloc (.cells #[.pointer (some ⟨pd, 0, none⟩), .pointer (some ⟨pr, 0, none⟩), .pointer none, .pointer none, .int .i64 o, .int .i64 n] 36))) := by
      have hal : Below w3.heap.size w3 (w3.alloc (.cells #[.pointer (some ⟨pd, 0, none⟩), .pointer (some ⟨pr, 0, none⟩), .pointer none, .pointer none, .int .i64 o, .int .i64 n] 36)) := (Below.refl _ _).alloc (Nat.le_refl _) _
      have q1 := HB1.out.size
      have q2 := HB2.out.size
      have q3 := hb3.size
      have hd3 := con.below HD1.out hb3
      have hlt := con.lt HD1.out
      have hsz : (w3.alloc (.cells #[.pointer (some ⟨pd, 0, none⟩), .pointer (some ⟨pr, 0, none⟩), .pointer none, .pointer none, .int .i64 o, .int .i64 n] 36)).heap.size = w3.heap.size + 1 := by simp
      refine ⟨Form.new (by decide) (by decide), con.below hd3 hal, hr3.below hal, ⟨bnext (bnext (bnext HB1.out HB2.out) hb3) hal, fun k h1 h2 => ?_, fun hf => ?_, fun hf => ?_, fun k hk => ?_, fun k hk => ?_, fun k hk => ?_, fun k hk => ?_, by omega, by omega⟩, heap_alloc_last w3 _⟩
      · have z1 := hlt k h1; have z2 := hG3 k h2; omega
      · have z1 := hlt _ hf; omega
      · have z1 := hr3.lt _ hf; omega
      · have z1 := HF1.out k hk; omega
      · have z1 := hG3 k hk; omega
      · have z1 := hlt k hk; omega
      · have z1 := hr3.lt k hk; omega
    have KO := hide (both_open w _ w3.heap.size pd pr o n (St.new 8) 0 F G _ _ HDs.out (by decide) HN.out)
    clear hr3 hG3 hb3 HDs HD1 HF1 HB2 K1 K2 KH
    go_wp2_with fail
    refine KO.out.mono ?_
    rintro e w4 ⟨rfl, hK4⟩
    have HK4 := hide hK4
    clear hK4 KO
    generalize w3.heap.size = B at *
    go_wp2_with fail
    go_loopw [12] (fun i u => ∃ (k : Nat) (st : St) (F G A C : Nat → Prop) (lv xv : Value), k ≤ l.length ∧ i = .int .i64 (k : Int) ∧ Full w B pd pr o n st (32 * k + 16) F G A C lv xv u) (fun i _ => l.length - (intOf i).toNat)
    case atStart =>
      obtain ⟨st, F', G', A', C', lv', xv', hf⟩ := HK4.out
      exact ⟨0, st, F', G', A', C', lv', xv', Nat.zero_le _, rfl, hf.more (by omega)⟩
    case round =>
      obtain ⟨k, st, F', G', A', C', lv', xv', hk, rfl, hF⟩ := hrel
      clear HK4
      by_cases hlt : k < l.length
      · obtain ⟨b, off, rfl, hc⟩ : ∃ b off, a = some ⟨b, off, none⟩ ∧ ∀ j (hj : j < l.length), StepAt w b (off + j * 5) l[j] := by
          rcases HSt.out with h0 | h1
          · rw [h0] at hlt; exact absurd hlt (by simp)
          · exact h1
        have hxo := HOk.out _ (List.getElem_mem hlt)
        have hsm := HSm.out _ (List.getElem_mem hlt)
        have hck := hc k hlt
        have HCk : Hid (∀ z, Below w.heap.size w z → z.cell? ⟨b, off + k * 5, none⟩ = some (.int .u8 (l[k].act : Int)) ∧ z.cell? ⟨b, off + k * 5 + 1, none⟩ = some (.string l[k].text) ∧ z.cell? ⟨b, off + k * 5 + 2, none⟩ = some (.int .u8 (l[k].times : Int)) ∧ z.cell? ⟨b, off + k * 5 + 3, none⟩ = some (.int .i64 l[k].n) ∧ z.cell? ⟨b, off + k * 5 + 4, none⟩ = some (.slice l[k].pa l[k].picks.length l[k].pc)) := fun z hb => by
          obtain ⟨e0, e1, e2, e3, e4, -⟩ := hck.old hb
          exact ⟨e0, e1, e2, e3, e4⟩
        have HFd := hide (hF.keep ((Below.refl _ wr).drew))
        have hz : (k : Int) < (l.length : Int) := by omega
        have KD := hide (does_any w wr.drew B pd pr o n st (32 * k + 16) F' G' A' C' lv' xv' l[k] (hF.keep ((Below.refl _ _).drew)) (by omega) HN.out hxo hsm hck.2.2.2.2.2)
        unfold Stp.val at KD
        have hw1 : IntKind.i64.wrap ((k : Int) + 1) = (k : Int) + 1 := by rw [IntKind.wrap_i64]; omega
        have HW1 := hide hw1
        have HKs : Hid (32 * k + 16 + 32 ≤ 9000) := by show _ ≤ _; omega
        clear hc hck hxo hsm hF hw1
        generalize l[k] = x at *
        go_wp2_with fail
        refine wp_region_held_drew (S := fun z => z.cell? ⟨b, off + k * 5, none⟩ = some (.int .u8 (x.act : Int)) ∧ z.cell? ⟨b, off + k * 5 + 1, none⟩ = some (.string x.text) ∧ z.cell? ⟨b, off + k * 5 + 2, none⟩ = some (.int .u8 (x.times : Int)) ∧ z.cell? ⟨b, off + k * 5 + 3, none⟩ = some (.int .i64 x.n) ∧ z.cell? ⟨b, off + k * 5 + 4, none⟩ = some (.slice x.pa x.picks.length x.pc)) (by kernel_rfl) (HCk.out _ HFd.out.core.below) (fun hHeld => ?_)
        refine takeAt 0 46 (v := ?v0) rfl rfl (by kernel_rfl) (by kernel_rfl) (by kernel_rfl) (fun _ _ _ h => h) (Or.inl ⟨by rfl, ?hy0⟩) (by assumption) ?rest0
        case hy0 => (intro w hSw; (try dsimp only at hSw); go_simp; first | done | with_reducible rfl)
        simp only [List.setIfInBounds_toArray, List.set_cons_succ, List.set_cons_zero]
        refine takeAt 1 47 (v := ?v1) rfl rfl (by kernel_rfl) (by kernel_rfl) (by kernel_rfl) (fun _ _ _ h => h) (Or.inl ⟨by rfl, ?hy1⟩) (by assumption) ?rest1
        case hy1 => (intro w hSw; (try dsimp only at hSw); go_simp; first | done | with_reducible rfl)
        simp only [List.setIfInBounds_toArray, List.set_cons_succ, List.set_cons_zero]
        refine takeAt 2 48 (v := ?v2) rfl rfl (by kernel_rfl) (by kernel_rfl) (by kernel_rfl) (fun _ _ _ h => h) (Or.inl ⟨by rfl, ?hy2⟩) (by assumption) ?rest2
        case hy2 => (intro w hSw; (try dsimp only at hSw); go_simp; first | done | with_reducible rfl)
        simp only [List.setIfInBounds_toArray, List.set_cons_succ, List.set_cons_zero]
        refine takeAt 3 49 (v := ?v3) rfl rfl (by kernel_rfl) (by kernel_rfl) (by kernel_rfl) (fun _ _ _ h => h) (Or.inl ⟨by rfl, ?hy3⟩) (by assumption) ?rest3
        case hy3 => (intro w hSw; (try dsimp only at hSw); go_simp; first | done | with_reducible rfl)
        simp only [List.setIfInBounds_toArray, List.set_cons_succ, List.set_cons_zero]
        refine takeAt 4 50 (v := ?v4) rfl rfl (by kernel_rfl) (by kernel_rfl) (by kernel_rfl) (fun _ _ _ h => h) (Or.inl ⟨by rfl, ?hy4⟩) (by assumption) ?rest4
        case hy4 => (intro w hSw; (try dsimp only at hSw); go_simp; first | done | with_reducible rfl)
        simp only [List.setIfInBounds_toArray, List.set_cons_succ, List.set_cons_zero]
        refine wpAnyH_ready (rs := [5]) (by kernel_rfl) (by simp) ?_
        refine AllReadyH.cons (o := { dst := some 51, op := Op.call { callee := Callee.value (Operand.func 12), args := #[Operand.tmp 46, Operand.tmp 50], argTypes := #[32, 40] }, type := 4, pos := "law.go:139", after := #[{ on := 0, ground := Ground.data }, { on := 4, ground := Ground.data }], guard := none }) rfl (fun K hK => ?_) AllReadyH.nil
        go_simp
        refine KD.out.mono ?_
        rintro e z1 ⟨rfl, st2, F2, G2, A2, C2, lv2, xv2, hK1⟩
        have HK1 := hide hK1
        clear hK1
        obtain ⟨aL, cL, hyL⟩ := rd_looseAt HK1.out.r
        have HTx := hide (con.sure pd st2 F2 z1 HK1.out.d HK1.out.form.ok)
        have HTr := hide (fun z (hr : RD z pr st2 G2) => rd_sure pr st2 G2 z hr HK1.out.form.ok)
        have HLo := hide (fun z (hd : DAt z pd st2 F2) => con.loose pd st2 F2 z hd HK1.out.form.ok (few_ok HK1.out.form HKs.out))
        generalize st2.text = T at *
        generalize st2.loose.length = m at *
        have HYL := hide hyL
        clear hyL
        go_wp2_with fail
        refine hK.out _ _ (HCk.out _ HK1.out.core.below) (fun hHeld2 => ?_)
        clear hK K
        (try go_frame)
        clear hHeld hHeld2
        refine wpAnyH_weak (S' := fun z => z.cell? ⟨pr, 1, none⟩ = some (.slice aL m cL) ∧ z.cell? ⟨b, off + k * 5, none⟩ = some (.int .u8 (x.act : Int)) ∧ z.cell? ⟨b, off + k * 5 + 1, none⟩ = some (.string x.text) ∧ z.cell? ⟨b, off + k * 5 + 2, none⟩ = some (.int .u8 (x.times : Int)) ∧ z.cell? ⟨b, off + k * 5 + 3, none⟩ = some (.int .i64 x.n) ∧ z.cell? ⟨b, off + k * 5 + 4, none⟩ = some (.slice x.pa x.picks.length x.pc)) (fun z h => h.2) ?_
        have hHeld : (fun z : World => z.cell? ⟨pr, 1, none⟩ = some (.slice aL m cL) ∧ z.cell? ⟨b, off + k * 5, none⟩ = some (.int .u8 (x.act : Int)) ∧ z.cell? ⟨b, off + k * 5 + 1, none⟩ = some (.string x.text) ∧ z.cell? ⟨b, off + k * 5 + 2, none⟩ = some (.int .u8 (x.times : Int)) ∧ z.cell? ⟨b, off + k * 5 + 3, none⟩ = some (.int .i64 x.n) ∧ z.cell? ⟨b, off + k * 5 + 4, none⟩ = some (.slice x.pa x.picks.length x.pc)) z1 := ⟨HYL.out, HCk.out _ HK1.out.core.below⟩
        dsimp only at hHeld
        refine takeAt 6 52 (v := ?v6) rfl rfl (by kernel_rfl) (by kernel_rfl) (by kernel_rfl) (fun _ _ _ h => h) (Or.inl ⟨by rfl, ?hy6⟩) (by assumption) ?rest6
        case hy6 => (intro w hSw; (try dsimp only at hSw); go_simp; first | done | with_reducible rfl)
        simp only [List.setIfInBounds_toArray, List.set_cons_succ, List.set_cons_zero]
        refine takeAt 7 53 (v := ?v7) rfl rfl (by kernel_rfl) (by kernel_rfl) (by kernel_rfl) (fun _ _ _ h => h) (Or.inl ⟨by rfl, ?hy7⟩) (by assumption) ?rest7
        case hy7 => (intro w hSw; (try dsimp only at hSw); go_simp; first | done | with_reducible rfl)
        simp only [List.setIfInBounds_toArray, List.set_cons_succ, List.set_cons_zero]
        refine takeAt 8 54 (v := ?v8) rfl rfl (by kernel_rfl) (by kernel_rfl) (by kernel_rfl) (fun _ _ _ h => h) (Or.inl ⟨by rfl, ?hy8⟩) (by assumption) ?rest8
        case hy8 => (intro w hSw; (try dsimp only at hSw); go_simp; first | done | with_reducible rfl)
        simp only [List.setIfInBounds_toArray, List.set_cons_succ, List.set_cons_zero]
        refine takeAt 10 56 (v := ?v10) rfl rfl (by kernel_rfl) (by kernel_rfl) (by kernel_rfl) (fun _ _ _ h => h) (Or.inl ⟨by rfl, ?hy10⟩) (by assumption) ?rest10
        case hy10 => (intro w hSw; (try dsimp only at hSw); go_simp; first | done | with_reducible rfl)
        simp only [List.setIfInBounds_toArray, List.set_cons_succ, List.set_cons_zero]
        refine wpAnyH_ready (rs := [9]) (by kernel_rfl) (by simp) ?_
        refine AllReadyH.cons (o := { dst := some 55, op := Op.call { callee := Callee.value (Operand.func 13), args := #[Operand.tmp 54], argTypes := #[25] }, type := 9, pos := "law.go:139", after := #[{ on := 8, ground := Ground.data }, { on := 7, ground := Ground.chain }, { on := 7, ground := Ground.guard }], guard := some (7, false) }) rfl (fun K hK => ?_) AllReadyH.nil
        go_simp
        refine HTx.out.mono ?_
        rintro e z2 ⟨rfl, hb2⟩
        have HK2 := hide (HK1.out.keep hb2)
        have HYL2 := hide (cellB hb2 HYL.out)
        clear hb2 HTx
        go_wp2_with fail
        refine hK.out _ _ (⟨HYL2.out, HCk.out _ HK2.out.core.below⟩) (fun hHeld2 => ?_)
        clear hK K
        (try go_frame)
        clear hHeld
        refine wpAnyH_ready (rs := [11]) (by kernel_rfl) (by simp) ?_
        refine AllReadyH.cons (o := { dst := some 57, op := Op.call { callee := Callee.value (Operand.func 14), args := #[Operand.tmp 56], argTypes := #[29] }, type := 9, pos := "law.go:139", after := #[{ on := 10, ground := Ground.data }, { on := 9, ground := Ground.chain }, { on := 7, ground := Ground.guard }], guard := some (7, false) }) rfl (fun K hK => ?_) AllReadyH.nil
        go_simp
        refine (HTr.out _ HK2.out.r).mono ?_
        rintro e z3 ⟨rfl, hz3⟩
        have HK3 := hide (HK2.out.keep (below_eq hz3))
        have HYL3 := hide (cellB (below_eq hz3) HYL2.out)
        clear hz3 HTr
        go_wp2_with fail
        refine hK.out _ _ (⟨HYL3.out, HCk.out _ HK3.out.core.below⟩) (fun hHeld3 => ?_)
        clear hK K
        (try go_frame)
        clear hHeld2
        refine takeAt 12 58 (v := ?v12) rfl rfl (by kernel_rfl) (by kernel_rfl) (by kernel_rfl) (fun _ _ _ h => h) (Or.inl ⟨by rfl, ?hy12⟩) (by assumption) ?rest12
        case hy12 => (intro w hSw; (try dsimp only at hSw); go_simp; first | done | with_reducible rfl)
        simp only [List.setIfInBounds_toArray, List.set_cons_succ, List.set_cons_zero]
        refine takeAt 13 59 (v := ?v13) rfl rfl (by kernel_rfl) (by kernel_rfl) (by kernel_rfl) (fun _ _ _ h => h) (Or.inl ⟨by rfl, ?hy13⟩) (by assumption) ?rest13
        case hy13 => (intro w hSw; (try dsimp only at hSw); go_simp; first | done | with_reducible rfl)
        simp only [List.setIfInBounds_toArray, List.set_cons_succ, List.set_cons_zero]
        refine takeAt 14 60 (v := ?v14) rfl rfl (by kernel_rfl) (by kernel_rfl) (by kernel_rfl) (fun _ _ _ h => h) (Or.inl ⟨by rfl, ?hy14⟩) (by assumption) ?rest14
        case hy14 => (intro w hSw; (try dsimp only at hSw); go_simp; first | done | with_reducible rfl)
        simp only [List.setIfInBounds_toArray, List.set_cons_succ, List.set_cons_zero]
        refine takeAt 15 61 (v := ?v15) rfl rfl (by kernel_rfl) (by kernel_rfl) (by kernel_rfl) (fun _ _ _ h => h) (Or.inl ⟨by rfl, ?hy15⟩) (by assumption) ?rest15
        case hy15 => (intro w hSw; (try dsimp only at hSw); go_simp; first | done | with_reducible rfl)
        simp only [List.setIfInBounds_toArray, List.set_cons_succ, List.set_cons_zero]
        refine takeAt 18 64 (v := ?v18) rfl rfl (by kernel_rfl) (by kernel_rfl) (by kernel_rfl) (fun _ _ _ h => h) (Or.inl ⟨by rfl, ?hy18⟩) (by assumption) ?rest18
        case hy18 => (intro w hSw; (try dsimp only at hSw); go_simp; first | done | with_reducible rfl)
        simp only [List.setIfInBounds_toArray, List.set_cons_succ, List.set_cons_zero]
        refine takeAt 19 65 (v := ?v19) rfl rfl (by kernel_rfl) (by kernel_rfl) (by kernel_rfl) (fun _ _ _ h => h) (Or.inl ⟨by rfl, ?hy19⟩) (by assumption) ?rest19
        case hy19 => (intro w hSw; (try dsimp only at hSw); go_simp; first | done | with_reducible rfl)
        simp only [List.setIfInBounds_toArray, List.set_cons_succ, List.set_cons_zero]
        refine takeAt 20 66 (v := ?v20) rfl rfl (by kernel_rfl) (by kernel_rfl) (by kernel_rfl) (fun _ _ _ h => h) (Or.inl ⟨by rfl, ?hy20⟩) (by assumption) ?rest20
        case hy20 => (intro w hSw; (try dsimp only at hSw); go_simp; first | done | with_reducible rfl)
        simp only [List.setIfInBounds_toArray, List.set_cons_succ, List.set_cons_zero]
        refine takeAt 21 67 (v := ?v21) rfl rfl (by kernel_rfl) (by kernel_rfl) (by kernel_rfl) (fun _ _ _ h => h) (Or.inl ⟨by rfl, ?hy21⟩) (by assumption) ?rest21
        case hy21 => (intro w hSw; (try dsimp only at hSw); go_simp; first | done | with_reducible rfl)
        simp only [List.setIfInBounds_toArray, List.set_cons_succ, List.set_cons_zero]
        refine takeAt 22 68 (v := ?v22) rfl rfl (by kernel_rfl) (by kernel_rfl) (by kernel_rfl) (fun _ _ _ h => h) (Or.inl ⟨by rfl, ?hy22⟩) (by assumption) ?rest22
        case hy22 => (intro w hSw; (try dsimp only at hSw); go_simp; first | done | with_reducible rfl)
        simp only [List.setIfInBounds_toArray, List.set_cons_succ, List.set_cons_zero]
        refine wpAnyH_ready (rs := [16]) (by kernel_rfl) (by simp) ?_
        refine AllReadyH.cons (o := { dst := some 62, op := Op.call { callee := Callee.value (Operand.func 15), args := #[Operand.tmp 61], argTypes := #[25] }, type := 38, pos := "law.go:139", after := #[{ on := 15, ground := Ground.data }, { on := 14, ground := Ground.chain }, { on := 14, ground := Ground.guard }], guard := some (14, false) }) rfl (fun K hK => ?_) AllReadyH.nil
        go_simp
        refine (HLo.out _ HK3.out.d).mono ?_
        rintro e z4 ⟨aN, cN, rfl, -, hb4⟩
        have HK4 := hide (HK3.out.keep hb4)
        have HYL4 := hide (cellB hb4 HYL3.out)
        clear hb4 HLo
        go_wp2_with fail
        refine hK.out _ _ (⟨HYL4.out, HCk.out _ HK4.out.core.below⟩) (fun hHeld4 => ?_)
        clear hK K
        (try go_frame)
        clear hHeld3
        refine takeAt 17 63 (v := ?v17) rfl rfl (by kernel_rfl) (by kernel_rfl) (by kernel_rfl) (fun _ _ _ h => h) (Or.inl ⟨by rfl, ?hy17⟩) (by assumption) ?rest17
        case hy17 => (intro w hSw; (try dsimp only at hSw); go_simp; first | done | with_reducible rfl)
        simp only [List.setIfInBounds_toArray, List.set_cons_succ, List.set_cons_zero]
        refine takeAt 23 69 (v := ?v23) rfl rfl (by kernel_rfl) (by kernel_rfl) (by kernel_rfl) (fun _ _ _ h => h) (Or.inl ⟨by rfl, ?hy23⟩) (by assumption) ?rest23
        case hy23 => (intro w hSw; (try dsimp only at hSw); go_simp; first | done | with_reducible rfl)
        simp only [List.setIfInBounds_toArray, List.set_cons_succ, List.set_cons_zero]
        refine takeAt 24 70 (v := ?v24) rfl rfl (by kernel_rfl) (by kernel_rfl) (by kernel_rfl) (fun _ _ _ h => h) (Or.inl ⟨by rfl, ?hy24⟩) (by assumption) ?rest24
        case hy24 => (intro w hSw; (try dsimp only at hSw); go_simp; first | done | with_reducible rfl)
        simp only [List.setIfInBounds_toArray, List.set_cons_succ, List.set_cons_zero]
        refine wpAnyH_done (by kernel_rfl) ?_ _
        clear hHeld4
        have HLg := hide HK4.out.logs
        have HBx := hide HK4.out.box.cells
        have HEnd : Hid (∀ v, Below z4.heap.size z4 v → ∃ (k' : Nat) (st : St) (F G A C : Nat → Prop) (lv xv : Value), k' ≤ l.length ∧ Value.int .i64 ((k : Int) + 1) = .int .i64 (k' : Int) ∧ Full w B pd pr o n st (32 * k' + 16) F G A C lv xv v) := fun v hb => ⟨k + 1, st2, F2, G2, A2, C2, lv2, xv2, hlt, by go_num, (HK4.out.keep hb).more (by omega)⟩
        clear HK1 HK2 HK3 HYL HYL2 HYL3 HYL4 KD HCk HFd
        rcases HLg.out with ⟨rfl, rfl, -, -⟩ | ⟨p, q, o', N, s, bb, rfl, rfl, rfl, rfl, h1, h8, hs, hL, hR, -, -, -, -⟩
        · obtain ⟨b0, b1, b2, b3, b4, b5⟩ := HBx.out
          clear HLg HBx HK4
          go_wp2_with fail
          go_quiet (fail)
          have HE := hide (HEnd.out _ (below_drewN (Below.refl _ z4) nq))
          generalize z4.drewN nq = z5 at *
          clear b0 b1 b2 b3 b4 b5
          have hw1 := HW1.out
          go_wp2
          go_roundw
          case rel => exact HE.out
          case measure => simp [intOf]; omega
        · obtain ⟨b0, b1, b2, b3, b4, b5⟩ := HBx.out
          have r3 := hR.c3
          have KLn := hide (fun t => len_any p pd o' N s bb (z4.drewN t) hL)
          have KRm := hide (fun t => room_any p pd o' N s bb (z4.drewN t) hL (by omega) hs)
          obtain ⟨hm1, hm2⟩ := room_iwrap (show N ≤ 8 by omega) hs
          clear HLg HBx HK4 hL hR h1 h8 hs
          go_wp2_with fail
          go_quiet ((first | (go_at_call 16; exact Calls.quiet_of_same (KLn.out _)) | (go_at_call 17; exact Calls.quiet_of (KRm.out _))))
          have HE := hide (HEnd.out _ (below_drewN (Below.refl _ z4) nq))
          generalize z4.drewN nq = z5 at *
          clear b0 b1 b2 b3 b4 b5 r3
          have hw1 := HW1.out
          go_wp2
          go_roundw
          case rel => exact HE.out
          case measure => simp [intOf]; omega
      · have hkl : k = l.length := by omega
        subst hkl
        have HB := hide hF.core.below
        clear hF
        go_wp2_with fail
        refine (KA.out _).mono ?_
        rintro e w9 ⟨rfl, hb9⟩
        have HB9 := hide (bnext HB.out hb9)
        clear hb9
        go_wp2
        go_ret
        exact ⟨rfl, HB9.out⟩
end Go.Proofs.Ytelkccfjeinlcaa
