/- The law WalPlays: one step of both. The law WalPlays: steps of both: Fuse, Write, open, Clear. -/
import Derived.Test.YtelkccfjeinlcaaGPlA
import Derived.Test.YtelkccfjeinlcaaG1Keeps0
namespace Go.Proofs.Ytelkccfjeinlcaa
open Go Go.RowKit Frm Go.Shelf
theorem Logs.first {w u v : World} {B pd pr : Nat} {o n : Int} {F F' G A C : Nat → Prop} {lv xv : Value} (h : Logs u pd pr o n F G lv xv A C) (hc : Core w B A C u) (hl : Loc F F' u v) (hlt : ∀ k, F' k → k < v.heap.size) : ∃ A', Logs v pd pr o n F' G lv xv A' C ∧ Core w B A' C v := by
  rcases h with ⟨e1, e2, e3, e4⟩ | ⟨p, x, o', N, s, b, e1, e2, e3, e4, e5, e6, e7, hL, hR, e8, e9, e10, e11⟩
  · subst e3
    exact ⟨F', Or.inl ⟨e1, e2, rfl, e4⟩, hc.stepA hl hlt⟩
  · subst e10
    obtain ⟨hL', hp'⟩ := hL.loc hl e8
    have hx : ¬ F x := fun hf => hc.aC x (Or.inl hf) (by rw [e11]; exact Or.inr rfl)
    refine ⟨fun k => F' k ∨ k = p, Or.inr ⟨p, x, o', N, s, b, e1, e2, e3, e4, e5, e6, e7, hL', hR.same (hl.block x hR.lt hx), hp', e9, rfl, e11⟩, hc.stepA (hl.or (P := fun k => k = p)) (fun k hk => ?_)⟩
    rcases hk with h1 | rfl
    · exact hlt k h1
    · exact hL'.lt
theorem Logs.second {w u v : World} {B pd pr : Nat} {o n : Int} {F G G' A C : Nat → Prop} {lv xv : Value} (h : Logs u pd pr o n F G lv xv A C) (hc : Core w B A C u) (hl : Loc G G' u v) (hlt : ∀ k, G' k → k < v.heap.size) : ∃ C', Logs v pd pr o n F G' lv xv A C' ∧ Core w B A C' v := by
  rcases h with ⟨e1, e2, e3, e4⟩ | ⟨p, x, o', N, s, b, e1, e2, e3, e4, e5, e6, e7, hL, hR, e8, e9, e10, e11⟩
  · subst e4
    exact ⟨G', Or.inl ⟨e1, e2, e3, rfl⟩, hc.stepC hl hlt⟩
  · subst e11
    have hR' : RLAt v x pr o' N s b := hR.same (hl.block x hR.lt e9)
    have hx' : ¬ G' x := fun hf => by
      rcases hl.own x hf with h1 | h1
      · exact e9 h1
      · have := hR.lt; omega
    have hp : ¬ G p := fun hf => hc.aC p (by rw [e10]; exact Or.inr rfl) (Or.inl hf)
    refine ⟨fun k => G' k ∨ k = x, Or.inr ⟨p, x, o', N, s, b, e1, e2, e3, e4, e5, e6, e7, hL.same (hl.block p hL.lt hp), hR', e8, hx', e10, rfl⟩, hc.stepC (hl.or (P := fun k => k = x)) (fun k hk => ?_)⟩
    rcases hk with h1 | rfl
    · exact hlt k h1
    · exact hR'.lt
/-- The box of the step. -/
def SBox (u : World) (S : Nat) (x : Stp) : Prop := u.heap[S]? = some (.cells #[.int .u8 (x.act : Int), .string x.text, .int .u8 (x.times : Int), .int .i64 x.n, .slice x.pa x.picks.length x.pc] 40 (0, 0))
theorem SBox.cells {u : World} {S : Nat} {x : Stp} (h : SBox u S x) : u.cell? ⟨S, 0, none⟩ = some (.int .u8 (x.act : Int)) ∧ u.cell? ⟨S, 1, none⟩ = some (.string x.text) ∧ u.cell? ⟨S, 2, none⟩ = some (.int .u8 (x.times : Int)) ∧ u.cell? ⟨S, 3, none⟩ = some (.int .i64 x.n) ∧ u.cell? ⟨S, 4, none⟩ = some (.slice x.pa x.picks.length x.pc) := by
  have e : u.heap[S]? = _ := h
  refine ⟨?_, ?_, ?_, ?_, ?_⟩ <;> simp [World.cell?, e]
theorem SBox.lt {u : World} {S : Nat} {x : Stp} (h : SBox u S x) : S < u.heap.size := (Array.getElem?_eq_some_iff.1 h).1
/-- Both disks with their logs, in the midst of a step: the program's is st', the document's st. -/
structure Mid (w : World) (B pd pr : Nat) (o n : Int) (st st' : St) (F G A C : Nat → Prop) (lv xv : Value) (S : Nat) (x : Stp) (u : World) : Prop where
  d : DAt u pd st' F
  r : RD u pr st G
  core : Core w B A C u
  box : BAt u B pd pr lv xv o n
  logs : Logs u pd pr o n F G lv xv A C
  step : SBox u S x
  sA : ¬ A S
  sC : ¬ C S
  sB : S ≠ B
theorem Logs.fA {u : World} {pd pr : Nat} {o n : Int} {F G A C : Nat → Prop} {lv xv : Value} (h : Logs u pd pr o n F G lv xv A C) : (∀ k, F k → A k) ∧ ∀ k, G k → C k := by
  rcases h with ⟨_, _, e3, e4⟩ | ⟨p, x, o', N, s, b, _, _, _, _, _, _, _, _, _, _, _, e10, e11⟩
  · rw [e3, e4]; exact ⟨fun _ h => h, fun _ h => h⟩
  · rw [e10, e11]; exact ⟨fun _ h => Or.inl h, fun _ h => Or.inl h⟩
theorem Mid.start {w : World} {B pd pr : Nat} {o n : Int} {st : St} {c : Nat} {F G A C : Nat → Prop} {lv xv : Value} {u : World} (h : Full w B pd pr o n st c F G A C lv xv u) (x : Stp) : Mid w B pd pr o n st st F G A C lv xv u.heap.size x (u.alloc (.cells #[.int .u8 (x.act : Int), .string x.text, .int .u8 (x.times : Int), .int .i64 x.n, .slice x.pa x.picks.length x.pc] 40)) := by
  have h5 := h.keep ((Below.refl _ u).alloc (Nat.le_refl _) (.cells #[.int .u8 (x.act : Int), .string x.text, .int .u8 (x.times : Int), .int .i64 x.n, .slice x.pa x.picks.length x.pc] 40))
  exact ⟨h5.d, h5.r, h5.core, h5.box, h5.logs, heap_alloc_last u _, fun hf => Nat.lt_irrefl _ (h.core.aLt _ hf), fun hf => Nat.lt_irrefl _ (h.core.cLt _ hf), fun e => by have := h.core.bLt; omega⟩
theorem Mid.keep {w : World} {B pd pr : Nat} {o n : Int} {st st' : St} {F G A C : Nat → Prop} {lv xv : Value} {S : Nat} {x : Stp} {u v : World} (h : Mid w B pd pr o n st st' F G A C lv xv S x u) (hb : Below u.heap.size u v) : Mid w B pd pr o n st st' F G A C lv xv S x v := by
  refine ⟨con.below h.d hb, h.r.below hb, h.core.keep hb, h.box.same (hb.block B h.box.lt), ?_, (hb.block S h.step.lt).trans h.step, h.sA, h.sC, h.sB⟩
  rcases h.logs with h1 | ⟨p, x, o', N, s, b, e1, e2, e3, e4, e5, e6, e7, hL, hR, e8, e9, e10, e11⟩
  · exact Or.inl h1
  · exact Or.inr ⟨p, x, o', N, s, b, e1, e2, e3, e4, e5, e6, e7, hL.same (hb.block p hL.lt), hR.same (hb.block x hR.lt), e8, e9, e10, e11⟩
theorem Mid.first {w : World} {B pd pr : Nat} {o n : Int} {st st' st2 : St} {F F' G A C : Nat → Prop} {lv xv : Value} {S : Nat} {x : Stp} {u v : World} (h : Mid w B pd pr o n st st' F G A C lv xv S x u) (hd : DAt v pd st2 F') (hl : Loc F F' u v) : ∃ A', Mid w B pd pr o n st st2 F' G A' C lv xv S x v := by
  obtain ⟨A', hL, hC⟩ := h.logs.first h.core hl (con.lt hd)
  have hfA := h.logs.fA
  have hSF : ¬ F S := fun hf => h.sA (hfA.1 S hf)
  refine ⟨A', hd, h.r.same (hl.other (fun k h1 h2 => h.core.aC k (hfA.1 k h1) (hfA.2 k h2)) h.r.lt), hC, h.box.same (hl.block B h.core.bLt (fun hf => h.core.aB (hfA.1 B hf))), hL, (hl.block S h.step.lt hSF).trans h.step, fun hf => ?_, h.sC, h.sB⟩
  have hS' : ¬ F' S := fun hf => by
    rcases hl.own S hf with h1 | h1
    · exact hSF h1
    · have := h.step.lt; omega
  rcases hL with ⟨_, _, e3, _⟩ | ⟨p, x', o', N, s, b, e1, _, _, _, _, _, _, _, _, _, _, e10, _⟩
  · rw [e3] at hf; exact hS' hf
  · rw [e10] at hf
    rcases hf with hf | hf
    · exact hS' hf
    · rcases h.logs with ⟨e1', _⟩ | ⟨p2, _, _, _, _, _, e1', _, _, _, _, _, _, _, _, _, _, e10', _⟩
      · rw [e1'] at e1; cases e1
      · rw [e1'] at e1
        cases e1
        exact h.sA (by rw [e10']; exact Or.inr hf)
theorem Mid.then {w : World} {B pd pr : Nat} {o n : Int} {st st' : St} {c : Nat} {F G G' A C : Nat → Prop} {lv xv : Value} {S : Nat} {x : Stp} {u v : World} (h : Mid w B pd pr o n st st' F G A C lv xv S x u) (hf : Form 8 c st') (hr : RD v pr st' G') (hl : Loc G G' u v) : ∃ C', Full w B pd pr o n st' c F G' A C' lv xv v := by
  obtain ⟨C', hL, hC⟩ := h.logs.second h.core hl hr.lt
  have hfA := h.logs.fA
  exact ⟨C', hf, con.same h.d (hl.other (fun k h1 h2 => h.core.aC k (hfA.1 k h2) (hfA.2 k h1)) (con.lt h.d)), hr, hC, h.box.same (hl.block B h.core.bLt (fun hf => h.core.cB (hfA.2 B hf))), hL⟩
theorem Mid.c01 {w : World} {B pd pr : Nat} {o n : Int} {st st' : St} {F G A C : Nat → Prop} {lv xv : Value} {S : Nat} {x : Stp} {u : World} (h : Mid w B pd pr o n st st' F G A C lv xv S x u) : u.cell? ⟨B, 0, none⟩ = some (.pointer (some ⟨pd, 0, none⟩)) ∧ u.cell? ⟨B, 1, none⟩ = some (.pointer (some ⟨pr, 0, none⟩)) := ⟨h.box.cells.1, h.box.cells.2.1⟩
theorem Full.c01 {w : World} {B pd pr : Nat} {o n : Int} {st : St} {c : Nat} {F G A C : Nat → Prop} {lv xv : Value} {u : World} (h : Full w B pd pr o n st c F G A C lv xv u) : u.cell? ⟨B, 0, none⟩ = some (.pointer (some ⟨pd, 0, none⟩)) ∧ u.cell? ⟨B, 1, none⟩ = some (.pointer (some ⟨pr, 0, none⟩)) := ⟨h.box.cells.1, h.box.cells.2.1⟩
theorem mod7 (a k : Nat) (h : a % 7 = k) : Int.tmod (a : Int) 7 = (k : Int) := by rw [Int.tmod_eq_emod_of_nonneg (by omega)]; omega
set_option maxRecDepth 10000 in
set_option maxHeartbeats 2000000 in
theorem bdoes1 (w u : World) (B pd pr : Nat) (o n : Int) (st : St) (c : Nat) (F G A C : Nat → Prop) (lv xv : Value) (x : Stp) (h : Full w B pd pr o n st c F G A C lv xv u) (hc : c ≤ 9000) (hx : x.Ok) (ha : x.act % 7 = 1) :
    Calls Try.prog 12 #[.pointer (some ⟨B, 0, none⟩), x.val] u (OpenSays w B pd pr o n (c + 32)) := by
  have hm := mod7 x.act 1 ha
  have hact := hx.act
  have HM := hide (Mid.start h x)
  have HF := hide h.form
  obtain ⟨s0, s1, s2, s3, s4⟩ := HM.out.step.cells
  clear h hx ha
  unfold Stp.val
  have K1 := hide (fun v (hd : DAt v pd st F) => con.sync pd st F v hd HF.out.ok (by have := HF.out.few; omega))
  have K2 := hide (fun v (hd : RD v pr st G) => rd_sync pr st G v hd HF.out.ok (by have := HF.out.few; omega))
  have HF2 := hide (HF.out.sync.more (show c ≤ c + 32 by omega))
  generalize st.sync = R at *
  go_enter Try.func12, Try.ntmps12
  go_wp2_with fail
  generalize u.alloc (.cells #[.int .u8 (x.act : Int), .string x.text, .int .u8 (x.times : Int), .int .i64 x.n, .slice x.pa x.picks.length x.pc] 40) = U at *
  clear s0 s1 s2 s3 s4
  have K := HM.out.keep ((Below.refl _ _).drew)
  go_region_held3 (fun z => z.cell? ⟨B, 0, none⟩ = some (.pointer (some ⟨pd, 0, none⟩)) ∧ z.cell? ⟨B, 1, none⟩ = some (.pointer (some ⟨pr, 0, none⟩)))
    ((first | (with_reducible exact Mid.c01 K) | (with_reducible exact Full.c01 K)))
    (first
      | (go_at_call 22; refine (K1.out _ K.d).mono ?_; rintro e z1 ⟨rfl, F1, hd1, hl1⟩; obtain ⟨A1, K⟩ := Mid.first K hd1 hl1)
      | (go_at_call 28; refine (K2.out _ K.r).mono ?_; rintro e z2 ⟨rfl, G1, hr2, hl2⟩; obtain ⟨C1, K⟩ := Mid.then K HF2.out hr2 hl2))
  all_goals
    have HK := hide K
    clear K
    go_wp2
    go_ret
    exact ⟨by simp, _, _, _, _, _, _, _, HK.out⟩
end Go.Proofs.Ytelkccfjeinlcaa
namespace Go.Proofs.Ytelkccfjeinlcaa
open Go Go.RowKit Frm Go.Shelf
theorem Mid.thenM {w : World} {B pd pr : Nat} {o n : Int} {st st' : St} {F G G' A C : Nat → Prop} {lv xv : Value} {S : Nat} {x : Stp} {u v : World} (h : Mid w B pd pr o n st st' F G A C lv xv S x u) (hr : RD v pr st' G') (hl : Loc G G' u v) : ∃ C', Mid w B pd pr o n st' st' F G' A C' lv xv S x v := by
  obtain ⟨C', hL, hC⟩ := h.logs.second h.core hl hr.lt
  have hfA := h.logs.fA
  have hSG : ¬ G S := fun hf => h.sC (hfA.2 S hf)
  refine ⟨C', con.same h.d (hl.other (fun k h1 h2 => h.core.aC k (hfA.1 k h2) (hfA.2 k h1)) (con.lt h.d)), hr, hC, h.box.same (hl.block B h.core.bLt (fun hf => h.core.cB (hfA.2 B hf))), hL, (hl.block S h.step.lt hSG).trans h.step, h.sA, fun hf => ?_, h.sB⟩
  have hS' : ¬ G' S := fun hf => by
    rcases hl.own S hf with h1 | h1
    · exact hSG h1
    · have := h.step.lt; omega
  rcases hL with ⟨_, _, _, e4⟩ | ⟨p, x', o', N, s, b, _, e2, _, _, _, _, _, _, _, _, _, _, e11⟩
  · rw [e4] at hf; exact hS' hf
  · rw [e11] at hf
    rcases hf with hf | hf
    · exact hS' hf
    · rcases h.logs with ⟨_, e2', _⟩ | ⟨_, x2, _, _, _, _, _, e2', _, _, _, _, _, _, _, _, _, _, e11'⟩
      · rw [e2'] at e2; cases e2
      · rw [e2'] at e2
        cases e2
        exact h.sC (by rw [e11']; exact Or.inr hf)
theorem Mid.full {w : World} {B pd pr : Nat} {o n : Int} {st : St} {c : Nat} {F G A C : Nat → Prop} {lv xv : Value} {S : Nat} {x : Stp} {u : World} (h : Mid w B pd pr o n st st F G A C lv xv S x u) (hf : Form 8 c st) : Full w B pd pr o n st c F G A C lv xv u := ⟨hf, h.d, h.r, h.core, h.box, h.logs⟩
theorem Mid.says {w : World} {B pd pr : Nat} {o n : Int} {st : St} {c : Nat} {F G A C : Nat → Prop} {lv xv : Value} {S : Nat} {x : Stp} {u : World} (h : Mid w B pd pr o n st st F G A C lv xv S x u) (hf : Form 8 c st) : OpenSays w B pd pr o n c (.returned (.bool true)) u := ⟨rfl, _, _, _, _, _, _, _, h.full hf⟩
theorem OpenSays.more {w : World} {B pd pr : Nat} {o n : Int} {c c' : Nat} {e : Ending} {v : World} (h : OpenSays w B pd pr o n c e v) (hc : c ≤ c') : OpenSays w B pd pr o n c' e v := by
  obtain ⟨he, st, F, G, A, C, lv, xv, hF⟩ := h
  exact ⟨he, st, F, G, A, C, lv, xv, hF.more hc⟩
/-- All cells that a step reads. -/
def Sees (B pd pr : Nat) (o n : Int) (S : Nat) (x : Stp) (u : World) : Prop :=
  u.cell? ⟨B, 0, none⟩ = some (.pointer (some ⟨pd, 0, none⟩)) ∧ u.cell? ⟨B, 1, none⟩ = some (.pointer (some ⟨pr, 0, none⟩)) ∧ u.cell? ⟨B, 4, none⟩ = some (.int .i64 o) ∧ u.cell? ⟨B, 5, none⟩ = some (.int .i64 n) ∧ u.cell? ⟨S, 1, none⟩ = some (.string x.text) ∧ u.cell? ⟨S, 3, none⟩ = some (.int .i64 x.n) ∧ u.cell? ⟨S, 4, none⟩ = some (.slice x.pa x.picks.length x.pc)
theorem Mid.sees {w : World} {B pd pr : Nat} {o n : Int} {st st' : St} {F G A C : Nat → Prop} {lv xv : Value} {S : Nat} {x : Stp} {u : World} (h : Mid w B pd pr o n st st' F G A C lv xv S x u) : Sees B pd pr o n S x u := ⟨h.box.cells.1, h.box.cells.2.1, h.box.cells.2.2.2.2.1, h.box.cells.2.2.2.2.2, h.step.cells.2.1, h.step.cells.2.2.2.1, h.step.cells.2.2.2.2⟩
theorem Mid.c0s3 {w : World} {B pd pr : Nat} {o n : Int} {st st' : St} {F G A C : Nat → Prop} {lv xv : Value} {S : Nat} {x : Stp} {u : World} (h : Mid w B pd pr o n st st' F G A C lv xv S x u) : u.cell? ⟨B, 0, none⟩ = some (.pointer (some ⟨pd, 0, none⟩)) ∧ u.cell? ⟨B, 1, none⟩ = some (.pointer (some ⟨pr, 0, none⟩)) ∧ u.cell? ⟨S, 3, none⟩ = some (.int .i64 x.n) := ⟨h.box.cells.1, h.box.cells.2.1, h.step.cells.2.2.2.1⟩
theorem Mid.c01s13 {w : World} {B pd pr : Nat} {o n : Int} {st st' : St} {F G A C : Nat → Prop} {lv xv : Value} {S : Nat} {x : Stp} {u : World} (h : Mid w B pd pr o n st st' F G A C lv xv S x u) : u.cell? ⟨B, 0, none⟩ = some (.pointer (some ⟨pd, 0, none⟩)) ∧ u.cell? ⟨B, 1, none⟩ = some (.pointer (some ⟨pr, 0, none⟩)) ∧ u.cell? ⟨S, 1, none⟩ = some (.string x.text) ∧ u.cell? ⟨S, 3, none⟩ = some (.int .i64 x.n) := ⟨h.box.cells.1, h.box.cells.2.1, h.step.cells.2.1, h.step.cells.2.2.2.1⟩
theorem Mid.c0145 {w : World} {B pd pr : Nat} {o n : Int} {st st' : St} {F G A C : Nat → Prop} {lv xv : Value} {S : Nat} {x : Stp} {u : World} (h : Mid w B pd pr o n st st' F G A C lv xv S x u) : u.cell? ⟨B, 0, none⟩ = some (.pointer (some ⟨pd, 0, none⟩)) ∧ u.cell? ⟨B, 1, none⟩ = some (.pointer (some ⟨pr, 0, none⟩)) ∧ u.cell? ⟨B, 4, none⟩ = some (.int .i64 o) ∧ u.cell? ⟨B, 5, none⟩ = some (.int .i64 n) := ⟨h.box.cells.1, h.box.cells.2.1, h.box.cells.2.2.2.2.1, h.box.cells.2.2.2.2.2⟩
theorem Full.c0145 {w : World} {B pd pr : Nat} {o n : Int} {st : St} {c : Nat} {F G A C : Nat → Prop} {lv xv : Value} {u : World} (h : Full w B pd pr o n st c F G A C lv xv u) : u.cell? ⟨B, 0, none⟩ = some (.pointer (some ⟨pd, 0, none⟩)) ∧ u.cell? ⟨B, 1, none⟩ = some (.pointer (some ⟨pr, 0, none⟩)) ∧ u.cell? ⟨B, 4, none⟩ = some (.int .i64 o) ∧ u.cell? ⟨B, 5, none⟩ = some (.int .i64 n) := ⟨h.box.cells.1, h.box.cells.2.1, h.box.cells.2.2.2.2.1, h.box.cells.2.2.2.2.2⟩
set_option maxRecDepth 10000 in
set_option maxHeartbeats 2000000 in
theorem bdoes5 (w u : World) (B pd pr : Nat) (o n : Int) (st : St) (c : Nat) (F G A C : Nat → Prop) (lv xv : Value) (x : Stp) (h : Full w B pd pr o n st c F G A C lv xv u) (hc : c ≤ 9000) (hn : -9223372036854775808 ≤ n ∧ n ≤ 9223372036854775807) (hx : x.Ok) (ha : x.act % 7 = 5) :
    Calls Try.prog 12 #[.pointer (some ⟨B, 0, none⟩), x.val] u (OpenSays w B pd pr o n (c + 32)) := by
  have hm := mod7 x.act 5 ha
  have hact := hx.act
  have HM := hide (Mid.start h x)
  obtain ⟨s0, s1, s2, s3, s4⟩ := HM.out.step.cells
  have KO := hide (both_open w _ B pd pr o n st c F G lv xv (HM.out.full h.form).disks (by omega) hn)
  clear h hx ha
  unfold Stp.val
  go_enter Try.func12, Try.ntmps12
  go_wp2_with fail
  refine KO.out.mono ?_
  rintro e v ⟨rfl, hK⟩
  have HK : Hid (OpenSays w B pd pr o n (c + 32) (.returned (.bool true)) v) := OpenSays.more (c := c + 16) ⟨rfl, hK⟩ (by omega)
  clear hK
  go_wp2
  go_ret
  exact HK.out
set_option maxRecDepth 10000 in
set_option maxHeartbeats 2000000 in
theorem bdoes3 (w u : World) (B pd pr : Nat) (o n : Int) (st : St) (c : Nat) (F G A C : Nat → Prop) (lv xv : Value) (x : Stp) (h : Full w B pd pr o n st c F G A C lv xv u) (hx : x.Ok) (ha : x.act % 7 = 3) :
    Calls Try.prog 12 #[.pointer (some ⟨B, 0, none⟩), x.val] u (OpenSays w B pd pr o n (c + 32)) := by
  have hm := mod7 x.act 3 ha
  have hact := hx.act
  have HM := hide (Mid.start h x)
  have HF := hide h.form
  obtain ⟨s0, s1, s2, s3, s4⟩ := HM.out.step.cells
  have K1 := hide (fun v (hd : DAt v pd st F) => con.fuse pd st F x.n v hd HF.out.ok hx.n)
  have K2 := hide (fun v (hd : RD v pr st G) => rd_fuse pr st G x.n v hd hx.n.2)
  have HF2 := hide ((HF.out.fuse x.n hx.n.2).more (show c ≤ c + 32 by omega))
  clear h hx ha
  unfold Stp.val
  generalize st.fuse x.n = R at *
  go_enter Try.func12, Try.ntmps12
  go_wp2_with fail
  generalize u.alloc (.cells #[.int .u8 (x.act : Int), .string x.text, .int .u8 (x.times : Int), .int .i64 x.n, .slice x.pa x.picks.length x.pc] 40) = U at *
  generalize u.heap.size = S at *
  clear s0 s1 s2 s3 s4
  have K := HM.out.keep ((Below.refl _ _).drew)
  go_region_held3 (fun z => z.cell? ⟨B, 0, none⟩ = some (.pointer (some ⟨pd, 0, none⟩)) ∧ z.cell? ⟨B, 1, none⟩ = some (.pointer (some ⟨pr, 0, none⟩)) ∧ z.cell? ⟨S, 3, none⟩ = some (.int .i64 x.n))
    ((with_reducible exact Mid.c0s3 K))
    (first
      | (go_at_call 24; refine (K1.out _ K.d).mono ?_; rintro e z1 ⟨rfl, F1, hd1, hl1⟩; obtain ⟨A1, K⟩ := Mid.first K hd1 hl1))
  all_goals
    have HK := hide K
    clear K
    go_wp2_with fail
    have K := HK.out.keep ((Below.refl _ _).drew)
    go_region_held3 (fun z => z.cell? ⟨B, 0, none⟩ = some (.pointer (some ⟨pd, 0, none⟩)) ∧ z.cell? ⟨B, 1, none⟩ = some (.pointer (some ⟨pr, 0, none⟩)) ∧ z.cell? ⟨S, 3, none⟩ = some (.int .i64 x.n))
      ((with_reducible exact Mid.c0s3 K))
      (first
        | (go_at_call 30; refine (K2.out _ K.r).mono ?_; rintro e z2 ⟨⟨v2, rfl⟩, hr2, hl2⟩; obtain ⟨C1, K⟩ := Mid.thenM K hr2 hl2))
    all_goals
      have HE := hide (K.says HF2.out)
      clear K
      go_wp2
      go_ret
      exact HE.out
set_option maxRecDepth 10000 in
set_option maxHeartbeats 4000000 in
theorem bdoes4 (w u : World) (B pd pr : Nat) (o n : Int) (st : St) (c : Nat) (F G A C : Nat → Prop) (lv xv : Value) (x : Stp) (h : Full w B pd pr o n st c F G A C lv xv u) (hc : c ≤ 9000) (hx : x.Ok) (ht : x.text.size ≤ 100000) (ha : x.act % 7 = 4) :
    Calls Try.prog 12 #[.pointer (some ⟨B, 0, none⟩), x.val] u (OpenSays w B pd pr o n (c + 32)) := by
  have hm := mod7 x.act 4 ha
  have hact := hx.act
  have HM := hide (Mid.start h x)
  have HF := hide h.form
  obtain ⟨s0, s1, s2, s3, s4⟩ := HM.out.step.cells
  have KD := hide (fun v => data_any x.text v ht)
  have K1 := hide (fun v (hd : DAt v pd st F) => con.write pd st F x.n (dataOf x.text) v hd HF.out.ok (by have := HF.out.few; omega) hx.n (by rw [dataOf_size]; omega))
  have K2 := hide (fun v (hd : RD v pr st G) => rd_write pr st G x.n (dataOf x.text) v hd HF.out.ok (by have := HF.out.few; omega))
  have HF2 := hide ((HF.out.write x.n (dataOf x.text)).more (show c + 1 ≤ c + 32 by omega))
  clear h hx ha ht
  unfold Stp.val
  generalize st.write x.n (dataOf x.text) = R at *
  generalize dataOf x.text = D at *
  go_enter Try.func12, Try.ntmps12
  go_wp2_with fail
  generalize u.alloc (.cells #[.int .u8 (x.act : Int), .string x.text, .int .u8 (x.times : Int), .int .i64 x.n, .slice x.pa x.picks.length x.pc] 40) = U at *
  generalize u.heap.size = S at *
  clear s0 s1 s2 s3 s4
  have K := HM.out.keep ((Below.refl _ _).drew)
  go_region_held3 (fun z => z.cell? ⟨B, 0, none⟩ = some (.pointer (some ⟨pd, 0, none⟩)) ∧ z.cell? ⟨B, 1, none⟩ = some (.pointer (some ⟨pr, 0, none⟩)) ∧ z.cell? ⟨S, 1, none⟩ = some (.string x.text) ∧ z.cell? ⟨S, 3, none⟩ = some (.int .i64 x.n))
    ((with_reducible exact Mid.c01s13 K))
    (first
      | (go_at_call 32; refine (KD.out _).mono ?_; rintro e z1 ⟨rfl, hb1⟩; have K := Mid.keep K hb1)
      | (go_at_call 31; refine (K1.out _ K.d).mono ?_; rintro e z2 ⟨rfl, F1, hd1, hl1⟩; obtain ⟨A1, K⟩ := Mid.first K hd1 hl1)
      | (go_at_call 33; refine (K2.out _ K.r).mono ?_; rintro e z3 ⟨rfl, G1, hr2, hl2⟩; obtain ⟨C1, K⟩ := Mid.thenM K hr2 hl2))
  all_goals
    have HE := hide (K.says HF2.out)
    clear K
    go_wp2
    go_ret
    exact HE.out
set_option maxRecDepth 10000 in
set_option maxHeartbeats 4000000 in
theorem bdoes6a (w u : World) (B pd pr : Nat) (o n : Int) (st : St) (R : Nat × St) (c : Nat) (F G A C : Nat → Prop) (lv xv : Value) (x : Stp) (h : Full w B pd pr o n st c F G A C lv xv u) (hc : c ≤ 9000) (hn : -9223372036854775808 ≤ n ∧ n ≤ 9223372036854775807) (hx : x.Ok) (ha : x.act % 7 = 6) (hf : Form 8 (c + 8) R.2)
    (k1 : ∀ v, DAt v pd st F → Calls Try.prog 18 #[.pointer (some ⟨pd, 0, none⟩), .int .i64 o, .int .i64 n] v fun e v' => e = .returned (.int .i64 ((R.1 : Nat) : Int)) ∧ ∃ F', DAt v' pd R.2 F' ∧ Loc F F' v v')
    (k2 : ∀ v, RD v pr st G → Calls Try.prog 34 #[.pointer (some ⟨pr, 0, none⟩), .int .i64 o, .int .i64 n] v fun e v' => e = .returned (.int .i64 ((R.1 : Nat) : Int)) ∧ ∃ G', RD v' pr R.2 G' ∧ Loc G G' v v') :
    Calls Try.prog 12 #[.pointer (some ⟨B, 0, none⟩), x.val] u (OpenSays w B pd pr o n (c + 32)) := by
  have hm := mod7 x.act 6 ha
  have hact := hx.act
  have HM := hide (Mid.start h x)
  obtain ⟨s0, s1, s2, s3, s4⟩ := HM.out.step.cells
  have K1 := hide k1
  have K2 := hide k2
  have HF2 := hide hf
  have KO := hide (fun v F' G' A' C' (hF : Full w B pd pr o n R.2 (c + 8) F' G' A' C' lv xv v) => both_open w v B pd pr o n R.2 (c + 8) F' G' lv xv hF.disks (by omega) hn)
  clear h hx ha k1 k2 hf
  unfold Stp.val
  go_enter Try.func12, Try.ntmps12
  go_wp2_with fail
  generalize u.alloc (.cells #[.int .u8 (x.act : Int), .string x.text, .int .u8 (x.times : Int), .int .i64 x.n, .slice x.pa x.picks.length x.pc] 40) = U at *
  generalize u.heap.size = S at *
  clear s0 s1 s2 s3 s4
  have K := HM.out.keep ((Below.refl _ _).drew)
  go_region_held3 (fun z => z.cell? ⟨B, 0, none⟩ = some (.pointer (some ⟨pd, 0, none⟩)) ∧ z.cell? ⟨B, 1, none⟩ = some (.pointer (some ⟨pr, 0, none⟩)) ∧ z.cell? ⟨B, 4, none⟩ = some (.int .i64 o) ∧ z.cell? ⟨B, 5, none⟩ = some (.int .i64 n))
    ((first | (with_reducible exact Mid.c0145 K) | (with_reducible exact Full.c0145 K)))
    (first
      | (go_at_call 18; refine (K1.out _ K.d).mono ?_; rintro e z1 ⟨rfl, F1, hd1, hl1⟩; obtain ⟨A1, K⟩ := Mid.first K hd1 hl1)
      | (go_at_call 34; refine (K2.out _ K.r).mono ?_; rintro e z2 ⟨rfl, G1, hr2, hl2⟩; obtain ⟨C1, K⟩ := Mid.then K HF2.out hr2 hl2)
      | (go_at_call 11; refine (KO.out _ _ _ _ _ K).mono ?_; rintro e z3 ⟨rfl, st3, F3, G3, A3, C3, lv3, xv3, K⟩))
  all_goals
    have HE : Hid (OpenSays w B pd pr o n (c + 32) (.returned (.bool true)) _) := OpenSays.more (c := c + 8 + 16) ⟨rfl, st3, F3, G3, A3, C3, lv3, xv3, K⟩ (by omega)
    clear K
    go_wp2
    go_ret
    exact HE.out
theorem bdoes6 (w u : World) (B pd pr : Nat) (o n : Int) (st : St) (c : Nat) (F G A C : Nat → Prop) (lv xv : Value) (x : Stp) (h : Full w B pd pr o n st c F G A C lv xv u) (hc : c ≤ 9000) (hn : -9223372036854775808 ≤ n ∧ n ≤ 9223372036854775807) (hx : x.Ok) (ha : x.act % 7 = 6) :
    Calls Try.prog 12 #[.pointer (some ⟨B, 0, none⟩), x.val] u (OpenSays w B pd pr o n (c + 32)) := by
  have hok := h.form.ok
  have hlen := h.form.len
  have hfew := h.form.few
  by_cases hm : st.may o n
  · obtain ⟨o', N, rfl, rfl, h1, h8⟩ : ∃ o' N : Nat, o = (o' : Int) ∧ n = (N : Int) ∧ 1 ≤ N ∧ o' + N ≤ 8 := by
      unfold St.may at hm
      rw [hlen] at hm
      exact ⟨o.toNat, n.toNat, by omega, by omega, by omega, by omega⟩
    exact bdoes6a w u B pd pr o' N st (walClear st o' N) c F G A C lv xv x h hc hn hx ha ((h.form.clear o' N).more (by omega)) (fun v hd => clear_any pd o' N st F v hd hok (by omega) (by omega) h1) (fun v hd => rClear pr o' N st G v hd hok (by omega) (by omega) h1)
  · refine bdoes6a w u B pd pr o n st (2, st) c F G A C lv xv x h hc hn hx ha (h.form.more (by omega)) (fun v hd => (clear_not pd o n st F v hd hok hn hm).mono ?_) (fun v hd => (rClear_not pr o n st G v hd hok hm).mono ?_)
    · rintro e v' ⟨rfl, hb⟩
      exact ⟨rfl, F, con.below hd hb, Loc.of_below _ hb⟩
    · rintro e v' ⟨rfl, hw⟩
      obtain rfl := hw.symm
      exact ⟨rfl, G, hd, Loc.refl _ _⟩
end Go.Proofs.Ytelkccfjeinlcaa
