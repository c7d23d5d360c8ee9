/- The document's own stores: Blocks, may, log, Make. The document's own stores: Make, Open. The document's own stores: Open. The document's own stores: told, Append, Sync. The document's own stores: Trim. What the laws ask of the program's stores: a structure of contracts. The program's stores: Blocks, areas, what lies in memory. The program's stores: what is done under guard. The program's stores: steps one by one. The program's stores: steps that clear and save. The program's stores: an area's log, opened. The program's stores: the last step of goOn. -/
import Derived.Test.YtchhojkhfdkhfaaGreatDoorM02
import Derived.Test.YtchhojkhfdkhfaaGreatDoorM34
import Derived.Test.YtchhojkhfdkhfaaGreatDoorM25
import Derived.Test.YtchhojkhfdkhfaaGreatDoorM04
import Derived.Test.YtchhojkhfdkhfaaGreatDoorM31
import Derived.Test.YtchhojkhfdkhfaaGreatDoorM26
import Derived.Test.YtchhojkhfdkhfaaGreatDoorM15
import Derived.Test.YtchhojkhfdkhfaaGreatDoorM21
namespace Go.Proofs.YtchhojkhfdkhfaaGreatDoor
open Go Go.RowKit Frm
def confV (ck lg : Int) : Value := .agg #[.int .i64 ck, .int .i64 lg]
theorem blocks_pos {ck lg : Int} (h : blocksC ck lg ≠ 0) : 2 ≤ ck ∧ ck ≤ 256 ∧ 1 ≤ lg ∧ lg ≤ 1024 ∧ 2 * ck + 2 * lg ≤ 4096 ∧ blocksC ck lg = 2 * ck + 2 * lg := by
  unfold blocksC at *
  split at h
  · exact absurd rfl h
  · rename_i h1
    rw [if_neg h1]
    split at h
    · exact absurd rfl h
    · rename_i h2
      rw [if_neg h2]
      omega
end Go.Proofs.YtchhojkhfdkhfaaGreatDoor
namespace Go.Proofs.YtchhojkhfdkhfaaGreatDoor
open Go Go.RowKit Frm
theorem mayS_nat {st : St} {ck lg : Int} (h : st.mayS ck lg) : ∃ k l : Nat, ck = (k : Int) ∧ lg = (l : Int) ∧ 2 ≤ k ∧ k ≤ 256 ∧ 1 ≤ l ∧ l ≤ 1024 ∧ 2 * k + 2 * l ≤ 4096 ∧ 2 * k + 2 * l ≤ st.sure.length := by
  have q := blocks_pos h.1
  have q2 := h.2
  exact ⟨ck.toNat, lg.toNat, by omega, by omega, by omega, by omega, by omega, by omega, by omega, by omega⟩
theorem cellB8 {u v : World} {a : Addr} {y : Value} (hb : Below u.heap.size u v) (h : u.cell? a = some y) : v.cell? a = some y := (hb.cell (World.block_lt_of_cell? u _ h)).trans h
/-- What a call on the document's disk says. -/
def RSays8 (p : Nat) (F : Nat → Prop) (u : World) (r : Nat × St) (e : Ending) (v : World) : Prop := e = .returned (.int .i64 ((r.1 : Nat) : Int)) ∧ ∃ F', RD v p r.2 F' ∧ Loc F F' u v
theorem cell_same8 {u v : World} {B : Nat} (h : v.heap[B]? = u.heap[B]?) (i : Nat) : v.cell? ⟨B, i, none⟩ = u.cell? ⟨B, i, none⟩ := by simp [World.cell?, h]
/-- The document's disk, and a conf in a box, since w. -/
structure Bx (w : World) (F0 : Nat → Prop) (B p : Nat) (k l : Int) (st : St) (F : Nat → Prop) (u : World) : Prop where
  r : RD u p st F
  b0 : u.cell? ⟨B, 0, none⟩ = some (.int .i64 k)
  b1 : u.cell? ⟨B, 1, none⟩ = some (.int .i64 l)
  nB : ¬ F B
  loc : Loc F0 F w u
theorem Bx.keep {w : World} {F0 : Nat → Prop} {B p : Nat} {k l : Int} {st : St} {F : Nat → Prop} {u v : World} (h : Bx w F0 B p k l st F u) (hb : Below u.heap.size u v) : Bx w F0 B p k l st F v :=
  ⟨h.r.below hb, cellB8 hb h.b0, cellB8 hb h.b1, h.nB, h.loc.trans (Loc.of_below _ hb)⟩
theorem Bx.step {w : World} {F0 : Nat → Prop} {B p : Nat} {k l : Int} {st st2 : St} {F F' : Nat → Prop} {u v : World} (h : Bx w F0 B p k l st F u) (hr : RD v p st2 F') (hl : Loc F F' u v) : Bx w F0 B p k l st2 F' v := by
  have hlt : B < u.heap.size := World.block_lt_of_cell? u _ h.b0
  have hs := hl.block B hlt h.nB
  refine ⟨hr, (cell_same8 hs 0).trans h.b0, (cell_same8 hs 1).trans h.b1, fun hf => ?_, h.loc.trans hl⟩
  rcases hl.own B hf with h1 | h1
  · exact h.nB h1
  · omega
theorem Bx.c01 {w : World} {F0 : Nat → Prop} {B p : Nat} {k l : Int} {st : St} {F : Nat → Prop} {u : World} (h : Bx w F0 B p k l st F u) : u.cell? ⟨B, 0, none⟩ = some (.int .i64 k) ∧ u.cell? ⟨B, 1, none⟩ = some (.int .i64 l) := ⟨h.b0, h.b1⟩
theorem Bx.says {w : World} {F0 : Nat → Prop} {B p : Nat} {k l : Int} {r : Nat × St} {F : Nat → Prop} {u : World} (h : Bx w F0 B p k l r.2 F u) : RSays8 p F0 w r (.returned (.int .i64 ((r.1 : Nat) : Int))) u := ⟨rfl, F, h.r, h.loc⟩
end Go.Proofs.YtchhojkhfdkhfaaGreatDoor
namespace Go.Proofs.YtchhojkhfdkhfaaGreatDoor
open Go Go.RowKit Frm
/-- The document's store at block p, its disk at q, its log at l. -/
structure RS0 (u : World) (p q l : Nat) (b : Bool) (ck lg : Nat) (s : Sto) (st : St) (G : Nat → Prop) : Prop where
  d : RD u q st G
  c : u.heap[p]? = some (.cells #[.pointer (some ⟨q, 0, none⟩), .int .i64 (ck : Int), .int .i64 (lg : Int), .int .u64 (s.gen : Int), .pointer (some ⟨l, 0, none⟩), .bool s.broken] 54 (0, 0))
  log : RLAt u l q (lo ck lg s.gen) lg s.str b
  np : ¬ G p
  nl : ¬ G l
  pl : p ≠ l
  sz : s.str.size ≤ lg * 255
/-- .. with all its blocks. -/
def RS (u : World) (p q ck lg : Nat) (s : Sto) (st : St) (A : Nat → Prop) : Prop := ∃ l b G, RS0 u p q l b ck lg s st G ∧ (s.broken = false → b = false) ∧ A = fun k => G k ∨ k = l ∨ k = p
theorem RS0.plt {u : World} {p q l : Nat} {b : Bool} {ck lg : Nat} {s : Sto} {st : St} {G : Nat → Prop} (h : RS0 u p q l b ck lg s st G) : p < u.heap.size := (Array.getElem?_eq_some_iff.1 h.c).1
theorem RS.lt {u : World} {p q ck lg : Nat} {s : Sto} {st : St} {A : Nat → Prop} (h : RS u p q ck lg s st A) : ∀ k, A k → k < u.heap.size := by
  obtain ⟨l, b, G, h, _, rfl⟩ := h
  rintro k (h1 | rfl | rfl)
  · exact h.d.lt k h1
  · exact h.log.lt
  · exact h.plt
theorem RS.same {u v : World} {p q ck lg : Nat} {s : Sto} {st : St} {A : Nat → Prop} (h : RS u p q ck lg s st A) (hs : ∀ k, A k → v.heap[k]? = u.heap[k]?) : RS v p q ck lg s st A := by
  obtain ⟨l, b, G, h, hb, rfl⟩ := h
  exact ⟨l, b, G, ⟨h.d.same (fun k hk => hs k (Or.inl hk)), (hs p (Or.inr (Or.inr rfl))).trans h.c, h.log.same (hs l (Or.inr (Or.inl rfl))), h.np, h.nl, h.pl, h.sz⟩, hb, rfl⟩
theorem RS.below {u v : World} {p q ck lg : Nat} {s : Sto} {st : St} {A : Nat → Prop} (h : RS u p q ck lg s st A) (hb : Below u.heap.size u v) : RS v p q ck lg s st A := h.same (fun k hk => hb.block k (h.lt k hk))
theorem RS.disk {u : World} {p q ck lg : Nat} {s : Sto} {st : St} {A : Nat → Prop} (h : RS u p q ck lg s st A) : ∃ G, RD u q st G ∧ ∀ k, G k → A k := by
  obtain ⟨l, b, G, h, _, rfl⟩ := h
  exact ⟨G, h.d, fun k hk => Or.inl hk⟩
theorem load_gen (st : St) (o n : Int) : (st.load o n).1.1 ≤ 4611686018427387904 := by
  have hw : ∀ l odd, (wholeT l odd).1 ≤ 4611686018427387904 := fun l odd => by
    unfold wholeT
    simp only
    split
    · exact Nat.zero_le _
    · rename_i h
      split
      · show numL _ ≤ _; omega
      · exact Nat.zero_le _
  unfold St.load
  split
  · exact Nat.zero_le _
  · split
    · exact Nat.zero_le _
    · simp only
      split
      · exact Nat.zero_le _
      · split
        · exact hw _ _
        · exact hw _ _
/-- .. and a box for what is kept. -/
structure By (w : World) (F0 : Nat → Prop) (B p : Nat) (k l : Int) (st : St) (F : Nat → Prop) (u : World) : Prop where
  bx : Bx w F0 B p k l st F u
  kp : u.heap[B + 1]? = some (.cells #[.int .u64 0, .string ⟨#[]⟩, .slice none 0 0] 61 (0, 0))
  nK : ¬ F (B + 1)
theorem By.start {w : World} {F0 : Nat → Prop} {p : Nat} {k l : Int} {st : St} {F : Nat → Prop} {u : World} {B : Nat} (h : Bx w F0 B p k l st F u) (hB : u.heap.size = B + 1) : By w F0 B p k l st F (u.alloc (.cells #[.int .u64 0, .string ⟨#[]⟩, .slice none 0 0] 61)) :=
  ⟨h.keep ((Below.refl _ _).alloc (Nat.le_refl _) _), by rw [← hB]; exact heap_alloc_last u _, fun hf => by have := h.r.lt _ hf; omega⟩
theorem By.keep {w : World} {F0 : Nat → Prop} {B p : Nat} {k l : Int} {st : St} {F : Nat → Prop} {u v : World} (h : By w F0 B p k l st F u) (hb : Below u.heap.size u v) : By w F0 B p k l st F v :=
  ⟨h.bx.keep hb, (hb.block _ (Array.getElem?_eq_some_iff.1 h.kp).1).trans h.kp, h.nK⟩
theorem By.step {w : World} {F0 : Nat → Prop} {B p : Nat} {k l : Int} {st st2 : St} {F F' : Nat → Prop} {u v : World} (h : By w F0 B p k l st F u) (hr : RD v p st2 F') (hl : Loc F F' u v) : By w F0 B p k l st2 F' v := by
  have hlt : B + 1 < u.heap.size := (Array.getElem?_eq_some_iff.1 h.kp).1
  refine ⟨h.bx.step hr hl, (hl.block _ hlt h.nK).trans h.kp, fun hf => ?_⟩
  rcases hl.own _ hf with h1 | h1
  · exact h.nK h1
  · omega
theorem By.cells {w : World} {F0 : Nat → Prop} {B p : Nat} {k l : Int} {st : St} {F : Nat → Prop} {u : World} (h : By w F0 B p k l st F u) :
    (u.cell? ⟨B + 1, 0, none⟩ = some (.int .u64 0) ∧ u.cell? ⟨B + 1, 1, none⟩ = some (.string ⟨#[]⟩) ∧ u.cell? ⟨B + 1, 2, none⟩ = some (.slice none 0 0)) ∧ ∀ i, u.frozen? ⟨B + 1, i, none⟩ = false := by
  have e := h.kp
  refine ⟨⟨?_, ?_, ?_⟩, fun i => by simp [World.frozen?, e]⟩ <;> simp [World.cell?, e]
theorem Loc.set_new {F0 F : Nat → Prop} {w u : World} (h : Loc F0 F w u) (b i : Nat) (v : Value) (hb : w.heap.size ≤ b) : Loc F0 F w (u.setCell ⟨b, i, none⟩ v) :=
  ⟨h.os, h.tape, h.output, by rw [show (u.setCell ⟨b, i, none⟩ v).heap.size = u.heap.size from by simp [World.setCell]]; exact h.size, fun k hk hf => (Below.heap_setCell u ⟨b, i, none⟩ v k (fun e => by have : k = b := e; omega)).trans (h.block k hk hf), h.own⟩
theorem results_tct {P : Program} {fn : Func} {t c u : Tmp} {ty : TypeId} (h : fn.results = #[.tmp t, .cell c ty, .tmp u]) (tmps : Array Value) (w : World) (g : Nat) (tt : TypeId) (cs : Array Value) (fr : Nat × Nat) (d : TypeDesc)
    (hp : tmps.getD c undef = .pointer (some ⟨g, 0, none⟩)) (hg : w.heap[g]? = some (.cells cs tt fr))
    (hu : P.underlying ty = some d) (hd : (match d with | .struct _ | .array _ _ => true | _ => false) = true) (hi : (P.info? ty).map (·.size) = some cs.size) :
    (results fn tmps).run P w = .ok (.tuple #[tmps.getD t undef, .agg cs, tmps.getD u undef]) w := by
  have hp' : tmps[c]?.getD undef = .pointer (some ⟨g, 0, none⟩) := by simpa using hp
  simp [results, h, hp', asAddr, run_loadVar_row w g tt ty cs fr d hg hu hd hi]
theorem info61 : (Tryz.prog.info? 61).map (·.size) = some 3 := by kernel_rfl
/-- What is kept, written into its box. -/
theorem By.row {w : World} {F0 : Nat → Prop} {B p : Nat} {k l : Int} {st : St} {F : Nat → Prop} {u : World} (h : By w F0 B p k l st F u) (v0 v1 v2 : Value) :
    (((u.setCell ⟨B + 1, 0, none⟩ v0).setCell ⟨B + 1, 1, none⟩ v1).setCell ⟨B + 1, 2, none⟩ v2).heap[B + 1]? = some (.cells #[v0, v1, v2] 61 (0, 0)) :=
  heap_set3 (i := 2) (heap_set3 (i := 1) (heap_set3 (i := 0) h.kp v0) v1) v2
theorem By.fin {w : World} {F0 : Nat → Prop} {B p : Nat} {k l : Int} {st : St} {F : Nat → Prop} {u : World} (h : By w F0 B p k l st F u) (hB : w.heap.size ≤ B) (v0 v1 v2 : Value) :
    RD (((u.setCell ⟨B + 1, 0, none⟩ v0).setCell ⟨B + 1, 1, none⟩ v1).setCell ⟨B + 1, 2, none⟩ v2) p st F ∧ Loc F0 F w (((u.setCell ⟨B + 1, 0, none⟩ v0).setCell ⟨B + 1, 1, none⟩ v1).setCell ⟨B + 1, 2, none⟩ v2) := by
  have hne : ∀ k, F k → k ≠ B + 1 := fun k hk e => h.nK (e ▸ hk)
  refine ⟨h.bx.r.same (fun k hk => ?_), ((h.bx.loc.set_new _ _ _ (by omega)).set_new _ _ _ (by omega)).set_new _ _ _ (by omega)⟩
  rw [Below.heap_setCell _ ⟨B + 1, 2, none⟩ v2 k (hne k hk), Below.heap_setCell _ ⟨B + 1, 1, none⟩ v1 k (hne k hk), Below.heap_setCell _ ⟨B + 1, 0, none⟩ v0 k (hne k hk)]
theorem strs_set8 {u : World} {B i : Nat} {v : Value} {a : Option Addr} {l : List ByteArray} (h : StrsAt u a l) (hn : ∀ b off, a = some ⟨b, off, none⟩ → b ≠ B) : StrsAt (u.setCell ⟨B, i, none⟩ v) a l := by
  rcases h with rfl | ⟨b, off, rfl, hx⟩
  · exact Or.inl rfl
  · exact Or.inr ⟨b, off, rfl, fun j hj => (World.cell?_setCell_other u ⟨B, i, none⟩ ⟨b, off + j, none⟩ v (fun e => hn b off rfl (congrArg Addr.block e).symm)).trans (hx j hj)⟩
end Go.Proofs.YtchhojkhfdkhfaaGreatDoor
namespace Go.Proofs.YtchhojkhfdkhfaaGreatDoor
open Go Go.RowKit Frm
theorem RS0.cells {u : World} {p q l : Nat} {b : Bool} {ck lg : Nat} {s : Sto} {st : St} {G : Nat → Prop} (h : RS0 u p q l b ck lg s st G) :
    (u.cell? ⟨p, 0, none⟩ = some (.pointer (some ⟨q, 0, none⟩)) ∧ u.cell? ⟨p, 1, none⟩ = some (.int .i64 (ck : Int)) ∧ u.cell? ⟨p, 2, none⟩ = some (.int .i64 (lg : Int)) ∧ u.cell? ⟨p, 3, none⟩ = some (.int .u64 (s.gen : Int)) ∧ u.cell? ⟨p, 4, none⟩ = some (.pointer (some ⟨l, 0, none⟩)) ∧ u.cell? ⟨p, 5, none⟩ = some (.bool s.broken)) ∧ ∀ i, u.frozen? ⟨p, i, none⟩ = false := by
  have e := h.c
  refine ⟨⟨?_, ?_, ?_, ?_, ?_, ?_⟩, fun i => by simp [World.frozen?, e]⟩ <;> simp [World.cell?, e]
theorem RS0.below {u v : World} {p q l : Nat} {b : Bool} {ck lg : Nat} {s : Sto} {st : St} {G : Nat → Prop} (h : RS0 u p q l b ck lg s st G) (hb : Below u.heap.size u v) : RS0 v p q l b ck lg s st G :=
  ⟨h.d.below hb, (hb.block p h.plt).trans h.c, h.log.same (hb.block l h.log.lt), h.np, h.nl, h.pl, h.sz⟩
/-- The disk alone went on. -/
theorem RS0.disk {u v : World} {p q l : Nat} {b : Bool} {ck lg : Nat} {s : Sto} {st st2 : St} {G G2 : Nat → Prop} (h : RS0 u p q l b ck lg s st G) (hr : RD v q st2 G2) (hl : Loc G G2 u v) : RS0 v p q l b ck lg s st2 G2 := by
  have old : ∀ j, j < u.heap.size → ¬ G j → ¬ G2 j := fun j hj hn hf => by
    rcases hl.own j hf with h1 | h1
    · exact hn h1
    · omega
  exact ⟨hr, (hl.block p h.plt h.np).trans h.c, h.log.same (hl.block l h.log.lt h.nl), old p h.plt h.np, old l h.log.lt h.nl, h.pl, h.sz⟩
theorem Loc.wide {F F2 : Nat → Prop} {X : Nat → Prop} {u v : World} (h : Loc F F2 u v) : Loc (fun k => F k ∨ X k) (fun k => F2 k ∨ X k) u v :=
  ⟨h.os, h.tape, h.output, h.size, fun k hk hf => h.block k hk (fun h1 => hf (Or.inl h1)), fun k hk => hk.elim (fun h1 => (h.own k h1).elim (fun h2 => Or.inl (Or.inl h2)) Or.inr) (fun h1 => Or.inl (Or.inr h1))⟩
theorem Loc.three {G G2 : Nat → Prop} {l p : Nat} {u v : World} (h : Loc (fun k => G k ∨ k = l) (fun k => G2 k ∨ k = l) u v) : Loc (fun k => G k ∨ k = l ∨ k = p) (fun k => G2 k ∨ k = l ∨ k = p) u v :=
  ⟨h.os, h.tape, h.output, h.size, fun k hk hf => h.block k hk (fun h1 => hf (h1.elim Or.inl (fun h2 => Or.inr (Or.inl h2)))), fun k hk => by
    rcases hk with h1 | h1 | h1
    · exact (h.own k (Or.inl h1)).elim (fun h2 => Or.inl (h2.elim Or.inl (fun h3 => Or.inr (Or.inl h3)))) Or.inr
    · exact Or.inl (Or.inr (Or.inl h1))
    · exact Or.inl (Or.inr (Or.inr h1))⟩
/-- It is told to be broken. -/
theorem RS0.break {u : World} {p q l : Nat} {b : Bool} {ck lg g : Nat} {str : ByteArray} {br : Bool} {st : St} {G : Nat → Prop} (h : RS0 u p q l b ck lg ⟨g, str, br⟩ st G) : RS0 (u.setCell ⟨p, 5, none⟩ (.bool true)) p q l b ck lg ⟨g, str, true⟩ st G ∧ Loc (fun k => G k ∨ k = l ∨ k = p) (fun k => G k ∨ k = l ∨ k = p) u (u.setCell ⟨p, 5, none⟩ (.bool true)) :=
  ⟨⟨h.d.same (fun k hk => Below.heap_setCell u ⟨p, 5, none⟩ _ k (fun e => h.np (by rw [show k = p from e] at hk; exact hk))), heap_set3 (i := 5) h.c _, h.log.same (Below.heap_setCell u ⟨p, 5, none⟩ _ l (fun e => h.pl (show l = p from e).symm)), h.np, h.nl, h.pl, h.sz⟩, Loc.setCell u _ _ (Or.inr (Or.inr rfl))⟩
/-- What told leaves. -/
theorem rTold {u : World} {p q l : Nat} {b : Bool} {ck lg g : Nat} {str : ByteArray} {br : Bool} {st : St} {G : Nat → Prop} (h : RS0 u p q l b ck lg ⟨g, str, br⟩ st G) (e : Nat) :
    Calls Tryz.prog 101 #[.pointer (some ⟨p, 0, none⟩), .int .i64 (e : Int)] u fun x v => x = .returned (.int .i64 (e : Int)) ∧ RS0 v p q l b ck lg ⟨g, str, br || e == 50⟩ st G ∧ Loc (fun k => G k ∨ k = l ∨ k = p) (fun k => G k ∨ k = l ∨ k = p) u v := by
  obtain ⟨⟨c0, c1, c2, c3, c4, c5⟩, kf⟩ := h.cells
  have f5 := kf 5
  have H := hide h
  clear h kf
  by_cases h50 : e = 50
  · subst h50
    have HB := hide H.out.break
    rw [show (br || (50 : Nat) == 50) = true from by simp]
    go_enter Tryz.func101, Tryz.ntmps101
    go_wp2
    go_ret
    exact ⟨rfl, HB.out.1, HB.out.2⟩
  · have ez : ¬ ((e : Int) = 50) := by omega
    have hb : (br || e == 50) = br := by simp [h50]
    rw [hb]
    clear h50 hb
    go_enter Tryz.func101, Tryz.ntmps101
    go_wp2
    go_ret
    exact ⟨rfl, H.out, Loc.refl _ _⟩
/-- What a call of the document's store says. -/
def RSSays (p q ck lg : Nat) (A : Nat → Prop) (u : World) (r : Nat × Sto × St) (e : Ending) (v : World) : Prop := e = .returned (.int .i64 ((r.1 : Nat) : Int)) ∧ ∃ A', RS v p q ck lg r.2.1 r.2.2 A' ∧ Loc A A' u v
theorem append_code (st : St) (o n : Nat) (s t : ByteArray) (hN : o + n ≤ st.sure.length) : (walAppend st o n s t).1 ≤ 1000 ∧ (brk st o n s t = true → (walAppend st o n s t).1 = 50) := by
  have hp := puts_some o (prs n (blkOf s) (blkOf (s ++ frm t))) 0 st (by rw [prs_length]; exact hN) (prs_full fun k _ => blkOf_size _ _)
  obtain ⟨W, c, _, _, h3, _⟩ := hp
  have hcode : (puts o (prs n (blkOf s) (blkOf (s ++ frm t))) 0 st).1 = 0 ∨ (puts o (prs n (blkOf s) (blkOf (s ++ frm t))) 0 st).1 = 50 := h3.elim (fun h => Or.inl h.1) Or.inr
  unfold walAppend brk
  constructor
  · split
    · show (4 : Nat) ≤ 1000; decide
    · split
      · show (6 : Nat) ≤ 1000; decide
      · split
        · show (puts _ _ _ _).1 ≤ 1000; omega
        · show (0 : Nat) ≤ 1000; decide
  · intro h
    have h := of_decide_eq_true h
    rw [if_neg (by omega), if_neg (by omega), if_pos h.2.2]
    show (puts _ _ _ _).1 = 50
    omega
end Go.Proofs.YtchhojkhfdkhfaaGreatDoor
namespace Go.Proofs.YtchhojkhfdkhfaaGreatDoor
open Go Go.RowKit Frm
theorem write_long8 (st : St) (b : Int) (d : ByteArray) : (st.write b d).2.sure.length = st.sure.length := by
  unfold St.write
  split
  · rfl
  · split
    · rfl
    · split <;> rfl
theorem sync_long8 (st : St) : st.sync.2.sure.length = st.sure.length := by
  unfold St.sync
  split
  · rfl
  · exact laid_length _ _
theorem andT_long {L : Nat} {r : Nat × St} {f : St → Nat × St} (h : r.2.sure.length = L) (hf : ∀ s, s.sure.length = L → (f s).2.sure.length = L) : (andT r f).2.sure.length = L := by
  unfold andT
  split
  · exact hf _ h
  · exact h
theorem putsT_long (o : Nat) (t : ByteArray) : ∀ (n i : Nat) (st : St), (putsT o t n i st).2.sure.length = st.sure.length
  | 0, _, _ => rfl
  | n + 1, i, st => andT_long (L := st.sure.length) (write_long8 _ _ _) (fun s hs => by rw [putsT_long o t n (i + 1) s]; exact hs)
theorem saveAt_long (a g : Nat) (t : ByteArray) (st : St) : (saveAt a g t st).2.sure.length = st.sure.length := by
  unfold saveAt
  exact andT_long (andT_long (andT_long (andT_long (andT_long (write_long8 _ _ _) (fun s hs => by rw [sync_long8]; exact hs)) (fun s hs => by rw [putsT_long]; exact hs)) (fun s hs => by rw [sync_long8]; exact hs)) (fun s hs => by rw [write_long8]; exact hs)) (fun s hs => by rw [sync_long8]; exact hs)
theorem save_long (st : St) (o n : Int) (g : Nat) (t : ByteArray) : (st.save o n g t).2.sure.length = st.sure.length := by
  unfold St.save
  split
  · rfl
  · split
    · rfl
    · split
      · rfl
      · exact saveAt_long _ _ _ _
theorem save_ok8 {st : St} (h : st.Ok) (o n : Int) (g : Nat) (t : ByteArray) : (st.save o n g t).2.Ok := by
  unfold St.save
  split
  · exact h
  · split
    · exact h
    · split
      · exact h
      · exact saveAt_ok h _ _ _
theorem clear_long (o n : Nat) (st : St) (hl : o + n ≤ st.sure.length) : (walClear st o n).2.sure.length = st.sure.length ∧ ((walClear st o n).1 = 0 → (walClear st o n).2.loose = []) := by
  rcases clear_cases o n st hl with ⟨W, c, e, _⟩ | ⟨c, e⟩
  · rw [e]; exact ⟨rfl, fun h => absurd h (show ¬ (50 : Nat) = 0 by decide)⟩
  · rw [e]; exact ⟨by show (laid _ _).length = _; rw [laid_length, laid_length], fun _ => rfl⟩
/-- A store, since u0. -/
structure RT (u0 : World) (A0 : Nat → Prop) (p q l : Nat) (b : Bool) (ck lg : Nat) (s : Sto) (st : St) (G : Nat → Prop) (z : World) : Prop where
  s : RS0 z p q l b ck lg s st G
  loc : Loc A0 (fun k => G k ∨ k = l ∨ k = p) u0 z
theorem RT.below {u0 : World} {A0 : Nat → Prop} {p q l : Nat} {b : Bool} {ck lg : Nat} {s : Sto} {st : St} {G : Nat → Prop} {z v : World} (h : RT u0 A0 p q l b ck lg s st G z) (hb : Below z.heap.size z v) : RT u0 A0 p q l b ck lg s st G v := ⟨h.s.below hb, h.loc.trans (Loc.of_below _ hb)⟩
theorem RT.disk {u0 : World} {A0 : Nat → Prop} {p q l : Nat} {b : Bool} {ck lg : Nat} {s : Sto} {st st2 : St} {G G2 : Nat → Prop} {z v : World} (h : RT u0 A0 p q l b ck lg s st G z) (hr : RD v q st2 G2) (hl : Loc G G2 z v) : RT u0 A0 p q l b ck lg s st2 G2 v := ⟨h.s.disk hr hl, h.loc.trans hl.wide⟩
theorem RT.told {u0 : World} {A0 : Nat → Prop} {p q l : Nat} {b : Bool} {ck lg g : Nat} {str : ByteArray} {br : Bool} {st : St} {G : Nat → Prop} {z : World} (h : RT u0 A0 p q l b ck lg ⟨g, str, br⟩ st G z) (e : Nat) :
    Calls Tryz.prog 101 #[.pointer (some ⟨p, 0, none⟩), .int .i64 (e : Int)] z fun x v => x = .returned (.int .i64 (e : Int)) ∧ RT u0 A0 p q l b ck lg ⟨g, str, br || e == 50⟩ st G v :=
  (rTold h.s e).mono (by rintro x v ⟨he, h2, hl⟩; exact ⟨he, h2, h.loc.trans hl⟩)
theorem RT.says {u0 : World} {A0 : Nat → Prop} {p q l : Nat} {ck lg : Nat} {s : Sto} {st : St} {G : Nat → Prop} {z : World} (h : RT u0 A0 p q l false ck lg s st G z) (c : Nat) : RSSays p q ck lg A0 u0 (c, s, st) (.returned (.int .i64 (c : Int))) z := ⟨rfl, _, ⟨l, false, G, h.s, fun _ => rfl, rfl⟩, h.loc⟩
end Go.Proofs.YtchhojkhfdkhfaaGreatDoor
namespace Go.Proofs.YtchhojkhfdkhfaaGreatDoor
open Go Go.RowKit Frm
/-- There is none. -/
def PNo8 (q : Nat) (st : St) (F : Nat → Prop) (w : World) (x : Int) (e : Ending) (w' : World) : Prop := e = .returned (.tuple #[.pointer none, .agg #[.int .u64 0, .string ⟨#[]⟩, .slice none 0 0], .int .i64 x]) ∧ ∃ F', DAt w' q st F' ∧ Loc F F' w w'
/-- There is one. -/
def PHas8 (PS : World → Nat → Nat → Nat → Nat → Sto → St → (Nat → Prop) → Prop) (q ck lg gen : Nat) (text str : ByteArray) (recs : List ByteArray) (st : St) (F : Nat → Prop) (w : World) (e : Ending) (w' : World) : Prop :=
  ∃ p a c A, e = .returned (.tuple #[.pointer (some ⟨p, 0, none⟩), .agg #[.int .u64 (gen : Int), .string text, .slice a recs.length c], .int .i64 0]) ∧ PS w' p q ck lg ⟨gen, str, false⟩ st A ∧ Loc F A w w' ∧ StrsAt w' a recs ∧ ∀ b off, a = some ⟨b, off, none⟩ → w.heap.size ≤ b
def POpened8 (PS : World → Nat → Nat → Nat → Nat → Sto → St → (Nat → Prop) → Prop) (q : Nat) (ck lg : Int) (r : (Nat × Nat × ByteArray × ByteArray × List ByteArray) × St) (F : Nat → Prop) (w : World) (e : Ending) (w' : World) : Prop :=
  (r.1.1 = 0 ∧ PHas8 PS q ck.toNat lg.toNat r.1.2.1 r.1.2.2.1 r.1.2.2.2.1 r.1.2.2.2.2 r.2 F w e w') ∨ (r.1.1 ≠ 0 ∧ PNo8 q r.2 F w ((r.1.1 : Nat) : Int) e w')
def PSSays (PS : World → Nat → Nat → Nat → Nat → Sto → St → (Nat → Prop) → Prop) (p q ck lg : Nat) (A : Nat → Prop) (u : World) (r : Nat × Sto × St) (e : Ending) (v : World) : Prop := e = .returned (.int .i64 ((r.1 : Nat) : Int)) ∧ ∃ A', PS v p q ck lg r.2.1 r.2.2 A' ∧ Loc A A' u v
/-- An int that may be. -/
abbrev I64 (n : Int) : Prop := -9223372036854775808 ≤ n ∧ n ≤ 9223372036854775807
/-- PS u p q ck lg s st A: the program's store lies at block p, its disk at q, is s and st; its blocks, the disk's among them, are A. -/
structure SCon (PS : World → Nat → Nat → Nat → Nat → Sto → St → (Nat → Prop) → Prop) : Prop where
  lt : ∀ {u : World} {p q ck lg : Nat} {s : Sto} {st : St} {A : Nat → Prop}, PS u p q ck lg s st A → ∀ k, A k → k < u.heap.size
  same : ∀ {u v : World} {p q ck lg : Nat} {s : Sto} {st : St} {A : Nat → Prop}, PS u p q ck lg s st A → (∀ k, A k → v.heap[k]? = u.heap[k]?) → PS v p q ck lg s st A
  disk : ∀ {u : World} {p q ck lg : Nat} {s : Sto} {st : St} {A : Nat → Prop}, PS u p q ck lg s st A → ∃ G, DAt u q st G ∧ (∀ k, G k → A k) ∧ ∀ v st2 G2, DAt v q st2 G2 → Loc G G2 u v → ∃ A2, PS v p q ck lg s st2 A2 ∧ Loc A A2 u v
  blocks : ∀ (ck lg : Int) (u : World), I64 ck → I64 lg → Calls Tryz.prog 6 #[confV ck lg] u fun e v => e = .returned (.int .i64 (blocksC ck lg)) ∧ Below u.heap.size u v
  make : ∀ (q : Nat) (st : St) (F : Nat → Prop) (ck lg : Int) (u : World), DAt u q st F → st.Ok → st.loose.length + 3000 ≤ 8000 → st.sure.length ≤ 400 → I64 ck → I64 lg →
    Calls Tryz.prog 19 #[.pointer (some ⟨q, 0, none⟩), confV ck lg] u fun e v => e = .returned (.int .i64 (((stoMake st ck lg).1 : Nat) : Int)) ∧ ∃ F', DAt v q (stoMake st ck lg).2 F' ∧ Loc F F' u v
  opens : ∀ (q : Nat) (st : St) (F : Nat → Prop) (ck lg : Int) (u : World), DAt u q st F → st.Ok → st.loose.length + 3000 ≤ 8000 → st.sure.length ≤ 400 → I64 ck → I64 lg →
    Calls Tryz.prog 20 #[.pointer (some ⟨q, 0, none⟩), confV ck lg] u (POpened8 PS q ck lg (stoOpen st ck lg) F u)
  append : ∀ (p q ck lg : Nat) (s : Sto) (t : ByteArray) (st : St) (A : Nat → Prop) (u : World), PS u p q ck lg s st A → st.Ok → st.loose.length + 3000 ≤ 8000 → Conf ck lg st.sure.length → lg ≤ 200 → t.size ≤ 65536 →
    Calls Tryz.prog 22 #[.pointer (some ⟨p, 0, none⟩), .string t] u (PSSays PS p q ck lg A u (stoAppend st ck lg s t))
  sync : ∀ (p q ck lg : Nat) (s : Sto) (st : St) (A : Nat → Prop) (u : World), PS u p q ck lg s st A → st.Ok → st.loose.length + 3000 ≤ 8000 →
    Calls Tryz.prog 23 #[.pointer (some ⟨p, 0, none⟩)] u (PSSays PS p q ck lg A u (stoSync st s))
  trim : ∀ (p q ck lg : Nat) (s : Sto) (t : ByteArray) (st : St) (A : Nat → Prop) (u : World), PS u p q ck lg s st A → st.Ok → st.loose.length + 3000 ≤ 8000 → Conf ck lg st.sure.length → lg ≤ 200 → t.size ≤ 65536 → s.gen < 18446744073709551616 →
    Calls Tryz.prog 24 #[.pointer (some ⟨p, 0, none⟩), .string t] u (PSSays PS p q ck lg A u (stoTrim st ck lg s t))
  gen : ∀ (p q ck lg : Nat) (s : Sto) (st : St) (A : Nat → Prop) (u : World), PS u p q ck lg s st A → Calls Tryz.prog 17 #[.pointer (some ⟨p, 0, none⟩)] u fun e v => e = .returned (.int .u64 (s.gen : Int)) ∧ Below u.heap.size u v
  room : ∀ (p q ck lg : Nat) (s : Sto) (st : St) (A : Nat → Prop) (u : World), PS u p q ck lg s st A → Calls Tryz.prog 18 #[.pointer (some ⟨p, 0, none⟩)] u fun e v => e = .returned (.int .i64 ((lg : Int) * 255 - (s.str.size : Int))) ∧ Below u.heap.size u v
  nmake : ∀ (ck lg : Int) (u : World), I64 ck → I64 lg → Calls Tryz.prog 19 #[.pointer none, confV ck lg] u fun e v => e = .returned (.int .i64 1) ∧ Below u.heap.size u v
  nopen : ∀ (ck lg : Int) (u : World), I64 ck → I64 lg → Calls Tryz.prog 20 #[.pointer none, confV ck lg] u fun e v => e = .returned (.tuple #[.pointer none, .agg #[.int .u64 0, .string ⟨#[]⟩, .slice none 0 0], .int .i64 1]) ∧ Below u.heap.size u v
  nappend : ∀ (t : ByteArray) (u : World), Calls Tryz.prog 22 #[.pointer none, .string t] u fun e v => e = .returned (.int .i64 1) ∧ Below u.heap.size u v
  nsync : ∀ (u : World), Calls Tryz.prog 23 #[.pointer none] u fun e v => e = .returned (.int .i64 1) ∧ Below u.heap.size u v
  ntrim : ∀ (t : ByteArray) (u : World), Calls Tryz.prog 24 #[.pointer none, .string t] u fun e v => e = .returned (.int .i64 1) ∧ Below u.heap.size u v
  ngen : ∀ (u : World), Calls Tryz.prog 17 #[.pointer none] u fun e v => e = .returned (.int .u64 0) ∧ Below u.heap.size u v
  nroom : ∀ (u : World), Calls Tryz.prog 18 #[.pointer none] u fun e v => e = .returned (.int .i64 0) ∧ Below u.heap.size u v
theorem SCon.below {PS : World → Nat → Nat → Nat → Nat → Sto → St → (Nat → Prop) → Prop} (C : SCon PS) {u v : World} {p q ck lg : Nat} {s : Sto} {st : St} {A : Nat → Prop} (h : PS u p q ck lg s st A) (hb : Below u.heap.size u v) : PS v p q ck lg s st A := C.same h (fun k hk => hb.block k (C.lt h k hk))
/-- A disk of the caller's own, as it stands. -/
structure Al8 (w : World) (q : Nat) (st : St) (F : Nat → Prop) (u : World) : Prop where
  disk : DAt u q st F
  below : Below w.heap.size w u
  new : ∀ k, F k → w.heap.size ≤ k
theorem Al8.step {w : World} {q : Nat} {st st' : St} {F F' : Nat → Prop} {u v : World} (h : Al8 w q st F u) (hd : DAt v q st' F') (hl : Loc F F' u v) : Al8 w q st' F' v :=
  ⟨hd, h.below.trans (hl.below h.new h.below.size), hl.beyond h.new h.below.size⟩
theorem Al8.keep {w : World} {q : Nat} {st : St} {F : Nat → Prop} {u v : World} (h : Al8 w q st F u) (hb : Below u.heap.size u v) : Al8 w q st F v := ⟨con.below h.disk hb, bnext h.below hb, h.new⟩
/-- A store of the caller's own. -/
structure Sl8 (PS : World → Nat → Nat → Nat → Nat → Sto → St → (Nat → Prop) → Prop) (w : World) (p q ck lg : Nat) (s : Sto) (st : St) (A : Nat → Prop) (u : World) : Prop where
  sto : PS u p q ck lg s st A
  below : Below w.heap.size w u
  new : ∀ k, A k → w.heap.size ≤ k
theorem Sl8.step {PS : World → Nat → Nat → Nat → Nat → Sto → St → (Nat → Prop) → Prop} {w : World} {p q ck lg : Nat} {s s' : Sto} {st st' : St} {A A' : Nat → Prop} {u v : World} (h : Sl8 PS w p q ck lg s st A u) (hd : PS v p q ck lg s' st' A') (hl : Loc A A' u v) : Sl8 PS w p q ck lg s' st' A' v :=
  ⟨hd, h.below.trans (hl.below h.new h.below.size), hl.beyond h.new h.below.size⟩
theorem Sl8.disk {PS : World → Nat → Nat → Nat → Nat → Sto → St → (Nat → Prop) → Prop} (C : SCon PS) {w : World} {p q ck lg : Nat} {s : Sto} {st : St} {A : Nat → Prop} {u : World} (h : Sl8 PS w p q ck lg s st A u) : ∃ G, Al8 w q st G u := by
  obtain ⟨G, h1, h2, _⟩ := C.disk h.sto
  exact ⟨G, h1, h.below, fun k hk => h.new k (h2 k hk)⟩
theorem Al8.opened {PS : World → Nat → Nat → Nat → Nat → Sto → St → (Nat → Prop) → Prop} {w : World} {p q ck lg : Nat} {s : Sto} {st st' : St} {F A : Nat → Prop} {u v : World} (h : Al8 w q st F u) (hd : PS v p q ck lg s st' A) (hl : Loc F A u v) : Sl8 PS w p q ck lg s st' A v :=
  ⟨hd, h.below.trans (hl.below h.new h.below.size), hl.beyond h.new h.below.size⟩
end Go.Proofs.YtchhojkhfdkhfaaGreatDoor
namespace Go.Proofs.YtchhojkhfdkhfaaGreatDoor
open Go Go.RowKit Frm
set_option maxHeartbeats 1000000 in
theorem blocks8_any (ck lg : Int) (w : World) : Calls Tryz.prog 6 #[confV ck lg] w fun e w' => e = .returned (.int .i64 (blocksC ck lg)) ∧ Below w.heap.size w w' := by
  have hb := one_below w (.cells #[.int .i64 ck, .int .i64 lg] 23)
  have HB := hide hb
  have hcb := heap_alloc_last w (.cells #[.int .i64 ck, .int .i64 lg] 23)
  have c0 : (w.alloc (.cells #[.int .i64 ck, .int .i64 lg] 23)).cell? ⟨w.heap.size, 0, none⟩ = some (.int .i64 ck) := (cell_of_row _ _ 0 _ _ _ hcb).trans rfl
  have c1 : (w.alloc (.cells #[.int .i64 ck, .int .i64 lg] 23)).cell? ⟨w.heap.size, 1, none⟩ = some (.int .i64 lg) := (cell_of_row _ _ 1 _ _ _ hcb).trans rfl
  clear hb hcb
  unfold confV
  by_cases h1 : ck < 2
  · have hr : blocksC ck lg = 0 := by unfold blocksC; rw [if_pos (Or.inl h1)]
    rw [hr]
    clear hr
    go_enter Tryz.func6, Tryz.ntmps6
    go_wp2
    go_ret
    exact ⟨rfl, HB.out⟩
  by_cases h2 : 256 < ck
  · have hr : blocksC ck lg = 0 := by unfold blocksC; rw [if_pos (Or.inr (Or.inl h2))]
    rw [hr]
    clear hr
    go_enter Tryz.func6, Tryz.ntmps6
    go_wp2
    go_ret
    exact ⟨rfl, HB.out⟩
  by_cases h3 : lg < 1
  · have hr : blocksC ck lg = 0 := by unfold blocksC; rw [if_pos (Or.inr (Or.inr (Or.inl h3)))]
    rw [hr]
    clear hr
    go_enter Tryz.func6, Tryz.ntmps6
    go_wp2
    go_ret
    exact ⟨rfl, HB.out⟩
  by_cases h4 : 1024 < lg
  · have hr : blocksC ck lg = 0 := by unfold blocksC; rw [if_pos (Or.inr (Or.inr (Or.inr h4)))]
    rw [hr]
    clear hr
    go_enter Tryz.func6, Tryz.ntmps6
    go_wp2
    go_ret
    exact ⟨rfl, HB.out⟩
  have hw1 : wrap64 (2 * ck) = 2 * ck := by unfold wrap64; omega
  have hw2 : wrap64 (2 * lg) = 2 * lg := by unfold wrap64; omega
  have hw3 : wrap64 (2 * ck + 2 * lg) = 2 * ck + 2 * lg := by unfold wrap64; omega
  by_cases h5 : 4096 < 2 * ck + 2 * lg
  · have hr : blocksC ck lg = 0 := by unfold blocksC; rw [if_neg (by omega), if_pos (by omega)]
    rw [hr]
    clear hr
    have H5 := hide h5
    clear h5
    go_enter Tryz.func6, Tryz.ntmps6
    go_upto_region 4 with fail
    have h5 := H5.out
    clear h1 h2 h3 h4 c0 c1
    go_wp2
    go_ret
    exact ⟨rfl, HB.out⟩
  · have hr : blocksC ck lg = 2 * ck + 2 * lg := by unfold blocksC; rw [if_neg (by omega), if_neg (by omega)]
    rw [hr]
    clear hr
    have H5 := hide h5
    clear h5
    go_enter Tryz.func6, Tryz.ntmps6
    go_upto_region 4 with fail
    have h5 := H5.out
    clear h1 h2 h3 h4 c0 c1
    go_wp2
    go_ret
    exact ⟨rfl, HB.out⟩
def areaV (pd : Option Addr) (ck lg : Int) : Value := .agg #[.pointer pd, .int .i64 ck, .int .i64 lg]
/-- A box of an area. -/
theorem area_cells (w : World) (pd : Option Addr) (ck lg : Int) (z : World) (hb : Below (w.alloc (.cells #[.pointer pd, .int .i64 ck, .int .i64 lg] 102)).heap.size (w.alloc (.cells #[.pointer pd, .int .i64 ck, .int .i64 lg] 102)) z) :
    z.cell? ⟨w.heap.size, 0, none⟩ = some (.pointer pd) ∧ z.cell? ⟨w.heap.size, 1, none⟩ = some (.int .i64 ck) ∧ z.cell? ⟨w.heap.size, 2, none⟩ = some (.int .i64 lg) := by
  have hz := (hb.block w.heap.size (by simp)).trans (heap_alloc_last w (.cells #[.pointer pd, .int .i64 ck, .int .i64 lg] 102))
  exact ⟨(cell_of_row _ _ 0 _ _ _ hz).trans rfl, (cell_of_row _ _ 1 _ _ _ hz).trans rfl, (cell_of_row _ _ 2 _ _ _ hz).trans rfl⟩
set_option maxHeartbeats 1000000 in
theorem ckb_any (pd : Option Addr) (ck lg : Int) (w : World) (h : -4611686018427387904 ≤ ck ∧ ck < 4611686018427387904) :
    Calls Tryz.prog 48 #[areaV pd ck lg] w fun e w' => e = .returned (.int .i64 (2 * ck)) ∧ Below w.heap.size w w' := by
  have HB := hide (one_below w (.cells #[.pointer pd, .int .i64 ck, .int .i64 lg] 102))
  obtain ⟨c0, c1, c2⟩ := area_cells w pd ck lg _ (Below.refl _ _)
  have hw : wrap64 (2 * ck) = 2 * ck := by unfold wrap64; omega
  unfold areaV
  clear h
  go_enter Tryz.func48, Tryz.ntmps48
  go_wp2
  go_ret
  exact ⟨by show Ending.returned (.int .i64 (wrap64 (2 * ck))) = _; rw [hw], HB.out⟩
set_option maxHeartbeats 1000000 in
theorem fault8_any (pd : Option Addr) (ck lg : Int) (n b : Int) (w : World) (r : Int) (hS : ∀ u, Below w.heap.size w u → Calls Tryz.prog 58 #[.pointer pd] u fun e v => e = .returned (.int .i64 n) ∧ Below u.heap.size u v)
    (hBl : ∀ u, Calls Tryz.prog 6 #[confV ck lg] u fun e v => e = .returned (.int .i64 b) ∧ Below u.heap.size u v) (hr : r = if n = 0 then 1 else if b = 0 ∨ n < b then 2 else 0) :
    Calls Tryz.prog 42 #[areaV pd ck lg] w fun e w' => e = .returned (.int .i64 r) ∧ Below w.heap.size w w' := by
  have HB := hide (one_below w (.cells #[.pointer pd, .int .i64 ck, .int .i64 lg] 102))
  have HC : Hid (∀ z, Below (w.alloc (.cells #[.pointer pd, .int .i64 ck, .int .i64 lg] 102)).heap.size (w.alloc (.cells #[.pointer pd, .int .i64 ck, .int .i64 lg] 102)) z → _) := area_cells w pd ck lg
  have HS := hide hS
  have HBl := hide hBl
  have HR := hide hr
  have HB1 := hide (Below.refl (w.alloc (.cells #[.pointer pd, .int .i64 ck, .int .i64 lg] 102)).heap.size (w.alloc (.cells #[.pointer pd, .int .i64 ck, .int .i64 lg] 102))).drew
  unfold areaV confV at *
  clear hS hBl hr
  go_enter Tryz.func42, Tryz.ntmps42
  go_wp2_with fail
  generalize w.alloc (.cells #[.pointer pd, .int .i64 ck, .int .i64 lg] 102) = W at *
  have K := HB1.out
  go_region_held3 (fun z => z.cell? ⟨w.heap.size, 0, none⟩ = some (.pointer pd) ∧ z.cell? ⟨w.heap.size, 1, none⟩ = some (.int .i64 ck) ∧ z.cell? ⟨w.heap.size, 2, none⟩ = some (.int .i64 lg))
    ((with_reducible exact HC.out _ K))
    (first
      | (go_at_call 58; refine (HS.out _ (HB.out.trans (K.mono HB.out.size))).mono ?_; rintro e z0 ⟨rfl, hb0⟩; have K := bnext K hb0)
      | (go_at_call 6; refine (HBl.out _).mono ?_; rintro e z0 ⟨rfl, hb0⟩; have K := bnext K hb0))
  all_goals
    have HE := hide (HB.out.trans (K.mono HB.out.size))
    clear K
    by_cases h1 : n = 0
    · have hr : r = 1 := by rw [HR.out, if_pos h1]
      subst hr
      go_wp2
      go_ret
      exact ⟨rfl, HE.out⟩
    · by_cases h2 : b = 0
      · have hr : r = 2 := by rw [HR.out, if_neg h1, if_pos (Or.inl h2)]
        subst hr
        go_wp2
        go_ret
        exact ⟨rfl, HE.out⟩
      · by_cases h3 : n < b
        · have hr : r = 2 := by rw [HR.out, if_neg h1, if_pos (Or.inr h3)]
          subst hr
          go_wp2
          go_ret
          exact ⟨rfl, HE.out⟩
        · have hr : r = 0 := by rw [HR.out, if_neg h1, if_neg (by omega)]
          subst hr
          go_wp2
          go_ret
          exact ⟨rfl, HE.out⟩
/-- The program's store lies at block p: its log at pl, its disk at q. -/
def StAt (u : World) (p pl q ck lg : Nat) (g : Nat) (b : Bool) : Prop :=
  u.heap[p]? = some (.cells #[.iface 143 (.pointer (some ⟨pl, 0, none⟩)), .int .u64 (g : Int), .pointer (some ⟨q, 0, none⟩), .int .i64 (ck : Int), .int .i64 (lg : Int), .bool b] 104 (0, 0))
theorem StAt.lt {u : World} {p pl q ck lg g : Nat} {b : Bool} (h : StAt u p pl q ck lg g b) : p < u.heap.size := (Array.getElem?_eq_some_iff.1 h).1
theorem StAt.same {u v : World} {p pl q ck lg g : Nat} {b : Bool} (h : StAt u p pl q ck lg g b) (hv : v.heap[p]? = u.heap[p]?) : StAt v p pl q ck lg g b := hv.trans h
theorem StAt.c {u : World} {p pl q ck lg g : Nat} {b : Bool} (h : StAt u p pl q ck lg g b) :
    u.cell? ⟨p, 0, none⟩ = some (.iface 143 (.pointer (some ⟨pl, 0, none⟩))) ∧ u.cell? ⟨p, 1, none⟩ = some (.int .u64 (g : Int)) ∧ u.cell? ⟨p, 2, none⟩ = some (.pointer (some ⟨q, 0, none⟩)) ∧ u.cell? ⟨p, 3, none⟩ = some (.int .i64 (ck : Int)) ∧ u.cell? ⟨p, 4, none⟩ = some (.int .i64 (lg : Int)) ∧ u.cell? ⟨p, 5, none⟩ = some (.bool b) := by
  have hh : u.heap[p]? = _ := h
  refine ⟨?_, ?_, ?_, ?_, ?_, ?_⟩ <;> simp [World.cell?, hh]
theorem StAt.free {u : World} {p pl q ck lg g : Nat} {b : Bool} (h : StAt u p pl q ck lg g b) (i : Nat) : u.frozen? ⟨p, i, none⟩ = false := by simp [World.frozen?, show u.heap[p]? = _ from h]
set_option maxHeartbeats 400000 in
theorem gen_any (p pl q ck lg g : Nat) (b : Bool) (w : World) (h : StAt w p pl q ck lg g b) : Calls Tryz.prog 17 #[.pointer (some ⟨p, 0, none⟩)] w fun e v => e = .returned (.int .u64 (g : Int)) ∧ v = w := by
  obtain ⟨-, c1, -⟩ := h.c
  clear h
  go_enter Tryz.func17, Tryz.ntmps17
  go_wp2
  go_ret
  exact ⟨rfl, rfl⟩
set_option maxHeartbeats 400000 in
theorem gen_nil8 (w : World) : Calls Tryz.prog 17 #[.pointer none] w fun e v => e = .returned (.int .u64 0) ∧ v = w := by
  go_enter Tryz.func17, Tryz.ntmps17
  go_wp2
  go_ret
  exact ⟨rfl, rfl⟩
set_option maxHeartbeats 400000 in
theorem sfault_nil (w : World) : Calls Tryz.prog 40 #[.pointer none] w fun e v => e = .returned (.int .i64 1) ∧ v = w := by
  go_enter Tryz.func40, Tryz.ntmps40
  go_wp2
  go_ret
  exact ⟨rfl, rfl⟩
set_option maxHeartbeats 400000 in
theorem sfault_any (p pl q ck lg g : Nat) (b : Bool) (w : World) (h : StAt w p pl q ck lg g b) : Calls Tryz.prog 40 #[.pointer (some ⟨p, 0, none⟩)] w fun e v => e = .returned (.int .i64 (if b then 3 else 0)) ∧ v = w := by
  obtain ⟨c0, -, -, -, -, c5⟩ := h.c
  clear h
  cases b with
  | true =>
    go_enter Tryz.func40, Tryz.ntmps40
    go_wp2
    go_ret
    exact ⟨rfl, rfl⟩
  | false =>
    go_enter Tryz.func40, Tryz.ntmps40
    go_wp2
    go_ret
    exact ⟨rfl, rfl⟩
set_option maxRecDepth 10000 in
theorem logOf_any (pd : Option Addr) (ck lg g : Nat) (w : World) (h1 : ck ≤ 256) (h2 : lg ≤ 1024) :
    Calls Tryz.prog 78 #[areaV pd (ck : Int) (lg : Int), .int .u64 (g : Int)] w fun e w' => e = .returned (.int .i64 ((lo ck lg g : Nat) : Int)) ∧ Below w.heap.size w w' := by
  have HB := hide (one_below w (.cells #[.pointer pd, .int .i64 (ck : Int), .int .i64 (lg : Int)] 102))
  have HC : Hid (∀ z, Below (w.alloc (.cells #[.pointer pd, .int .i64 (ck : Int), .int .i64 (lg : Int)] 102)).heap.size (w.alloc (.cells #[.pointer pd, .int .i64 (ck : Int), .int .i64 (lg : Int)] 102)) z → _) := area_cells w pd ck lg
  have HK := hide (fun u => ckb_any pd (ck : Int) (lg : Int) u (by omega))
  have HB1 := hide (Below.refl (w.alloc (.cells #[.pointer pd, .int .i64 (ck : Int), .int .i64 (lg : Int)] 102)).heap.size (w.alloc (.cells #[.pointer pd, .int .i64 (ck : Int), .int .i64 (lg : Int)] 102))).drew
  have q1 : (g : Int) % 2 = ((g % 2 : Nat) : Int) := by omega
  have q2 : IntKind.i64.wrap ((g % 2 : Nat) : Int) = ((g % 2 : Nat) : Int) := by rw [IntKind.wrap_i64]; omega
  have q0 : ((lo ck lg g : Nat) : Int) = 2 * (ck : Int) + ((g % 2 : Nat) : Int) * (lg : Int) := by unfold lo; rw [Int.natCast_add, Int.natCast_mul, Int.natCast_mul]; rfl
  have q6 : 0 ≤ ((g % 2 : Nat) : Int) * (lg : Int) ∧ ((g % 2 : Nat) : Int) * (lg : Int) ≤ 1024 := by
    rcases (by omega : g % 2 = 0 ∨ g % 2 = 1) with e | e <;> rw [e] <;> omega
  have q4 : IntKind.i64.wrap (((g % 2 : Nat) : Int) * (lg : Int)) = ((g % 2 : Nat) : Int) * (lg : Int) := by
    generalize ((g % 2 : Nat) : Int) * (lg : Int) = y at *
    rw [IntKind.wrap_i64]; omega
  have q5 : IntKind.i64.wrap (2 * (ck : Int) + ((g % 2 : Nat) : Int) * (lg : Int)) = 2 * (ck : Int) + ((g % 2 : Nat) : Int) * (lg : Int) := by
    generalize ((g % 2 : Nat) : Int) * (lg : Int) = y at *
    rw [IntKind.wrap_i64]; omega
  have hres : Hid (IntKind.i64.wrap (2 * (ck : Int) + IntKind.i64.wrap (IntKind.i64.wrap ((g : Int).tmod 2) * (lg : Int))) = ((lo ck lg g : Nat) : Int)) := by
    show _ = _
    rw [Int.tmod_eq_emod_of_nonneg (by omega), q1, q2, q4, q5, q0]
  unfold areaV at *
  clear h1 h2 q6 q0 q1 q2 q4 q5
  go_enter Tryz.func78, Tryz.ntmps78
  go_wp2_with fail
  generalize w.alloc (.cells #[.pointer pd, .int .i64 (ck : Int), .int .i64 (lg : Int)] 102) = W at *
  have K := HB1.out
  go_region_held3 (fun z => z.cell? ⟨w.heap.size, 0, none⟩ = some (.pointer pd) ∧ z.cell? ⟨w.heap.size, 1, none⟩ = some (.int .i64 (ck : Int)) ∧ z.cell? ⟨w.heap.size, 2, none⟩ = some (.int .i64 (lg : Int)))
    ((with_reducible exact HC.out _ K))
    (first
      | (go_at_call 48; refine (HK.out _).mono ?_; rintro e z0 ⟨rfl, hb0⟩; have K := bnext K hb0))
  all_goals
    have HE := hide (HB.out.trans (K.mono HB.out.size))
    clear K
    go_wp2
    go_ret
    exact ⟨congrArg (fun x => Ending.returned (.int .i64 x)) hres.out, HE.out⟩

/-- Which function an interface value's method is. -/
theorem room_ahead (n : Nat) (a : Addr) (w : World) : (nilAhead (n + 1) 143 (.pointer (some a)) "Room").run Tryz.prog w = .ok (some false) w := by kernel_rfl
theorem room_is (n : Nat) (a : Addr) (w : World) : (method (n + 1) 143 (.pointer (some a)) "Room").run Tryz.prog w = .ok (194, .pointer (some a)) w := by kernel_rfl
set_option maxHeartbeats 400000 in
theorem sroom_any (p pl q ck lg g : Nat) (b : Bool) (w : World) (r : Int) (h : StAt w p pl q ck lg g b) (hF : Calls Tryz.prog 40 #[.pointer (some ⟨p, 0, none⟩)] w fun e v => e = .returned (.int .i64 (if b then 3 else 0)) ∧ v = w)
   (hR : ∀ u, Below w.heap.size w u → Calls Tryz.prog 194 #[.pointer (some ⟨pl, 0, none⟩)] u fun e v => e = .returned (.int .i64 r) ∧ Below u.heap.size u v) :
   Calls Tryz.prog 18 #[.pointer (some ⟨p, 0, none⟩)] w fun e v => e = .returned (.int .i64 r) ∧ Below w.heap.size w v := by
  obtain ⟨c0, -⟩ := h.c
  have HR := hide (hR w (Below.refl _ _))
  clear h hR
  cases b
  all_goals
    have hm := fun n (w : World) => room_is n ⟨pl, 0, none⟩ w
    have ha := fun n (w : World) => room_ahead n ⟨pl, 0, none⟩ w
    go_enter Tryz.func18, Tryz.ntmps18
    go_wp2_with fail
    refine hF.mono ?_
    rintro e w1 ⟨rfl, rfl⟩
    go_wp2_with fail
    refine HR.out.mono ?_
    rintro e w2 ⟨rfl, hb2⟩
    have HB := hide hb2
    clear hb2
    go_wp2
    go_ret
    exact ⟨rfl, HB.out⟩
end Go.Proofs.YtchhojkhfdkhfaaGreatDoor
namespace Go.Proofs.YtchhojkhfdkhfaaGreatDoor
open Go Go.RowKit Frm
/-- A function value's function, and what it is called with. -/
def fnOf8 : Value → Option (Nat × Array Value)
  | .func (.func n) r c => some (n, r ++ c)
  | _ => none
def Does8 (v : Value) (w : World) (P : Ending → World → Prop) : Prop := ∀ n a, fnOf8 v = some (n, a) → Calls Tryz.prog n a w P
def GForm (v : Value) : Prop := (∃ a b, v = .func (.func 52) #[] #[a, b]) ∨ (∃ a, v = .func (.func 53) #[] #[a]) ∨ (∃ a b, v = .func (.func 55) #[] #[a, b])
theorem guarded_nil (v : Value) (w : World) (hF : Calls Tryz.prog 40 #[.pointer none] w fun e v => e = .returned (.int .i64 1) ∧ v = w) : Calls Tryz.prog 51 #[.pointer none, v] w fun e v => e = .returned (.int .i64 1) ∧ v = w := by
  go_enter Tryz.func51, Tryz.ntmps51
  go_wp2_with fail
  refine hF.mono ?_
  rintro e w1 ⟨rfl, rfl⟩
  go_wp2
  go_ret
  exact ⟨rfl, rfl⟩
theorem guarded_down (p : Nat) (v : Value) (w : World) (hF : Calls Tryz.prog 40 #[.pointer (some ⟨p, 0, none⟩)] w fun e v => e = .returned (.int .i64 3) ∧ v = w) : Calls Tryz.prog 51 #[.pointer (some ⟨p, 0, none⟩), v] w fun e v => e = .returned (.int .i64 3) ∧ v = w := by
  go_enter Tryz.func51, Tryz.ntmps51
  go_wp2_with fail
  refine hF.mono ?_
  rintro e w1 ⟨rfl, rfl⟩
  go_wp2
  go_ret
  exact ⟨rfl, rfl⟩
theorem guarded_any (p : Nat) (v : Value) (w : World) (Q : Int → World → Prop) (hv : GForm v) (hF : Calls Tryz.prog 40 #[.pointer (some ⟨p, 0, none⟩)] w fun e v => e = .returned (.int .i64 0) ∧ v = w)
    (hdo : Does8 v w fun e w' => ∃ x : Int, e = .returned (.int .i64 x) ∧ Q x w') (hc : ∀ x w', Q x w' → (∃ y, w'.cell? ⟨p, 5, none⟩ = some y) ∧ w'.frozen? ⟨p, 5, none⟩ = false) :
    Calls Tryz.prog 51 #[.pointer (some ⟨p, 0, none⟩), v] w fun e w' => ∃ x w0, e = .returned (.int .i64 x) ∧ Q x w0 ∧ w' = w0.setCell ⟨p, 5, none⟩ (.bool (x == 50)) := by
  have HD := hide hdo
  have HC := hide hc
  clear hdo hc
  rcases hv with ⟨a, b, rfl⟩ | ⟨a, rfl⟩ | ⟨a, b, rfl⟩
  · have KC := hide (HD.out 52 #[a, b] rfl)
    clear HD
    go_enter Tryz.func51, Tryz.ntmps51
    go_wp2_with fail
    refine hF.mono ?_
    rintro e w1 ⟨rfl, rfl⟩
    go_wp2_with fail
    refine KC.out.mono ?_
    rintro e w2 ⟨x, rfl, hq⟩
    obtain ⟨⟨y, hy⟩, hfr⟩ := HC.out x w2 hq
    have HQ := hide hq
    clear hq
    go_wp2
    go_ret
    exact ⟨x, w2, rfl, HQ.out, rfl⟩
  · have KC := hide (HD.out 53 #[a] rfl)
    clear HD
    go_enter Tryz.func51, Tryz.ntmps51
    go_wp2_with fail
    refine hF.mono ?_
    rintro e w1 ⟨rfl, rfl⟩
    go_wp2_with fail
    refine KC.out.mono ?_
    rintro e w2 ⟨x, rfl, hq⟩
    obtain ⟨⟨y, hy⟩, hfr⟩ := HC.out x w2 hq
    have HQ := hide hq
    clear hq
    go_wp2
    go_ret
    exact ⟨x, w2, rfl, HQ.out, rfl⟩
  · have KC := hide (HD.out 55 #[a, b] rfl)
    clear HD
    go_enter Tryz.func51, Tryz.ntmps51
    go_wp2_with fail
    refine hF.mono ?_
    rintro e w1 ⟨rfl, rfl⟩
    go_wp2_with fail
    refine KC.out.mono ?_
    rintro e w2 ⟨x, rfl, hq⟩
    obtain ⟨⟨y, hy⟩, hfr⟩ := HC.out x w2 hq
    have HQ := hide hq
    clear hq
    go_wp2
    go_ret
    exact ⟨x, w2, rfl, HQ.out, rfl⟩
theorem append_ahead (n : Nat) (a : Addr) (w : World) : (nilAhead (n + 1) 143 (.pointer (some a)) "Append").run Tryz.prog w = .ok (some false) w := by kernel_rfl
theorem append_is (n : Nat) (a : Addr) (w : World) : (method (n + 1) 143 (.pointer (some a)) "Append").run Tryz.prog w = .ok (192, .pointer (some a)) w := by kernel_rfl
/-- A box. -/
theorem StAt.below {u v : World} {p pl q ck lg g : Nat} {b : Bool} (h : StAt u p pl q ck lg g b) (hb : Below u.heap.size u v) : StAt v p pl q ck lg g b := h.same (hb.block p h.lt)
theorem cellB9 {u v : World} {a : Addr} {y : Value} (hb : Below u.heap.size u v) (h : u.cell? a = some y) : v.cell? a = some y := (hb.cell (World.block_lt_of_cell? u _ h)).trans h
set_option maxHeartbeats 1000000 in
theorem append1_any (B1 B2 p pl q ck lg g : Nat) (bb : Bool) (t : ByteArray) (u : World) (P : Ending → World → Prop) (h1 : u.cell? ⟨B1, 0, none⟩ = some (.pointer (some ⟨p, 0, none⟩))) (h2 : u.cell? ⟨B2, 0, none⟩ = some (.string t))
    (hs : StAt u p pl q ck lg g bb) (hP : ∀ e w', P e w' → ∃ x, e = .returned x ∧ w'.cell? ⟨B1, 0, none⟩ = some (.pointer (some ⟨p, 0, none⟩)) ∧ w'.cell? ⟨B2, 0, none⟩ = some (.string t) ∧ w'.cell? ⟨p, 0, none⟩ = some (.iface 143 (.pointer (some ⟨pl, 0, none⟩)))) (hA : ∀ v, Below u.heap.size u v → Calls Tryz.prog 192 #[.pointer (some ⟨pl, 0, none⟩), .string t] v P) :
    Calls Tryz.prog 52 #[.pointer (some ⟨B1, 0, none⟩), .pointer (some ⟨B2, 0, none⟩)] u P := by
  have HC : Hid (∀ v, Below u.heap.size u v → v.cell? ⟨B1, 0, none⟩ = some (.pointer (some ⟨p, 0, none⟩)) ∧ v.cell? ⟨B2, 0, none⟩ = some (.string t) ∧ v.cell? ⟨p, 0, none⟩ = some (.iface 143 (.pointer (some ⟨pl, 0, none⟩)))) := fun v hb => ⟨cellB9 hb h1, cellB9 hb h2, cellB9 hb hs.c.1⟩
  have HA := hide hA
  have HP := hide hP
  have K : Below u.heap.size u u.drew := (Below.refl _ u).drew
  have hm := fun n (w : World) => append_is n ⟨pl, 0, none⟩ w
  have ha := fun n (w : World) => append_ahead n ⟨pl, 0, none⟩ w
  clear h1 h2 hs hA hP
  go_enter Tryz.func52, Tryz.ntmps52
  go_wp2_with fail
  go_region_held3 (fun z => z.cell? ⟨B1, 0, none⟩ = some (.pointer (some ⟨p, 0, none⟩)) ∧ z.cell? ⟨B2, 0, none⟩ = some (.string t) ∧ z.cell? ⟨p, 0, none⟩ = some (.iface 143 (.pointer (some ⟨pl, 0, none⟩))))
    ((first | (with_reducible exact HC.out _ K) | (with_reducible exact K.2)))
    (first
      | (go_at_call 192; refine (HA.out _ K).mono ?_; rintro e z0 hz; obtain ⟨x, rfl, hcs⟩ := HP.out _ _ hz; have K := And.intro hz hcs))
  all_goals
    have HK := hide K.1
    clear K
    go_wp2
    exact HK.out

set_option maxHeartbeats 1000000 in
theorem sync1_any (B1 p pl q ck lg g : Nat) (bb : Bool) (u : World) (P : Ending → World → Prop) (h1 : u.cell? ⟨B1, 0, none⟩ = some (.pointer (some ⟨p, 0, none⟩)))
    (hs : StAt u p pl q ck lg g bb) (hP : ∀ e w', P e w' → ∃ x, e = .returned x) (hA : Calls Tryz.prog 54 #[.pointer (some ⟨q, 0, none⟩)] u P) :
    Calls Tryz.prog 53 #[.pointer (some ⟨B1, 0, none⟩)] u P := by
  obtain ⟨-, -, c2, -, -, -⟩ := hs.c
  have HP := hide hP
  have HA := hide hA
  clear hs hA hP
  go_enter Tryz.func53, Tryz.ntmps53
  go_wp2_with fail
  refine HA.out.mono ?_
  rintro e z0 hz
  obtain ⟨x, rfl⟩ := HP.out _ _ hz
  have HZ := hide hz
  clear hz
  go_wp2
  exact HZ.out
set_option maxHeartbeats 1000000 in
theorem aroom_any (pd : Option Addr) (ck : Int) (lg r : Int) (w : World) (hK : ∀ u, Calls Tryz.prog 48 #[areaV pd ck lg] u fun e w' => e = .returned (.int .i64 (2 * ck)) ∧ Below u.heap.size u w') (hR : ∀ u, Calls Tryz.prog 87 #[.int .i64 (2 * ck)] u fun e v => e = .returned (.int .i64 r) ∧ v = u) :
    Calls Tryz.prog 56 #[areaV pd ck lg] w fun e w' => e = .returned (.int .i64 r) ∧ Below w.heap.size w w' := by
  have HB := hide (one_below w (.cells #[.pointer pd, .int .i64 ck, .int .i64 lg] 102))
  obtain ⟨c0, c1, c2⟩ := area_cells w pd ck lg _ (Below.refl _ _)
  have HK := hide hK
  have HR := hide hR
  unfold areaV at *
  clear hK hR
  go_enter Tryz.func56, Tryz.ntmps56
  go_wp2_with fail
  generalize w.alloc (.cells #[.pointer pd, .int .i64 ck, .int .i64 lg] 102) = W at *
  refine (HK.out _).mono ?_
  rintro e w1 ⟨rfl, hb1⟩
  have HB1 := hide (bnext HB.out hb1)
  clear hb1 c0 c1 c2
  go_wp2_with fail
  refine (HR.out _).mono ?_
  rintro e w2 ⟨rfl, rfl⟩
  go_wp2
  go_ret
  exact ⟨rfl, HB1.out⟩
/-- Trim's own step: what it asks first. -/
theorem trim_gen (B1 B2 p pl q ck lg g : Nat) (bb : Bool) (u : World) (h1 : u.cell? ⟨B1, 0, none⟩ = some (.pointer (some ⟨p, 0, none⟩))) (hs : StAt u p pl q ck lg g bb) (hg : g = 4611686018427387904) :
    Calls Tryz.prog 55 #[.pointer (some ⟨B1, 0, none⟩), .pointer (some ⟨B2, 0, none⟩)] u fun e v => e = .returned (.int .i64 2) ∧ v = u := by
  obtain ⟨-, c1, -, -, -, -⟩ := hs.c
  subst hg
  clear hs
  go_enter Tryz.func55, Tryz.ntmps55
  go_wp2
  go_ret
  exact ⟨rfl, rfl⟩
end Go.Proofs.YtchhojkhfdkhfaaGreatDoor
namespace Go.Proofs.YtchhojkhfdkhfaaGreatDoor
open Go Go.RowKit Frm
def SForm (v : Value) : Prop := (∃ a, v = .func (.func 42) #[a] #[]) ∨ (∃ a, v = .func (.func 43) #[a] #[]) ∨ (∃ a b, v = .func (.func 76) #[] #[a, b]) ∨ (∃ a b c, v = .func (.func 79) #[] #[a, b, c]) ∨ (∃ a b c, v = .func (.func 46) #[] #[a, b, c]) ∨ (∃ a b, v = .func (.func 49) #[] #[a, b]) ∨ (∃ a b c, v = .func (.func 88) #[] #[a, b, c])
set_option maxRecDepth 10000 in
set_option maxHeartbeats 2000000 in
theorem inOrder8 (b off c : Nat) (vs : List Value) (R : Nat → World → Prop) (Q : Int → World → Prop) (w : World) (hn : vs.length ≤ 5000)
    (hcells : ∀ k (hk : k < vs.length) u, R k u → u.cell? ⟨b, off + k, none⟩ = some vs[k]) (hform : ∀ k (hk : k < vs.length), SForm vs[k])
    (hstep : ∀ k (hk : k < vs.length) u, R k u → Does8 vs[k] u fun e v => ∃ x : Int, e = .returned (.int .i64 x) ∧ ((x = 0 ∧ R (k + 1) v) ∨ (x ≠ 0 ∧ Q x v))) (h0 : R 0 w) :
    Calls Tryz.prog 41 #[.slice (some ⟨b, off, none⟩) vs.length c] w fun e v => ∃ x : Int, e = .returned (.int .i64 x) ∧ ((x = 0 ∧ R vs.length v) ∨ (x ≠ 0 ∧ Q x v)) := by
  have HC := hide hcells
  have HF := hide hform
  have HS := hide hstep
  have HN := hide hn
  have H0 := hide h0
  clear hcells hform hstep hn h0
  go_enter Tryz.func41, Tryz.ntmps41
  go_wp2_with fail
  go_loopw [4, 5, 8] (fun d e i wr => ∃ (k : Nat), k ≤ vs.length ∧ i = .int .i64 (k : Int) ∧ R k wr) (fun _ _ i _ => vs.length - (intOf i).toNat)
  case atStart => exact ⟨0, Nat.zero_le _, rfl, H0.out⟩
  case round =>
    obtain ⟨k, hk, rfl, hU⟩ := hrel
    have HU := hide hU
    clear hU
    by_cases hlt : k < vs.length
    · have hcell := HC.out k hlt wr HU.out
      have hform := HF.out k hlt
      have hn := HN.out
      have HSt := hide (HS.out k hlt wr HU.out)
      generalize vs[k] = x at *
      rcases hform with ⟨a, rfl⟩ | ⟨a, rfl⟩ | ⟨a, b, rfl⟩ | ⟨a, b, c, rfl⟩ | ⟨a, b, c, rfl⟩ | ⟨a, b, rfl⟩ | ⟨a, b, c, rfl⟩
      · have KC := hide (HSt.out 42 #[a] rfl)
        clear HSt
        go_wp2_with fail
        refine KC.out.mono ?_
        clear KC
        rintro e w1 ⟨x, rfl, hx⟩
        rcases hx with ⟨rfl, hr⟩ | ⟨hx, hq⟩
        · have HR1 := hide hr
          clear hr
          go_wp2
          go_roundw
          case rel => exact ⟨k + 1, hlt, by go_num, HR1.out⟩
          case measure => simp [intOf]; omega
        · have HQ := hide hq
          clear hq
          go_wp2
          go_ret
          exact ⟨x, rfl, Or.inr ⟨hx, HQ.out⟩⟩
      · have KC := hide (HSt.out 43 #[a] rfl)
        clear HSt
        go_wp2_with fail
        refine KC.out.mono ?_
        clear KC
        rintro e w1 ⟨x, rfl, hx⟩
        rcases hx with ⟨rfl, hr⟩ | ⟨hx, hq⟩
        · have HR1 := hide hr
          clear hr
          go_wp2
          go_roundw
          case rel => exact ⟨k + 1, hlt, by go_num, HR1.out⟩
          case measure => simp [intOf]; omega
        · have HQ := hide hq
          clear hq
          go_wp2
          go_ret
          exact ⟨x, rfl, Or.inr ⟨hx, HQ.out⟩⟩
      · have KC := hide (HSt.out 76 #[a, b] rfl)
        clear HSt
        go_wp2_with fail
        refine KC.out.mono ?_
        clear KC
        rintro e w1 ⟨x, rfl, hx⟩
        rcases hx with ⟨rfl, hr⟩ | ⟨hx, hq⟩
        · have HR1 := hide hr
          clear hr
          go_wp2
          go_roundw
          case rel => exact ⟨k + 1, hlt, by go_num, HR1.out⟩
          case measure => simp [intOf]; omega
        · have HQ := hide hq
          clear hq
          go_wp2
          go_ret
          exact ⟨x, rfl, Or.inr ⟨hx, HQ.out⟩⟩
      · have KC := hide (HSt.out 79 #[a, b, c] rfl)
        clear HSt
        go_wp2_with fail
        refine KC.out.mono ?_
        clear KC
        rintro e w1 ⟨x, rfl, hx⟩
        rcases hx with ⟨rfl, hr⟩ | ⟨hx, hq⟩
        · have HR1 := hide hr
          clear hr
          go_wp2
          go_roundw
          case rel => exact ⟨k + 1, hlt, by go_num, HR1.out⟩
          case measure => simp [intOf]; omega
        · have HQ := hide hq
          clear hq
          go_wp2
          go_ret
          exact ⟨x, rfl, Or.inr ⟨hx, HQ.out⟩⟩
      · have KC := hide (HSt.out 46 #[a, b, c] rfl)
        clear HSt
        go_wp2_with fail
        refine KC.out.mono ?_
        clear KC
        rintro e w1 ⟨x, rfl, hx⟩
        rcases hx with ⟨rfl, hr⟩ | ⟨hx, hq⟩
        · have HR1 := hide hr
          clear hr
          go_wp2
          go_roundw
          case rel => exact ⟨k + 1, hlt, by go_num, HR1.out⟩
          case measure => simp [intOf]; omega
        · have HQ := hide hq
          clear hq
          go_wp2
          go_ret
          exact ⟨x, rfl, Or.inr ⟨hx, HQ.out⟩⟩
      · have KC := hide (HSt.out 49 #[a, b] rfl)
        clear HSt
        go_wp2_with fail
        refine KC.out.mono ?_
        clear KC
        rintro e w1 ⟨x, rfl, hx⟩
        rcases hx with ⟨rfl, hr⟩ | ⟨hx, hq⟩
        · have HR1 := hide hr
          clear hr
          go_wp2
          go_roundw
          case rel => exact ⟨k + 1, hlt, by go_num, HR1.out⟩
          case measure => simp [intOf]; omega
        · have HQ := hide hq
          clear hq
          go_wp2
          go_ret
          exact ⟨x, rfl, Or.inr ⟨hx, HQ.out⟩⟩
      · have KC := hide (HSt.out 88 #[a, b, c] rfl)
        clear HSt
        go_wp2_with fail
        refine KC.out.mono ?_
        clear KC
        rintro e w1 ⟨x, rfl, hx⟩
        rcases hx with ⟨rfl, hr⟩ | ⟨hx, hq⟩
        · have HR1 := hide hr
          clear hr
          go_wp2
          go_roundw
          case rel => exact ⟨k + 1, hlt, by go_num, HR1.out⟩
          case measure => simp [intOf]; omega
        · have HQ := hide hq
          clear hq
          go_wp2
          go_ret
          exact ⟨x, rfl, Or.inr ⟨hx, HQ.out⟩⟩
    · have hke : k = vs.length := by omega
      subst hke
      have hz : ¬ ((vs.length : Int) < (vs.length : Int)) := by omega
      go_wp2
      go_ret
      exact ⟨0, rfl, Or.inl ⟨rfl, HU.out⟩⟩
end Go.Proofs.YtchhojkhfdkhfaaGreatDoor
namespace Go.Proofs.YtchhojkhfdkhfaaGreatDoor
open Go Go.RowKit Frm
set_option maxHeartbeats 400000 in
theorem clearing_any (pd : Option Addr) (ck lg : Int) (g : Int) (w : World) : Calls Tryz.prog 44 #[areaV pd ck lg, .int .u64 g] w fun e v => e = .returned (.func (.func 76) #[] #[.pointer (some ⟨w.heap.size, 0, none⟩), .pointer (some ⟨w.heap.size + 1, 0, none⟩)]) ∧ v = (w.alloc (.cells #[.pointer pd, .int .i64 ck, .int .i64 lg] 102)).alloc (.cells #[.int .u64 g] 50) := by
  unfold areaV
  go_enter Tryz.func44, Tryz.ntmps44
  go_wp2
  go_ret
  exact ⟨rfl, rfl⟩
set_option maxHeartbeats 400000 in
theorem saving_any (pd : Option Addr) (ck lg : Int) (g : Int) (t : ByteArray) (w : World) : Calls Tryz.prog 45 #[areaV pd ck lg, .int .u64 g, .string t] w fun e v => e = .returned (.func (.func 79) #[] #[.pointer (some ⟨w.heap.size, 0, none⟩), .pointer (some ⟨w.heap.size + 1, 0, none⟩), .pointer (some ⟨w.heap.size + 1 + 1, 0, none⟩)]) ∧ v = ((w.alloc (.cells #[.pointer pd, .int .i64 ck, .int .i64 lg] 102)).alloc (.cells #[.int .u64 g] 50)).alloc (.cells #[.string t] 9) := by
  unfold areaV
  go_enter Tryz.func45, Tryz.ntmps45
  go_wp2
  go_ret
  exact ⟨rfl, rfl⟩
/-- A box that holds an area, another that holds a number. -/
def ABox (B1 B2 q : Nat) (ck lg : Int) (g : Int) (u : World) : Prop := u.cell? ⟨B1, 0, none⟩ = some (.pointer (some ⟨q, 0, none⟩)) ∧ u.cell? ⟨B1, 1, none⟩ = some (.int .i64 ck) ∧ u.cell? ⟨B1, 2, none⟩ = some (.int .i64 lg) ∧ u.cell? ⟨B2, 0, none⟩ = some (.int .u64 g)
theorem ABox.below {B1 B2 q : Nat} {ck lg g : Int} {u v : World} (h : ABox B1 B2 q ck lg g u) (hb : Below u.heap.size u v) : ABox B1 B2 q ck lg g v := ⟨cellB9 hb h.1, cellB9 hb h.2.1, cellB9 hb h.2.2.1, cellB9 hb h.2.2.2⟩
set_option maxHeartbeats 1000000 in
theorem clear1_any (B1 B2 q : Nat) (ck lg : Int) (g o : Int) (u : World) (P : Ending → World → Prop) (h : ABox B1 B2 q ck lg g u) (hP : ∀ e w', P e w' → ∃ x, e = .returned x ∧ ABox B1 B2 q ck lg g w')
    (hL : ∀ v, Calls Tryz.prog 78 #[areaV (some ⟨q, 0, none⟩) ck lg, .int .u64 g] v fun e w' => e = .returned (.int .i64 o) ∧ Below v.heap.size v w')
    (hA : ∀ v, Below u.heap.size u v → Calls Tryz.prog 77 #[.pointer (some ⟨q, 0, none⟩), .int .i64 o, .int .i64 lg] v P) :
    Calls Tryz.prog 76 #[.pointer (some ⟨B1, 0, none⟩), .pointer (some ⟨B2, 0, none⟩)] u P := by
  have HC : Hid (∀ v, Below u.heap.size u v → ABox B1 B2 q ck lg g v) := fun v hb => h.below hb
  have HA := hide hA
  have HP := hide hP
  have HL := hide hL
  have K : Below u.heap.size u u.drew := (Below.refl _ u).drew
  unfold areaV ABox at *
  clear h hA hP hL
  go_enter Tryz.func76, Tryz.ntmps76
  go_wp2_with fail
  go_region_held3 (fun z => z.cell? ⟨B1, 0, none⟩ = some (.pointer (some ⟨q, 0, none⟩)) ∧ z.cell? ⟨B1, 1, none⟩ = some (.int .i64 ck) ∧ z.cell? ⟨B1, 2, none⟩ = some (.int .i64 lg) ∧ z.cell? ⟨B2, 0, none⟩ = some (.int .u64 g))
    ((first | (with_reducible exact HC.out _ K) | (with_reducible exact K.2)))
    (first
      | (go_at_call 78; refine (HL.out _).mono ?_; rintro e z0 ⟨rfl, hb0⟩; have K := bnext K hb0)
      | (go_at_call 77; refine (HA.out _ K).mono ?_; rintro e z0 hz; obtain ⟨x, rfl, hcs⟩ := HP.out _ _ hz; have K := And.intro hz hcs))
  all_goals
    have HK := hide K.1
    clear K
    go_wp2
    exact HK.out
set_option maxHeartbeats 1000000 in
theorem save1_any (B1 B2 B3 q : Nat) (ck lg : Int) (g n : Int) (t : ByteArray) (u : World) (P : Ending → World → Prop) (h : ABox B1 B2 q ck lg g u) (h3 : u.cell? ⟨B3, 0, none⟩ = some (.string t)) (hP : ∀ e w', P e w' → ∃ x, e = .returned x ∧ ABox B1 B2 q ck lg g w' ∧ w'.cell? ⟨B3, 0, none⟩ = some (.string t))
    (hL : ∀ v, Calls Tryz.prog 48 #[areaV (some ⟨q, 0, none⟩) ck lg] v fun e w' => e = .returned (.int .i64 n) ∧ Below v.heap.size v w')
    (hA : ∀ v, Below u.heap.size u v → Calls Tryz.prog 80 #[.pointer (some ⟨q, 0, none⟩), .int .i64 0, .int .i64 n, .int .u64 g, .string t] v P) :
    Calls Tryz.prog 79 #[.pointer (some ⟨B1, 0, none⟩), .pointer (some ⟨B2, 0, none⟩), .pointer (some ⟨B3, 0, none⟩)] u P := by
  have HC : Hid (∀ v, Below u.heap.size u v → ABox B1 B2 q ck lg g v ∧ v.cell? ⟨B3, 0, none⟩ = some (.string t)) := fun v hb => ⟨h.below hb, cellB9 hb h3⟩
  have HA := hide hA
  have HP := hide hP
  have HL := hide hL
  have K : Below u.heap.size u u.drew := (Below.refl _ u).drew
  unfold areaV ABox at *
  clear h h3 hA hP hL
  go_enter Tryz.func79, Tryz.ntmps79
  go_wp2_with fail
  go_region_held3 (fun z => (z.cell? ⟨B1, 0, none⟩ = some (.pointer (some ⟨q, 0, none⟩)) ∧ z.cell? ⟨B1, 1, none⟩ = some (.int .i64 ck) ∧ z.cell? ⟨B1, 2, none⟩ = some (.int .i64 lg) ∧ z.cell? ⟨B2, 0, none⟩ = some (.int .u64 g)) ∧ z.cell? ⟨B3, 0, none⟩ = some (.string t))
    ((first | (with_reducible exact HC.out _ K) | (with_reducible exact K.2)))
    (first
      | (go_at_call 48; refine (HL.out _).mono ?_; rintro e z0 ⟨rfl, hb0⟩; have K := bnext K hb0)
      | (go_at_call 80; refine (HA.out _ K).mono ?_; rintro e z0 hz; obtain ⟨x, rfl, hcs⟩ := HP.out _ _ hz; have K := And.intro hz hcs))
  all_goals
    have HK := hide K.1
    clear K
    go_wp2
    exact HK.out
end Go.Proofs.YtchhojkhfdkhfaaGreatDoor
namespace Go.Proofs.YtchhojkhfdkhfaaGreatDoor
open Go Go.RowKit Frm
/-- An area's log, open. -/
def AHas (q o N g : Nat) (s : ByteArray) (recs : List ByteArray) (st : St) (F : Nat → Prop) (w : World) (e : Ending) (w' : World) : Prop :=
  ∃ pl vR F', e = .returned (.tuple #[.agg #[.iface 143 (.pointer (some ⟨pl, 0, none⟩)), .int .u64 (g : Int)], vR, .int .i64 0]) ∧ LAt w' pl q o N s false ∧ w.heap.size ≤ pl ∧ OwnL w' w.heap.size vR recs ∧ DAt w' q st F' ∧ Loc F F' w w' ∧ ¬ F' pl ∧ (∀ k, F' k → ¬ OB vR k) ∧ ¬ OB vR pl
def ANo (q : Nat) (st : St) (F : Nat → Prop) (w : World) (x : Int) (e : Ending) (w' : World) : Prop := e = .returned (.tuple #[.agg #[.nilIface, .int .u64 0], .slice none 0 0, .int .i64 x]) ∧ ∃ F', DAt w' q st F' ∧ Loc F F' w w'
theorem results_ctt {P : Program} {fn : Func} {t c u : Tmp} {ty : TypeId} (h : fn.results = #[.cell c ty, .tmp t, .tmp u]) (tmps : Array Value) (w : World) (g : Nat) (tt : TypeId) (cs : Array Value) (fr : Nat × Nat) (d : TypeDesc)
    (hp : tmps.getD c undef = .pointer (some ⟨g, 0, none⟩)) (hg : w.heap[g]? = some (.cells cs tt fr))
    (hu : P.underlying ty = some d) (hd : (match d with | .struct _ | .array _ _ => true | _ => false) = true) (hi : (P.info? ty).map (·.size) = some cs.size) :
    (results fn tmps).run P w = .ok (.tuple #[.agg cs, tmps.getD t undef, tmps.getD u undef]) w := by
  have hp' : tmps[c]?.getD undef = .pointer (some ⟨g, 0, none⟩) := by simpa using hp
  simp [results, h, hp', asAddr, run_loadVar_row w g tt ty cs fr d hg hu hd hi]
theorem info100 : (Tryz.prog.info? 100).map (·.size) = some 2 := by kernel_rfl
theorem row_cells2 {u : World} {B : Nat} {x y : Value} {T : TypeId} (h : u.heap[B]? = some (.cells #[x, y] T (0, 0))) : u.cell? ⟨B, 0, none⟩ = some x ∧ u.cell? ⟨B, 1, none⟩ = some y ∧ u.frozen? ⟨B, 0, none⟩ = false ∧ u.frozen? ⟨B, 1, none⟩ = false := by
  refine ⟨?_, ?_, ?_, ?_⟩ <;> simp [World.cell?, World.frozen?, h]
theorem row_set2 {u : World} {B : Nat} {x y : Value} {T : TypeId} (h : u.heap[B]? = some (.cells #[x, y] T (0, 0))) (a b : Value) : ((u.setCell ⟨B, 0, none⟩ a).setCell ⟨B, 1, none⟩ b).heap[B]? = some (.cells #[a, b] T (0, 0)) :=
  heap_set3 (i := 1) (heap_set3 (i := 0) h a) b
theorem set2_other (u : World) (B : Nat) (a b : Value) (k : Nat) (hk : k ≠ B) : ((u.setCell ⟨B, 0, none⟩ a).setCell ⟨B, 1, none⟩ b).heap[k]? = u.heap[k]? := by
  rw [Below.heap_setCell _ ⟨B, 1, none⟩ b k hk, Below.heap_setCell _ ⟨B, 0, none⟩ a k hk]
/-- A call since v, with a box of the caller's own between w and v, written behind it. -/
theorem loc_boxed {F F' : Nat → Prop} {w v z : World} {B : Nat} (hb : Below w.heap.size w v) (hB : w.heap.size ≤ B) (hl : Loc F F' v z) (a b : Value) : Loc F F' w ((z.setCell ⟨B, 0, none⟩ a).setCell ⟨B, 1, none⟩ b) :=
  (((Loc.of_below F hb).trans hl).set_new B 0 a hB).set_new B 1 b hB
theorem disk_set2 {z : World} {q B : Nat} {st : St} {F' : Nat → Prop} (hd : DAt z q st F') (hn : ¬ F' B) (a b : Value) : DAt ((z.setCell ⟨B, 0, none⟩ a).setCell ⟨B, 1, none⟩ b) q st F' :=
  con.same hd (fun k hk => set2_other z B a b k (fun e => hn (e ▸ hk)))
theorem own_new {F F' : Nat → Prop} {v z : World} (hl : Loc F F' v z) {B : Nat} (hF : ¬ F B) (hB : B < v.heap.size) : ¬ F' B := fun hf => by
  rcases hl.own B hf with h | h
  · exact hF h
  · omega
theorem HasLog.boxed {q o N g : Nat} {s : ByteArray} {recs : List ByteArray} {st : St} {F F' : Nat → Prop} {w v z : World} {pl B : Nat} {vR : Value} (hb : Below w.heap.size w v) (hB : w.heap.size ≤ B) (hBv : B < v.heap.size) (hFB : ¬ F B)
    (h : LAt z pl q o N s false ∧ v.heap.size ≤ pl ∧ OwnL z v.heap.size vR recs ∧ DAt z q st F' ∧ Loc F F' v z ∧ ¬ F' pl ∧ (∀ k, F' k → ¬ OB vR k) ∧ ¬ OB vR pl) (a b : Value) :
    AHas q o N g s recs st F w (.returned (.tuple #[.agg #[.iface 143 (.pointer (some ⟨pl, 0, none⟩)), .int .u64 (g : Int)], vR, .int .i64 0])) ((z.setCell ⟨B, 0, none⟩ a).setCell ⟨B, 1, none⟩ b) := by
  obtain ⟨h1, h2, h3, h4, h5, h6, h7, h8⟩ := h
  have hbs := hb.size
  refine ⟨pl, vR, F', rfl, h1.same (set2_other z B a b pl (by omega)), by omega, ?_, disk_set2 h4 (own_new h5 hFB hBv) a b, loc_boxed hb hB h5 a b, h6, h7, h8⟩
  exact own_up (own_kept h3 (fun k hk => set2_other z B a b k (by have := own_ge h3 hk; omega))) (fun k hk => by have := own_ge h3 hk; omega)
/-- What lies in an area's box, and in that of a result, since w. -/
structure ABx (w : World) (q : Nat) (ck lg : Int) (u : World) : Prop where
  below : Below w.heap.size w u
  c0 : u.cell? ⟨w.heap.size, 0, none⟩ = some (.pointer (some ⟨q, 0, none⟩))
  c1 : u.cell? ⟨w.heap.size, 1, none⟩ = some (.int .i64 ck)
  c2 : u.cell? ⟨w.heap.size, 2, none⟩ = some (.int .i64 lg)
  res : u.heap[w.heap.size + 1]? = some (.cells #[.nilIface, .int .u64 0] 100 (0, 0))
theorem ABx.start (w : World) (q : Nat) (ck lg : Int) : ABx w q ck lg ((w.alloc (.cells #[.pointer (some ⟨q, 0, none⟩), .int .i64 ck, .int .i64 lg] 102)).alloc (.cells #[.nilIface, .int .u64 0] 100)) := by
  obtain ⟨c0, c1, c2⟩ := area_cells w (some ⟨q, 0, none⟩) ck lg _ (one_below (w.alloc (.cells #[.pointer (some ⟨q, 0, none⟩), .int .i64 ck, .int .i64 lg] 102)) (.cells #[.nilIface, .int .u64 0] 100))
  refine ⟨grow2 w _ _, c0, c1, c2, ?_⟩
  have := heap_alloc_last (w.alloc (.cells #[.pointer (some ⟨q, 0, none⟩), .int .i64 ck, .int .i64 lg] 102)) (.cells #[.nilIface, .int .u64 0] 100)
  rw [show (w.alloc (.cells #[.pointer (some ⟨q, 0, none⟩), .int .i64 ck, .int .i64 lg] 102)).heap.size = w.heap.size + 1 from by simp] at this
  exact this
theorem ABx.keep {w : World} {q : Nat} {ck lg : Int} {u v : World} (h : ABx w q ck lg u) (hb : Below u.heap.size u v) : ABx w q ck lg v :=
  ⟨bnext h.below hb, cellB9 hb h.c0, cellB9 hb h.c1, cellB9 hb h.c2, (hb.block _ (Array.getElem?_eq_some_iff.1 h.res).1).trans h.res⟩
theorem ABx.cells {w : World} {q : Nat} {ck lg : Int} {u : World} (h : ABx w q ck lg u) : u.cell? ⟨w.heap.size, 0, none⟩ = some (.pointer (some ⟨q, 0, none⟩)) ∧ u.cell? ⟨w.heap.size, 1, none⟩ = some (.int .i64 ck) ∧ u.cell? ⟨w.heap.size, 2, none⟩ = some (.int .i64 lg) := ⟨h.c0, h.c1, h.c2⟩
theorem ABx.loc {w : World} {q : Nat} {ck lg : Int} {u v : World} {F F' : Nat → Prop} (h : ABx w q ck lg u) (hl : Loc F F' u v) (hF : ∀ k, F k → k < w.heap.size) :
    (v.cell? ⟨w.heap.size, 0, none⟩ = some (.pointer (some ⟨q, 0, none⟩)) ∧ v.cell? ⟨w.heap.size, 1, none⟩ = some (.int .i64 ck) ∧ v.cell? ⟨w.heap.size, 2, none⟩ = some (.int .i64 lg)) ∧ v.heap[w.heap.size + 1]? = some (.cells #[.nilIface, .int .u64 0] 100 (0, 0)) := by
  have hlt := World.block_lt_of_cell? u _ h.c0
  have hs := hl.block w.heap.size hlt (fun hf => Nat.lt_irrefl _ (hF _ hf))
  have hr := hl.block (w.heap.size + 1) (Array.getElem?_eq_some_iff.1 h.res).1 (fun hf => by have := hF _ hf; omega)
  exact ⟨⟨(cell_same8 hs 0).trans h.c0, (cell_same8 hs 1).trans h.c1, (cell_same8 hs 2).trans h.c2⟩, hr.trans h.res⟩
set_option maxRecDepth 10000 in
set_option maxHeartbeats 2000000 in
theorem aopen_ok (q o g : Nat) (ck : Int) (lg : Nat) (s : ByteArray) (recs : List ByteArray) (st' : St) (F : Nat → Prop) (w : World) (hF : ∀ k, F k → k < w.heap.size)
    (hL : ∀ v, Calls Tryz.prog 78 #[areaV (some ⟨q, 0, none⟩) ck (lg : Int), .int .u64 (g : Int)] v fun e w' => e = .returned (.int .i64 (o : Int)) ∧ Below v.heap.size v w')
    (hA : ∀ v, Below w.heap.size w v → Calls Tryz.prog 85 #[.pointer (some ⟨q, 0, none⟩), .int .i64 (o : Int), .int .i64 (lg : Int)] v (HasLog q o lg s recs st' F v)) :
    Calls Tryz.prog 50 #[areaV (some ⟨q, 0, none⟩) ck (lg : Int), .int .u64 (g : Int)] w (AHas q o lg g s recs st' F w) := by
  have HA := hide hA
  have HL := hide hL
  have HF := hide hF
  have K := (ABx.start w q ck (lg : Int)).keep ((Below.refl _ _).drew)
  unfold areaV at *
  clear hA hL hF
  go_enter Tryz.func50, Tryz.ntmps50
  go_wp2_with fail
  generalize (w.alloc (.cells #[.pointer (some ⟨q, 0, none⟩), .int .i64 ck, .int .i64 (lg : Int)] 102)).alloc (.cells #[.nilIface, .int .u64 0] 100) = W at *
  go_region_held3 (fun z => z.cell? ⟨w.heap.size, 0, none⟩ = some (.pointer (some ⟨q, 0, none⟩)) ∧ z.cell? ⟨w.heap.size, 1, none⟩ = some (.int .i64 ck) ∧ z.cell? ⟨w.heap.size, 2, none⟩ = some (.int .i64 (lg : Int)))
    ((first | (with_reducible exact ABx.cells K) | (with_reducible exact K.1.1)))
    (first
      | (go_at_call 78; refine (HL.out _).mono ?_; rintro e z0 ⟨rfl, hb0⟩; have K := ABx.keep K hb0)
      | (go_at_call 85; refine (HA.out _ K.below).mono ?_; rintro e z0 ⟨pl, vR, F', rfl, hz⟩; have K := And.intro (K.loc hz.2.2.2.2.1 HF.out) (And.intro K hz)))
  all_goals
    obtain ⟨⟨-, hrow⟩, hbx, hz⟩ := K
    have HZ := hide (And.intro hbx hz)
    obtain ⟨r0, r1, f0, f1⟩ := row_cells2 hrow
    have HRow := hide hrow
    clear hrow hbx hz
    go_wp2
    exact bodyPost_ret (results_ctt Tryz.results50 _ _ (w.heap.size + 1) 100 _ (0, 0) _ rfl (row_set2 HRow.out _ _) Tryz.underlying100 rfl info100) rfl (HasLog.boxed HZ.out.1.below (Nat.le_succ _) (Array.getElem?_eq_some_iff.1 HZ.out.1.res).1 (fun hf => by have := HF.out _ hf; omega) HZ.out.2 _ _)
set_option maxRecDepth 10000 in
set_option maxHeartbeats 2000000 in
theorem aopen_no (q o g : Nat) (ck : Int) (lg : Nat) (x : Int) (hx : x ≠ 0) (st' : St) (F : Nat → Prop) (w : World) (hF : ∀ k, F k → k < w.heap.size)
    (hL : ∀ v, Calls Tryz.prog 78 #[areaV (some ⟨q, 0, none⟩) ck (lg : Int), .int .u64 (g : Int)] v fun e w' => e = .returned (.int .i64 (o : Int)) ∧ Below v.heap.size v w')
    (hA : ∀ v, Below w.heap.size w v → Calls Tryz.prog 85 #[.pointer (some ⟨q, 0, none⟩), .int .i64 (o : Int), .int .i64 (lg : Int)] v (NoLog q st' F v x)) :
    Calls Tryz.prog 50 #[areaV (some ⟨q, 0, none⟩) ck (lg : Int), .int .u64 (g : Int)] w (ANo q st' F w x) := by
  have HA := hide hA
  have HL := hide hL
  have HF := hide hF
  have K := (ABx.start w q ck (lg : Int)).keep ((Below.refl _ _).drew)
  unfold areaV at *
  clear hA hL hF
  go_enter Tryz.func50, Tryz.ntmps50
  go_wp2_with fail
  generalize (w.alloc (.cells #[.pointer (some ⟨q, 0, none⟩), .int .i64 ck, .int .i64 (lg : Int)] 102)).alloc (.cells #[.nilIface, .int .u64 0] 100) = W at *
  go_region_held3 (fun z => z.cell? ⟨w.heap.size, 0, none⟩ = some (.pointer (some ⟨q, 0, none⟩)) ∧ z.cell? ⟨w.heap.size, 1, none⟩ = some (.int .i64 ck) ∧ z.cell? ⟨w.heap.size, 2, none⟩ = some (.int .i64 (lg : Int)))
    ((first | (with_reducible exact ABx.cells K) | (with_reducible exact K.1.1)))
    (first
      | (go_at_call 78; refine (HL.out _).mono ?_; rintro e z0 ⟨rfl, hb0⟩; have K := ABx.keep K hb0)
      | (go_at_call 85; refine (HA.out _ K.below).mono ?_; rintro e z0 ⟨rfl, F', hz⟩; have K := And.intro (K.loc hz.2 HF.out) (And.intro K hz)))
  all_goals
    obtain ⟨⟨-, hrow⟩, hbx, hz⟩ := K
    have HZ := hide (And.intro hbx hz)
    obtain ⟨r0, r1, f0, f1⟩ := row_cells2 hrow
    have HRow := hide hrow
    clear hrow hbx hz
    go_wp2
    exact bodyPost_ret (results_ctt Tryz.results50 _ _ (w.heap.size + 1) 100 _ (0, 0) _ rfl (row_set2 HRow.out _ _) Tryz.underlying100 rfl info100) rfl ⟨rfl, F', disk_set2 HZ.out.2.1 (own_new HZ.out.2.2 (fun hf => by have := HF.out _ hf; omega) (Array.getElem?_eq_some_iff.1 HZ.out.1.res).1) _ _, loc_boxed HZ.out.1.below (Nat.le_succ _) HZ.out.2.2 _ _⟩
end Go.Proofs.YtchhojkhfdkhfaaGreatDoor
namespace Go.Proofs.YtchhojkhfdkhfaaGreatDoor
open Go Go.RowKit Frm
/-- What goOn's own steps read: the store, the number. -/
structure GBx (p q Bs Bg : Nat) (ck lg g : Int) (u : World) : Prop where
  s : u.cell? ⟨Bs, 0, none⟩ = some (.pointer (some ⟨p, 0, none⟩))
  g : u.cell? ⟨Bg, 0, none⟩ = some (.int .u64 g)
  c2 : u.cell? ⟨p, 2, none⟩ = some (.pointer (some ⟨q, 0, none⟩))
  c3 : u.cell? ⟨p, 3, none⟩ = some (.int .i64 ck)
  c4 : u.cell? ⟨p, 4, none⟩ = some (.int .i64 lg)
theorem GBx.all {p q Bs Bg : Nat} {ck lg g : Int} {u : World} (h : GBx p q Bs Bg ck lg g u) : u.cell? ⟨Bs, 0, none⟩ = some (.pointer (some ⟨p, 0, none⟩)) ∧ u.cell? ⟨Bg, 0, none⟩ = some (.int .u64 g) ∧ u.cell? ⟨p, 2, none⟩ = some (.pointer (some ⟨q, 0, none⟩)) ∧ u.cell? ⟨p, 3, none⟩ = some (.int .i64 ck) ∧ u.cell? ⟨p, 4, none⟩ = some (.int .i64 lg) := ⟨h.s, h.g, h.c2, h.c3, h.c4⟩
theorem GBx.same {p q Bs Bg : Nat} {ck lg g : Int} {u v : World} (h : GBx p q Bs Bg ck lg g u) (h1 : v.heap[Bs]? = u.heap[Bs]?) (h2 : v.heap[Bg]? = u.heap[Bg]?) (h3 : v.heap[p]? = u.heap[p]?) : GBx p q Bs Bg ck lg g v :=
  ⟨(cell_same8 h1 0).trans h.s, (cell_same8 h2 0).trans h.g, (cell_same8 h3 2).trans h.c2, (cell_same8 h3 3).trans h.c3, (cell_same8 h3 4).trans h.c4⟩
theorem GBx.lt {p q Bs Bg : Nat} {ck lg g : Int} {u : World} (h : GBx p q Bs Bg ck lg g u) : Bs < u.heap.size ∧ Bg < u.heap.size ∧ p < u.heap.size := ⟨World.block_lt_of_cell? u _ h.s, World.block_lt_of_cell? u _ h.g, World.block_lt_of_cell? u _ h.c2⟩
theorem GBx.below {p q Bs Bg : Nat} {ck lg g : Int} {u v : World} (h : GBx p q Bs Bg ck lg g u) (hb : Below u.heap.size u v) : GBx p q Bs Bg ck lg g v := h.same (hb.block _ h.lt.1) (hb.block _ h.lt.2.1) (hb.block _ h.lt.2.2)
theorem GBx.loc {p q Bs Bg : Nat} {ck lg g : Int} {F F' : Nat → Prop} {u v : World} (h : GBx p q Bs Bg ck lg g u) (hl : Loc F F' u v) (hF : ¬ F Bs ∧ ¬ F Bg ∧ ¬ F p) : GBx p q Bs Bg ck lg g v := h.same (hl.block _ h.lt.1 hF.1) (hl.block _ h.lt.2.1 hF.2.1) (hl.block _ h.lt.2.2 hF.2.2)
theorem GBx.set {p q Bs Bg B : Nat} {ck lg g : Int} {u : World} (h : GBx p q Bs Bg ck lg g u) (hB : B ≠ Bs ∧ B ≠ Bg ∧ B ≠ p) (a b : Value) : GBx p q Bs Bg ck lg g ((u.setCell ⟨B, 0, none⟩ a).setCell ⟨B, 1, none⟩ b) :=
  h.same (set2_other u B a b _ (fun e => hB.1 e.symm)) (set2_other u B a b _ (fun e => hB.2.1 e.symm)) (set2_other u B a b _ (fun e => hB.2.2 e.symm))
/-- The body of AHas. -/
def AHas1 (q o N : Nat) (s : ByteArray) (recs : List ByteArray) (st : St) (F : Nat → Prop) (w : World) (pl : Nat) (vR : Value) (F' : Nat → Prop) (w' : World) : Prop :=
  LAt w' pl q o N s false ∧ w.heap.size ≤ pl ∧ OwnL w' w.heap.size vR recs ∧ DAt w' q st F' ∧ Loc F F' w w' ∧ ¬ F' pl ∧ (∀ k, F' k → ¬ OB vR k) ∧ ¬ OB vR pl
theorem AHas1.back {q o N : Nat} {s : ByteArray} {recs : List ByteArray} {st : St} {F F' : Nat → Prop} {w v z : World} {pl : Nat} {vR : Value} (hb : Below w.heap.size w v) (h : AHas1 q o N s recs st F v pl vR F' z) : AHas1 q o N s recs st F w pl vR F' z := by
  obtain ⟨h1, h2, h3, h4, h5, h6, h7, h8⟩ := h
  have := hb.size
  exact ⟨h1, by omega, own_up h3 (fun k hk => by have := own_ge h3 hk; omega), h4, (Loc.of_below F hb).trans h5, h6, h7, h8⟩
set_option maxRecDepth 10000 in
set_option maxHeartbeats 2000000 in
theorem goOn1_ok (p q o Bs Bg Bn : Nat) (ck lg g : Int) (G N : Nat) (hg : g = (G : Int)) (s : ByteArray) (recs : List ByteArray) (st' : St) (F : Nat → Prop) (u : World) (x0 y0 : Value) (h : GBx p q Bs Bg ck lg g u) (hn : u.heap[Bn]? = some (.cells #[x0, y0] 100 (0, 0)))
    (hF : ¬ F Bs ∧ ¬ F Bg ∧ ¬ F p ∧ ¬ F Bn) (hB : Bn ≠ Bs ∧ Bn ≠ Bg ∧ Bn ≠ p)
    (hA : ∀ v, Below u.heap.size u v → Calls Tryz.prog 50 #[areaV (some ⟨q, 0, none⟩) ck lg, .int .u64 g] v (AHas q o N G s recs st' F v)) :
    Calls Tryz.prog 88 #[.pointer (some ⟨Bs, 0, none⟩), .pointer (some ⟨Bg, 0, none⟩), .pointer (some ⟨Bn, 0, none⟩)] u fun e v => e = .returned (.int .i64 0) ∧ ∃ pl vR F' z, AHas1 q o N s recs st' F u pl vR F' z ∧ v = (z.setCell ⟨Bn, 0, none⟩ (.iface 143 (.pointer (some ⟨pl, 0, none⟩)))).setCell ⟨Bn, 1, none⟩ (.int .u64 g) := by
  subst hg
  have HA := hide hA
  have HF := hide hF
  have HB := hide hB
  have HC : Hid (∀ v, Below u.heap.size u v → GBx p q Bs Bg ck lg (G : Int) v) := fun v hb => h.below hb
  have HN : Hid (∀ v, Below u.heap.size u v → v.heap[Bn]? = some (.cells #[x0, y0] 100 (0, 0))) := fun v hb => (hb.block _ (Array.getElem?_eq_some_iff.1 hn).1).trans hn
  have K : Below u.heap.size u u.drew := (Below.refl _ u).drew
  unfold areaV at *
  clear h hn hF hA hB
  go_enter Tryz.func88, Tryz.ntmps88
  go_wp2_with fail
  go_region_held3 (fun z => z.cell? ⟨Bs, 0, none⟩ = some (.pointer (some ⟨p, 0, none⟩)) ∧ z.cell? ⟨Bg, 0, none⟩ = some (.int .u64 (G : Int)) ∧ z.cell? ⟨p, 2, none⟩ = some (.pointer (some ⟨q, 0, none⟩)) ∧ z.cell? ⟨p, 3, none⟩ = some (.int .i64 ck) ∧ z.cell? ⟨p, 4, none⟩ = some (.int .i64 lg))
    ((first | (with_reducible exact (HC.out _ K).all) | (with_reducible exact K.1.all) | (with_reducible exact (K.2.1 _ _).all)))
    (first
      | (go_at_call 50; refine (HA.out _ K).mono ?_; rintro e z0 ⟨pl, vR, F', rfl, hz⟩; have hlz : Loc F F' _ z0 := hz.2.2.2.2.1; have hrow := (hlz.block Bn (Array.getElem?_eq_some_iff.1 (HN.out _ K)).1 HF.out.2.2.2).trans (HN.out _ K); obtain ⟨r0, r1, f0, f1⟩ := row_cells2 hrow; have hgb := (HC.out _ K).loc hlz ⟨HF.out.1, HF.out.2.1, HF.out.2.2.1⟩; have K := And.intro hgb (And.intro (fun a b => hgb.set HB.out a b) (AHas1.back K hz)); clear hz hlz hrow hgb))
  all_goals
    have HZ := hide K.2.2
    clear K r0 r1 f0 f1
    go_wp2
    go_ret
    exact ⟨rfl, pl, vR, F', _, HZ.out, rfl⟩
set_option maxRecDepth 10000 in
set_option maxHeartbeats 2000000 in
theorem goOn1_no (p q Bs Bg Bn : Nat) (ck lg : Int) (G : Nat) (x : Int) (st' : St) (F : Nat → Prop) (u : World) (x0 y0 : Value) (h : GBx p q Bs Bg ck lg (G : Int) u) (hn : u.heap[Bn]? = some (.cells #[x0, y0] 100 (0, 0)))
    (hF : ¬ F Bs ∧ ¬ F Bg ∧ ¬ F p ∧ ¬ F Bn) (hB : Bn ≠ Bs ∧ Bn ≠ Bg ∧ Bn ≠ p)
    (hA : ∀ v, Below u.heap.size u v → Calls Tryz.prog 50 #[areaV (some ⟨q, 0, none⟩) ck lg, .int .u64 (G : Int)] v (ANo q st' F v x)) :
    Calls Tryz.prog 88 #[.pointer (some ⟨Bs, 0, none⟩), .pointer (some ⟨Bg, 0, none⟩), .pointer (some ⟨Bn, 0, none⟩)] u fun e v => e = .returned (.int .i64 x) ∧ ∃ F' z, (DAt z q st' F' ∧ Loc F F' u z) ∧ v = (z.setCell ⟨Bn, 0, none⟩ .nilIface).setCell ⟨Bn, 1, none⟩ (.int .u64 0) := by
  have HA := hide hA
  have HF := hide hF
  have HB := hide hB
  have HC : Hid (∀ v, Below u.heap.size u v → GBx p q Bs Bg ck lg (G : Int) v) := fun v hb => h.below hb
  have HN : Hid (∀ v, Below u.heap.size u v → v.heap[Bn]? = some (.cells #[x0, y0] 100 (0, 0))) := fun v hb => (hb.block _ (Array.getElem?_eq_some_iff.1 hn).1).trans hn
  have K : Below u.heap.size u u.drew := (Below.refl _ u).drew
  unfold areaV at *
  clear h hn hF hA hB
  go_enter Tryz.func88, Tryz.ntmps88
  go_wp2_with fail
  go_region_held3 (fun z => z.cell? ⟨Bs, 0, none⟩ = some (.pointer (some ⟨p, 0, none⟩)) ∧ z.cell? ⟨Bg, 0, none⟩ = some (.int .u64 (G : Int)) ∧ z.cell? ⟨p, 2, none⟩ = some (.pointer (some ⟨q, 0, none⟩)) ∧ z.cell? ⟨p, 3, none⟩ = some (.int .i64 ck) ∧ z.cell? ⟨p, 4, none⟩ = some (.int .i64 lg))
    ((first | (with_reducible exact (HC.out _ K).all) | (with_reducible exact K.1.all) | (with_reducible exact (K.2.1 _ _).all)))
    (first
      | (go_at_call 50; refine (HA.out _ K).mono ?_; rintro e z0 ⟨rfl, F', hz⟩; have hlz : Loc F F' _ z0 := hz.2; have hrow := (hlz.block Bn (Array.getElem?_eq_some_iff.1 (HN.out _ K)).1 HF.out.2.2.2).trans (HN.out _ K); obtain ⟨r0, r1, f0, f1⟩ := row_cells2 hrow; have hgb := (HC.out _ K).loc hlz ⟨HF.out.1, HF.out.2.1, HF.out.2.2.1⟩; have K := And.intro hgb (And.intro (fun a b => hgb.set HB.out a b) (And.intro hz.1 ((Loc.of_below F K).trans hz.2))); clear hz hlz hrow hgb))
  all_goals
    have HZ := hide K.2.2
    clear K r0 r1 f0 f1
    go_wp2
    go_ret
    exact ⟨rfl, F', _, HZ.out, rfl⟩
end Go.Proofs.YtchhojkhfdkhfaaGreatDoor
