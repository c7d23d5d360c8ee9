/- The program's stores: Open's first step. The program's stores: Open's second step. The program's stores: Open's boxes. The program's stores: Open's steps. The program's stores: Open's walk. The program's stores: Open. The program's stores are what the laws ask. Lists that go behind an empty row. The boxes of the law StoreKeeps. The law StoreKeeps: its calls. -/
import Derived.Test.YtchhojkhfdkhfaaGreatDoorM36
import Derived.Test.YtchhojkhfdkhfaaGreatDoorM05
import Derived.Laws.AppendOwnNone
import Derived.Test.YtchhojkhfdkhfaaGreatDoorM02
namespace Go.Proofs.YtchhojkhfdkhfaaGreatDoor
open Go Go.RowKit Frm
/-- Nothing but some blocks was turned. -/
theorem Loc.two {F F' : Nat → Prop} {w u v : World} {N : Nat → Prop} (hb : Below w.heap.size w u) (hN : ∀ k, N k → w.heap.size ≤ k) (hl : Loc (fun k => F k ∨ N k) (fun k => F' k ∨ N k) u v) : Loc F F' w v :=
  ⟨hl.os.trans hb.os, hl.tape.trans hb.tape, hl.output.trans hb.output, Nat.le_trans hb.size hl.size, fun k hk hf => (hl.block k (Nat.lt_of_lt_of_le hk hb.size) (fun hh => hh.elim hf (fun e => by have := hN k e; omega))).trans (hb.block k hk), fun k hk => by
    rcases hl.own k (Or.inl hk) with (h | h) | h
    · exact Or.inl h
    · exact Or.inr (hN k h)
    · have := hb.size; exact Or.inr (by omega)⟩
/-- What Open's first step reads. -/
structure OBx (pd : Option Addr) (p Bd Bs : Nat) (x2 : Value) (ck lg : Int) (u : World) : Prop where
  d : u.cell? ⟨Bd, 0, none⟩ = some (.pointer pd)
  s : u.cell? ⟨Bs, 0, none⟩ = some (.pointer (some ⟨p, 0, none⟩))
  c2 : u.cell? ⟨p, 2, none⟩ = some x2
  c3 : u.cell? ⟨p, 3, none⟩ = some (.int .i64 ck)
  c4 : u.cell? ⟨p, 4, none⟩ = some (.int .i64 lg)
theorem OBx.all {pd : Option Addr} {p Bd Bs : Nat} {x2 : Value} {ck lg : Int} {u : World} (h : OBx pd p Bd Bs x2 ck lg u) : u.cell? ⟨Bd, 0, none⟩ = some (.pointer pd) ∧ u.cell? ⟨Bs, 0, none⟩ = some (.pointer (some ⟨p, 0, none⟩)) ∧ u.cell? ⟨p, 2, none⟩ = some x2 ∧ u.cell? ⟨p, 3, none⟩ = some (.int .i64 ck) ∧ u.cell? ⟨p, 4, none⟩ = some (.int .i64 lg) := ⟨h.d, h.s, h.c2, h.c3, h.c4⟩
theorem OBx.same {pd : Option Addr} {p Bd Bs : Nat} {x2 : Value} {ck lg : Int} {u v : World} (h : OBx pd p Bd Bs x2 ck lg u) (h1 : v.heap[Bd]? = u.heap[Bd]?) (h2 : v.heap[Bs]? = u.heap[Bs]?) (h3 : v.heap[p]? = u.heap[p]?) : OBx pd p Bd Bs x2 ck lg v :=
  ⟨(cell_same8 h1 0).trans h.d, (cell_same8 h2 0).trans h.s, (cell_same8 h3 2).trans h.c2, (cell_same8 h3 3).trans h.c3, (cell_same8 h3 4).trans h.c4⟩
theorem OBx.lt {pd : Option Addr} {p Bd Bs : Nat} {x2 : Value} {ck lg : Int} {u : World} (h : OBx pd p Bd Bs x2 ck lg u) : Bd < u.heap.size ∧ Bs < u.heap.size ∧ p < u.heap.size := ⟨World.block_lt_of_cell? u _ h.d, World.block_lt_of_cell? u _ h.s, World.block_lt_of_cell? u _ h.c2⟩
theorem OBx.below {pd : Option Addr} {p Bd Bs : Nat} {x2 : Value} {ck lg : Int} {u v : World} (h : OBx pd p Bd Bs x2 ck lg u) (hb : Below u.heap.size u v) : OBx pd p Bd Bs x2 ck lg v := h.same (hb.block _ h.lt.1) (hb.block _ h.lt.2.1) (hb.block _ h.lt.2.2)
theorem OBx.set {pd : Option Addr} {p Bd Bs B : Nat} {x2 : Value} {ck lg : Int} {u : World} (h : OBx pd p Bd Bs x2 ck lg u) (hB : B ≠ Bd ∧ B ≠ Bs ∧ B ≠ p) (i : Nat) (a : Value) : OBx pd p Bd Bs x2 ck lg (u.setCell ⟨B, i, none⟩ a) :=
  h.same (Below.heap_setCell u ⟨B, i, none⟩ a Bd (fun e => hB.1 e.symm)) (Below.heap_setCell u ⟨B, i, none⟩ a Bs (fun e => hB.2.1 e.symm)) (Below.heap_setCell u ⟨B, i, none⟩ a p (fun e => hB.2.2 e.symm))
theorem row_cells3 {u : World} {B : Nat} {x y z : Value} {T : TypeId} (h : u.heap[B]? = some (.cells #[x, y, z] T (0, 0))) : (u.cell? ⟨B, 0, none⟩ = some x ∧ u.cell? ⟨B, 1, none⟩ = some y ∧ u.cell? ⟨B, 2, none⟩ = some z) ∧ ∀ i, u.frozen? ⟨B, i, none⟩ = false := by
  refine ⟨⟨?_, ?_, ?_⟩, fun i => ?_⟩ <;> simp [World.cell?, World.frozen?, h]
set_option maxRecDepth 10000 in
set_option maxHeartbeats 2000000 in
theorem open1_any (pd : Option Addr) (p Bd Bs Bk : Nat) (x2 : Value) (ck lg n : Int) (g : Nat) (t : ByteArray) (c : Int) (u : World) (y0 y1 y2 : Value) (hx : x2 = .pointer pd) (h : OBx pd p Bd Bs x2 ck lg u) (hk : u.heap[Bk]? = some (.cells #[y0, y1, y2] 61 (0, 0))) (hB : Bk ≠ Bd ∧ Bk ≠ Bs ∧ Bk ≠ p)
    (hK : ∀ v, Calls Tryz.prog 48 #[areaV pd ck lg] v fun e w' => e = .returned (.int .i64 n) ∧ Below v.heap.size v w')
    (hL : ∀ v, Below u.heap.size u v → Calls Tryz.prog 47 #[.pointer pd, .int .i64 0, .int .i64 n] v fun e w' => e = .returned (.tuple #[.int .u64 (g : Int), .string t, .int .i64 c]) ∧ Below v.heap.size v w') :
    Calls Tryz.prog 46 #[.pointer (some ⟨Bd, 0, none⟩), .pointer (some ⟨Bs, 0, none⟩), .pointer (some ⟨Bk, 0, none⟩)] u fun e v => e = .returned (.int .i64 c) ∧ ∃ z, Below u.heap.size u z ∧ v = (z.setCell ⟨Bk, 0, none⟩ (.int .u64 (g : Int))).setCell ⟨Bk, 1, none⟩ (.string t) := by
  subst hx
  have HL := hide hL
  have HK := hide hK
  have HB := hide hB
  have HC : Hid (∀ v, Below u.heap.size u v → OBx pd p Bd Bs (.pointer pd) ck lg v) := fun v hb => h.below hb
  have HN : Hid (∀ v, Below u.heap.size u v → v.heap[Bk]? = some (.cells #[y0, y1, y2] 61 (0, 0))) := fun v hb => (hb.block _ (Array.getElem?_eq_some_iff.1 hk).1).trans hk
  have K : Below u.heap.size u u.drew := (Below.refl _ u).drew
  unfold areaV at *
  clear h hk hL hK hB
  go_enter Tryz.func46, Tryz.ntmps46
  go_wp2_with fail
  go_region_held3 (fun z => z.cell? ⟨Bd, 0, none⟩ = some (.pointer pd) ∧ z.cell? ⟨Bs, 0, none⟩ = some (.pointer (some ⟨p, 0, none⟩)) ∧ z.cell? ⟨p, 2, none⟩ = some (.pointer pd) ∧ z.cell? ⟨p, 3, none⟩ = some (.int .i64 ck) ∧ z.cell? ⟨p, 4, none⟩ = some (.int .i64 lg))
    ((first | (with_reducible exact (HC.out _ K).all) | (with_reducible exact ((HC.out _ K).set HB.out _ _).all) | (with_reducible exact (((HC.out _ K).set HB.out _ _).set HB.out _ _).all)))
    (first
      | (go_at_call 48; refine (HK.out _).mono ?_; rintro e z0 ⟨rfl, hb0⟩; have K := bnext K hb0)
      | (go_at_call 47; refine (HL.out _ K).mono ?_; rintro e z0 ⟨rfl, hb0⟩; have K := bnext K hb0; obtain ⟨⟨r0, r1, -⟩, fr⟩ := row_cells3 (HN.out _ K); have f0 := fr 0; have f1 := fr 1; clear fr))
  all_goals
    have HZ := hide K
    clear K
    go_wp2
    go_ret
    exact ⟨rfl, _, HZ.out, rfl⟩
end Go.Proofs.YtchhojkhfdkhfaaGreatDoor
namespace Go.Proofs.YtchhojkhfdkhfaaGreatDoor
open Go Go.RowKit Frm
/-- What Open's second step reads. -/
structure OB2 (q p Bs Bk : Nat) (ck lg g : Int) (u : World) : Prop where
  s : u.cell? ⟨Bs, 0, none⟩ = some (.pointer (some ⟨p, 0, none⟩))
  c2 : u.cell? ⟨p, 2, none⟩ = some (.pointer (some ⟨q, 0, none⟩))
  c3 : u.cell? ⟨p, 3, none⟩ = some (.int .i64 ck)
  c4 : u.cell? ⟨p, 4, none⟩ = some (.int .i64 lg)
  g : u.cell? ⟨Bk, 0, none⟩ = some (.int .u64 g)
theorem OB2.all {q p Bs Bk : Nat} {ck lg g : Int} {u : World} (h : OB2 q p Bs Bk ck lg g u) : u.cell? ⟨Bs, 0, none⟩ = some (.pointer (some ⟨p, 0, none⟩)) ∧ u.cell? ⟨p, 2, none⟩ = some (.pointer (some ⟨q, 0, none⟩)) ∧ u.cell? ⟨p, 3, none⟩ = some (.int .i64 ck) ∧ u.cell? ⟨p, 4, none⟩ = some (.int .i64 lg) ∧ u.cell? ⟨Bk, 0, none⟩ = some (.int .u64 g) := ⟨h.s, h.c2, h.c3, h.c4, h.g⟩
theorem OB2.same {q p Bs Bk : Nat} {ck lg g : Int} {u v : World} (h : OB2 q p Bs Bk ck lg g u) (h1 : v.heap[Bs]? = u.heap[Bs]?) (h2 : v.heap[p]? = u.heap[p]?) (h3 : v.heap[Bk]? = u.heap[Bk]?) : OB2 q p Bs Bk ck lg g v :=
  ⟨(cell_same8 h1 0).trans h.s, (cell_same8 h2 2).trans h.c2, (cell_same8 h2 3).trans h.c3, (cell_same8 h2 4).trans h.c4, (cell_same8 h3 0).trans h.g⟩
theorem OB2.lt {q p Bs Bk : Nat} {ck lg g : Int} {u : World} (h : OB2 q p Bs Bk ck lg g u) : Bs < u.heap.size ∧ p < u.heap.size ∧ Bk < u.heap.size := ⟨World.block_lt_of_cell? u _ h.s, World.block_lt_of_cell? u _ h.c2, World.block_lt_of_cell? u _ h.g⟩
theorem OB2.below {q p Bs Bk : Nat} {ck lg g : Int} {u v : World} (h : OB2 q p Bs Bk ck lg g u) (hb : Below u.heap.size u v) : OB2 q p Bs Bk ck lg g v := h.same (hb.block _ h.lt.1) (hb.block _ h.lt.2.1) (hb.block _ h.lt.2.2)
theorem OB2.loc {q p Bs Bk : Nat} {ck lg g : Int} {F F' : Nat → Prop} {u v : World} (h : OB2 q p Bs Bk ck lg g u) (hl : Loc F F' u v) (hF : ¬ F Bs ∧ ¬ F p ∧ ¬ F Bk) : OB2 q p Bs Bk ck lg g v := h.same (hl.block _ h.lt.1 hF.1) (hl.block _ h.lt.2.1 hF.2.1) (hl.block _ h.lt.2.2 hF.2.2)
theorem cell_off (u : World) (B i j : Nat) (a : Value) (h : i ≠ j) : (u.setCell ⟨B, i, none⟩ a).cell? ⟨B, j, none⟩ = u.cell? ⟨B, j, none⟩ := World.cell?_setCell_other u ⟨B, i, none⟩ ⟨B, j, none⟩ a (fun e => h (congrArg Addr.off e))
theorem OB2.setp {q p Bs Bk : Nat} {ck lg g : Int} {u : World} (h : OB2 q p Bs Bk ck lg g u) (hp : p ≠ Bs ∧ p ≠ Bk) (i : Nat) (hi : i < 2) (a : Value) : OB2 q p Bs Bk ck lg g (u.setCell ⟨p, i, none⟩ a) :=
  ⟨(cell_same8 (Below.heap_setCell u ⟨p, i, none⟩ a Bs (fun e => hp.1 e.symm)) 0).trans h.s, (cell_off u p i 2 a (by omega)).trans h.c2, (cell_off u p i 3 a (by omega)).trans h.c3, (cell_off u p i 4 a (by omega)).trans h.c4, (cell_same8 (Below.heap_setCell u ⟨p, i, none⟩ a Bk (fun e => hp.2 e.symm)) 0).trans h.g⟩
theorem OB2.setk {q p Bs Bk : Nat} {ck lg g : Int} {u : World} (h : OB2 q p Bs Bk ck lg g u) (hp : Bk ≠ Bs ∧ p ≠ Bk) (i : Nat) (hi : 0 < i) (a : Value) : OB2 q p Bs Bk ck lg g (u.setCell ⟨Bk, i, none⟩ a) :=
  ⟨(cell_same8 (Below.heap_setCell u ⟨Bk, i, none⟩ a Bs (fun e => hp.1 e.symm)) 0).trans h.s, (cell_same8 (Below.heap_setCell u ⟨Bk, i, none⟩ a p hp.2) 2).trans h.c2, (cell_same8 (Below.heap_setCell u ⟨Bk, i, none⟩ a p hp.2) 3).trans h.c3, (cell_same8 (Below.heap_setCell u ⟨Bk, i, none⟩ a p hp.2) 4).trans h.c4, (cell_off u Bk i 0 a (by omega)).trans h.g⟩
/-- All that the step may write. -/
theorem OB2.sets {q p Bs Bk : Nat} {ck lg g : Int} {u : World} (h : OB2 q p Bs Bk ck lg g u) (h1 : p ≠ Bs) (h2 : p ≠ Bk) (h3 : Bk ≠ Bs) :
    (∀ a b, OB2 q p Bs Bk ck lg g ((u.setCell ⟨p, 0, none⟩ a).setCell ⟨p, 1, none⟩ b)) ∧ (∀ c, OB2 q p Bs Bk ck lg g (u.setCell ⟨Bk, 2, none⟩ c)) ∧
    (∀ a b c, OB2 q p Bs Bk ck lg g (((u.setCell ⟨p, 0, none⟩ a).setCell ⟨p, 1, none⟩ b).setCell ⟨Bk, 2, none⟩ c)) ∧ (∀ a b c, OB2 q p Bs Bk ck lg g (((u.setCell ⟨Bk, 2, none⟩ c).setCell ⟨p, 0, none⟩ a).setCell ⟨p, 1, none⟩ b)) :=
  ⟨fun a b => (h.setp ⟨h1, h2⟩ 0 (by omega) a).setp ⟨h1, h2⟩ 1 (by omega) b, fun c => h.setk ⟨h3, h2⟩ 2 (by omega) c, fun a b c => ((h.setp ⟨h1, h2⟩ 0 (by omega) a).setp ⟨h1, h2⟩ 1 (by omega) b).setk ⟨h3, h2⟩ 2 (by omega) c, fun a b c => ((h.setk ⟨h3, h2⟩ 2 (by omega) c).setp ⟨h1, h2⟩ 0 (by omega) a).setp ⟨h1, h2⟩ 1 (by omega) b⟩
theorem row_cells6 {u : World} {B : Nat} {x y a b c d : Value} {T : TypeId} (h : u.heap[B]? = some (.cells #[x, y, a, b, c, d] T (0, 0))) : (u.cell? ⟨B, 0, none⟩ = some x ∧ u.cell? ⟨B, 1, none⟩ = some y) ∧ ∀ i, u.frozen? ⟨B, i, none⟩ = false := by
  refine ⟨⟨?_, ?_⟩, fun i => ?_⟩ <;> simp [World.cell?, World.frozen?, h]
set_option maxRecDepth 10000 in
set_option maxHeartbeats 4000000 in
theorem open2_ok (p q o Bs Bk : Nat) (ck lg : Int) (G N : Nat) (s : ByteArray) (recs : List ByteArray) (st' : St) (F : Nat → Prop) (u : World) (x0 x1 x2 x3 x4 x5 y0 y1 y2 : Value) (h : OB2 q p Bs Bk ck lg (G : Int) u)
    (hpr : u.heap[p]? = some (.cells #[x0, x1, x2, x3, x4, x5] 104 (0, 0))) (hkr : u.heap[Bk]? = some (.cells #[y0, y1, y2] 61 (0, 0))) (hF : ¬ F Bs ∧ ¬ F p ∧ ¬ F Bk) (h1 : p ≠ Bs) (h2 : p ≠ Bk) (h3 : Bk ≠ Bs)
    (hA : ∀ v, Below u.heap.size u v → Calls Tryz.prog 50 #[areaV (some ⟨q, 0, none⟩) ck lg, .int .u64 (G : Int)] v (AHas q o N G s recs st' F v)) :
    Calls Tryz.prog 49 #[.pointer (some ⟨Bs, 0, none⟩), .pointer (some ⟨Bk, 0, none⟩)] u fun e v => e = .returned (.int .i64 0) ∧ ∃ pl vR F' z, AHas1 q o N s recs st' F u pl vR F' z ∧ v = ((z.setCell ⟨p, 0, none⟩ (.iface 143 (.pointer (some ⟨pl, 0, none⟩)))).setCell ⟨p, 1, none⟩ (.int .u64 (G : Int))).setCell ⟨Bk, 2, none⟩ vR := by
  have HA := hide hA
  have HF := hide hF
  have HC : Hid (∀ v, Below u.heap.size u v → OB2 q p Bs Bk ck lg (G : Int) v) := fun v hb => h.below hb
  have HN : Hid (∀ v, Below u.heap.size u v → v.heap[p]? = some (.cells #[x0, x1, x2, x3, x4, x5] 104 (0, 0)) ∧ v.heap[Bk]? = some (.cells #[y0, y1, y2] 61 (0, 0))) := fun v hb => ⟨(hb.block _ (Array.getElem?_eq_some_iff.1 hpr).1).trans hpr, (hb.block _ (Array.getElem?_eq_some_iff.1 hkr).1).trans hkr⟩
  have HD := hide (And.intro h1 (And.intro h2 h3))
  have K : Below u.heap.size u u.drew := (Below.refl _ u).drew
  unfold areaV at *
  clear h hpr hkr hF hA h1 h2 h3
  go_enter Tryz.func49, Tryz.ntmps49
  go_wp2_with fail
  go_region_held3 (fun z => z.cell? ⟨Bs, 0, none⟩ = some (.pointer (some ⟨p, 0, none⟩)) ∧ z.cell? ⟨p, 2, none⟩ = some (.pointer (some ⟨q, 0, none⟩)) ∧ z.cell? ⟨p, 3, none⟩ = some (.int .i64 ck) ∧ z.cell? ⟨p, 4, none⟩ = some (.int .i64 lg) ∧ z.cell? ⟨Bk, 0, none⟩ = some (.int .u64 (G : Int)))
    ((first | (with_reducible exact (HC.out _ K).all) | (with_reducible exact K.1.all) | (with_reducible exact (K.2.1.1 _ _).all) | (with_reducible exact (K.2.1.2.1 _).all) | (with_reducible exact (K.2.1.2.2.1 _ _ _).all) | (with_reducible exact (K.2.1.2.2.2 _ _ _).all)))
    (first
      | (go_at_call 50; refine (HA.out _ K).mono ?_; rintro e z0 ⟨pl, vR, F', rfl, hz⟩; obtain ⟨aR, cR, rfl, -, -⟩ := own_form hz.2.2.1; have hlz : Loc F F' _ z0 := hz.2.2.2.2.1; have hr := HN.out _ K; have hrp := (hlz.block p (Array.getElem?_eq_some_iff.1 hr.1).1 HF.out.2.1).trans hr.1; have hrk := (hlz.block Bk (Array.getElem?_eq_some_iff.1 hr.2).1 HF.out.2.2).trans hr.2; obtain ⟨⟨r0, r1⟩, fr⟩ := row_cells6 hrp; have f0 := fr 0; have f1 := fr 1; obtain ⟨⟨-, -, r2⟩, fk⟩ := row_cells3 hrk; have f2 := fk 2; have hgb := (HC.out _ K).loc hlz HF.out; have hst := hgb.sets HD.out.1 HD.out.2.1 HD.out.2.2; have K := And.intro hgb (And.intro hst (AHas1.back K hz)); clear hz hlz hrp hrk hgb hst fr fk hr))
  all_goals
    have HZ := hide K.2.2
    clear K r0 r1 f0 f1 r2 f2
    go_wp2
    go_ret
    exact ⟨rfl, pl, _, F', _, HZ.out, rfl⟩
set_option maxRecDepth 10000 in
set_option maxHeartbeats 4000000 in
theorem open2_no (p q Bs Bk : Nat) (ck lg : Int) (G : Nat) (x : Int) (st' : St) (F : Nat → Prop) (u : World) (x0 x1 x2 x3 x4 x5 y0 y1 y2 : Value) (h : OB2 q p Bs Bk ck lg (G : Int) u)
    (hpr : u.heap[p]? = some (.cells #[x0, x1, x2, x3, x4, x5] 104 (0, 0))) (hkr : u.heap[Bk]? = some (.cells #[y0, y1, y2] 61 (0, 0))) (hF : ¬ F Bs ∧ ¬ F p ∧ ¬ F Bk) (h1 : p ≠ Bs) (h2 : p ≠ Bk) (h3 : Bk ≠ Bs)
    (hA : ∀ v, Below u.heap.size u v → Calls Tryz.prog 50 #[areaV (some ⟨q, 0, none⟩) ck lg, .int .u64 (G : Int)] v (ANo q st' F v x)) :
    Calls Tryz.prog 49 #[.pointer (some ⟨Bs, 0, none⟩), .pointer (some ⟨Bk, 0, none⟩)] u fun e v => e = .returned (.int .i64 x) ∧ ∃ F' z, (DAt z q st' F' ∧ Loc F F' u z) ∧ v = ((z.setCell ⟨p, 0, none⟩ .nilIface).setCell ⟨p, 1, none⟩ (.int .u64 0)).setCell ⟨Bk, 2, none⟩ (.slice none 0 0) := by
  have HA := hide hA
  have HF := hide hF
  have HC : Hid (∀ v, Below u.heap.size u v → OB2 q p Bs Bk ck lg (G : Int) v) := fun v hb => h.below hb
  have HN : Hid (∀ v, Below u.heap.size u v → v.heap[p]? = some (.cells #[x0, x1, x2, x3, x4, x5] 104 (0, 0)) ∧ v.heap[Bk]? = some (.cells #[y0, y1, y2] 61 (0, 0))) := fun v hb => ⟨(hb.block _ (Array.getElem?_eq_some_iff.1 hpr).1).trans hpr, (hb.block _ (Array.getElem?_eq_some_iff.1 hkr).1).trans hkr⟩
  have HD := hide (And.intro h1 (And.intro h2 h3))
  have K : Below u.heap.size u u.drew := (Below.refl _ u).drew
  unfold areaV at *
  clear h hpr hkr hF hA h1 h2 h3
  go_enter Tryz.func49, Tryz.ntmps49
  go_wp2_with fail
  go_region_held3 (fun z => z.cell? ⟨Bs, 0, none⟩ = some (.pointer (some ⟨p, 0, none⟩)) ∧ z.cell? ⟨p, 2, none⟩ = some (.pointer (some ⟨q, 0, none⟩)) ∧ z.cell? ⟨p, 3, none⟩ = some (.int .i64 ck) ∧ z.cell? ⟨p, 4, none⟩ = some (.int .i64 lg) ∧ z.cell? ⟨Bk, 0, none⟩ = some (.int .u64 (G : Int)))
    ((first | (with_reducible exact (HC.out _ K).all) | (with_reducible exact K.1.all) | (with_reducible exact (K.2.1.1 _ _).all) | (with_reducible exact (K.2.1.2.1 _).all) | (with_reducible exact (K.2.1.2.2.1 _ _ _).all) | (with_reducible exact (K.2.1.2.2.2 _ _ _).all)))
    (first
      | (go_at_call 50; refine (HA.out _ K).mono ?_; rintro e z0 ⟨rfl, F', hz⟩; have hlz : Loc F F' _ z0 := hz.2; have hr := HN.out _ K; have hrp := (hlz.block p (Array.getElem?_eq_some_iff.1 hr.1).1 HF.out.2.1).trans hr.1; have hrk := (hlz.block Bk (Array.getElem?_eq_some_iff.1 hr.2).1 HF.out.2.2).trans hr.2; obtain ⟨⟨r0, r1⟩, fr⟩ := row_cells6 hrp; have f0 := fr 0; have f1 := fr 1; obtain ⟨⟨-, -, r2⟩, fk⟩ := row_cells3 hrk; have f2 := fk 2; have hgb := (HC.out _ K).loc hlz HF.out; have hst := hgb.sets HD.out.1 HD.out.2.1 HD.out.2.2; have K := And.intro hgb (And.intro hst (And.intro hz.1 ((Loc.of_below F K).trans hz.2))); clear hz hlz hrp hrk hgb hst fr fk hr))
  all_goals
    have HZ := hide K.2.2
    clear K r0 r1 f0 f1 r2 f2
    go_wp2
    go_ret
    exact ⟨rfl, F', _, HZ.out, rfl⟩
end Go.Proofs.YtchhojkhfdkhfaaGreatDoor
namespace Go.Proofs.YtchhojkhfdkhfaaGreatDoor
open Go Go.RowKit Frm
theorem load_pos (st : St) (o n : Int) (h : (st.load o n).2 = 0) : 1 ≤ (st.load o n).1.1 := by
  unfold St.load at *
  split at h
  · exact absurd h (show ¬ (2 : Nat) = 0 by decide)
  · rename_i h1
    rw [if_neg h1]
    split at h
    · exact absurd h (show ¬ (50 : Nat) = 0 by decide)
    · rename_i h2
      rw [if_neg h2]
      simp only at h ⊢
      split at h
      · exact absurd h (show ¬ (5 : Nat) = 0 by decide)
      · rename_i h3
        rw [if_neg h3]
        split
        · rename_i h4; exact Nat.lt_of_le_of_lt (Nat.zero_le _) h4
        · rename_i h4
          show 1 ≤ (wholeT _ _).1
          omega
/-- The two boxes that Open's steps write. -/
def ON (p Bk : Nat) (k : Nat) : Prop := k = p ∨ k = Bk
/-- Open's boxes, since u0: the disk is st. -/
structure Bo (q p Bk : Nat) (F : Nat → Prop) (u0 : World) (st : St) (F' : Nat → Prop) (v : World) : Prop where
  d : DAt v q st F'
  l : Loc (fun k => F k ∨ ON p Bk k) (fun k => F' k ∨ ON p Bk k) u0 v
  np : ¬ F' p
  nk : ¬ F' Bk
theorem Bo.keep {q p Bk : Nat} {F F' : Nat → Prop} {u0 v z : World} {st : St} (h : Bo q p Bk F u0 st F' v) (hb : Below v.heap.size v z) : Bo q p Bk F u0 st F' z := ⟨con.below h.d hb, h.l.trans (Loc.of_below _ hb), h.np, h.nk⟩
theorem Bo.setk {q p Bk : Nat} {F F' : Nat → Prop} {u0 v : World} {st : St} (h : Bo q p Bk F u0 st F' v) (i : Nat) (a : Value) : Bo q p Bk F u0 st F' (v.setCell ⟨Bk, i, none⟩ a) :=
  ⟨con.same h.d (fun k hk => Below.heap_setCell v ⟨Bk, i, none⟩ a k (fun e => h.nk (by rw [show k = Bk from e] at hk; exact hk))), h.l.trans (Loc.setCell v ⟨Bk, i, none⟩ a (Or.inr (Or.inr rfl))), h.np, h.nk⟩
theorem Bo.setp {q p Bk : Nat} {F F' : Nat → Prop} {u0 v : World} {st : St} (h : Bo q p Bk F u0 st F' v) (i : Nat) (a : Value) : Bo q p Bk F u0 st F' (v.setCell ⟨p, i, none⟩ a) :=
  ⟨con.same h.d (fun k hk => Below.heap_setCell v ⟨p, i, none⟩ a k (fun e => h.np (by rw [show k = p from e] at hk; exact hk))), h.l.trans (Loc.setCell v ⟨p, i, none⟩ a (Or.inr (Or.inl rfl))), h.np, h.nk⟩
theorem Bo.step {q p Bk : Nat} {F F' F2 : Nat → Prop} {u0 v z : World} {st st2 : St} (h : Bo q p Bk F u0 st F' v) (hp : p < v.heap.size) (hk : Bk < v.heap.size) (hd : DAt z q st2 F2) (hl : Loc F' F2 v z) : Bo q p Bk F u0 st2 F2 z :=
  ⟨hd, h.l.trans (hl.wide (X := ON p Bk)), own_new hl h.np hp, own_new hl h.nk hk⟩
/-- What stands in Open's boxes: the disk's, the store's, its pointer's, what is kept. -/
structure OIn (w : World) (pd : Option Addr) (ck lg : Int) (k0 k1 : Value) (z : World) : Prop where
  d : z.cell? ⟨w.heap.size, 0, none⟩ = some (.pointer pd)
  res : z.heap[w.heap.size + 2]? = some (.cells #[.int .u64 0, .string ⟨#[]⟩, .slice none 0 0] 61 (0, 0))
  p : z.heap[w.heap.size + 3]? = some (.cells #[.nilIface, .int .u64 0, .pointer pd, .int .i64 ck, .int .i64 lg, .bool false] 104 (0, 0))
  s : z.cell? ⟨w.heap.size + 4, 0, none⟩ = some (.pointer (some ⟨w.heap.size + 3, 0, none⟩))
  k : z.heap[w.heap.size + 5]? = some (.cells #[k0, k1, .slice none 0 0] 61 (0, 0))
theorem OIn.same {w z v : World} {pd : Option Addr} {ck lg : Int} {k0 k1 : Value} (h : OIn w pd ck lg k0 k1 z) (hs : ∀ k, w.heap.size ≤ k → k < w.heap.size + 6 → v.heap[k]? = z.heap[k]?) : OIn w pd ck lg k0 k1 v :=
  ⟨(cell_same8 (hs _ (by omega) (by omega)) 0).trans h.d, (hs _ (by omega) (by omega)).trans h.res, (hs _ (by omega) (by omega)).trans h.p, (cell_same8 (hs _ (by omega) (by omega)) 0).trans h.s, (hs _ (by omega) (by omega)).trans h.k⟩
theorem OIn.size {w z : World} {pd : Option Addr} {ck lg : Int} {k0 k1 : Value} (h : OIn w pd ck lg k0 k1 z) : w.heap.size + 6 ≤ z.heap.size := (Array.getElem?_eq_some_iff.1 h.k).1
theorem OIn.below {w z v : World} {pd : Option Addr} {ck lg : Int} {k0 k1 : Value} (h : OIn w pd ck lg k0 k1 z) (hb : Below z.heap.size z v) : OIn w pd ck lg k0 k1 v := h.same (fun k _ hk => hb.block k (by have := h.size; omega))
theorem OIn.pc {w z : World} {pd : Option Addr} {ck lg : Int} {k0 k1 : Value} (h : OIn w pd ck lg k0 k1 z) : z.cell? ⟨w.heap.size + 3, 2, none⟩ = some (.pointer pd) ∧ z.cell? ⟨w.heap.size + 3, 3, none⟩ = some (.int .i64 ck) ∧ z.cell? ⟨w.heap.size + 3, 4, none⟩ = some (.int .i64 lg) := by
  refine ⟨?_, ?_, ?_⟩ <;> simp [World.cell?, h.p]
theorem OIn.obx {w z : World} {pd : Option Addr} {ck lg : Int} {k0 k1 : Value} (h : OIn w pd ck lg k0 k1 z) : OBx pd (w.heap.size + 3) w.heap.size (w.heap.size + 4) (.pointer pd) ck lg z := ⟨h.d, h.s, h.pc.1, h.pc.2.1, h.pc.2.2⟩
theorem own_cap9 {u : World} {b n c : Nat} {a : Option Addr} {l : List ByteArray} (h : OwnL u b (.slice a n c) l) : n ≤ c ∧ (a = none → c = 0) := by
  rcases h.2 with ⟨e, hz⟩ | ⟨g, cap, cur, e, _, _, h2, _⟩
  · cases e
    exact ⟨Nat.le_refl _, fun _ => rfl⟩
  · cases e
    exact ⟨h2, fun e => by cases e⟩
/-- Open's steps are done: the store is there. -/
def OFin (w : World) (q : Nat) (k l : Nat) (F : Nat → Prop) (u0 : World) (st2 : St) (g : Nat) (t str : ByteArray) (recs : List ByteArray) (v : World) : Prop :=
  ∃ pl aR cR F', Bo q (w.heap.size + 3) (w.heap.size + 5) F u0 st2 F' v ∧ LAt v pl q (lo k l g) l str false ∧ StAt v (w.heap.size + 3) pl q k l g false ∧
    v.heap[w.heap.size + 5]? = some (.cells #[.int .u64 (g : Int), .string t, .slice aR recs.length cR] 61 (0, 0)) ∧ StrsAt v aR recs ∧ (∀ b off, aR = some ⟨b, off, none⟩ → u0.heap.size ≤ b) ∧ u0.heap.size ≤ pl ∧ ¬ F' pl ∧ (aR = none → cR = 0)
end Go.Proofs.YtchhojkhfdkhfaaGreatDoor
namespace Go.Proofs.YtchhojkhfdkhfaaGreatDoor
open Go Go.RowKit Frm
theorem sto_open_go (st : St) (k l : Nat) (hm : st.mayS (k : Int) (l : Int)) (h0 : (st.load 0 (2 * (k : Int))).2 = 0) :
    stoOpen st (k : Int) (l : Int) = if (walOpen st (lo k l (st.load 0 (2 * (k : Int))).1.1) l).1.1 ≠ 0 then (((walOpen st (lo k l (st.load 0 (2 * (k : Int))).1.1) l).1.1, 0, noText, noText, []), (walOpen st (lo k l (st.load 0 (2 * (k : Int))).1.1) l).2)
      else ((0, (st.load 0 (2 * (k : Int))).1.1, (st.load 0 (2 * (k : Int))).1.2, (walOpen st (lo k l (st.load 0 (2 * (k : Int))).1.1) l).1.2.1, (walOpen st (lo k l (st.load 0 (2 * (k : Int))).1.1) l).1.2.2), (walOpen st (lo k l (st.load 0 (2 * (k : Int))).1.1) l).2) := by
  unfold stoOpen
  rw [if_neg (fun x => x hm), if_neg (fun x => x h0), Int.toNat_natCast, Int.toNat_natCast]
theorem bo_row {q p Bk : Nat} {F F' : Nat → Prop} {u0 v : World} {st : St} (h : Bo q p Bk F u0 st F' v) (B : Nat) (hB : B < u0.heap.size) (hn : ¬ F B ∧ B ≠ p ∧ B ≠ Bk) : v.heap[B]? = u0.heap[B]? :=
  h.l.block B hB (fun hh => hh.elim hn.1 (fun e => e.elim hn.2.1 hn.2.2))
set_option maxRecDepth 10000 in
set_option maxHeartbeats 1000000 in
theorem oSteps (q : Nat) (st : St) (F : Nat → Prop) (ck lg : Int) (w u0 : World) (b c : Nat) (hD : DAt u0 q st F) (hok : st.Ok) (hl : st.loose.length + 3000 ≤ 8000) (h400 : st.sure.length ≤ 400) (hF : ∀ k, F k → k < w.heap.size)
    (h : OIn w (some ⟨q, 0, none⟩) ck lg (.int .u64 0) (.string ⟨#[]⟩) u0) (hb6 : w.heap.size + 6 ≤ b)
    (hrow : ∀ k (hk : k < 3), u0.cell? ⟨b, 0 + k, none⟩ = some [Value.func (.func 42) #[areaV (some ⟨q, 0, none⟩) ck lg] #[], .func (.func 46) #[] #[.pointer (some ⟨w.heap.size, 0, none⟩), .pointer (some ⟨w.heap.size + 4, 0, none⟩), .pointer (some ⟨w.heap.size + 5, 0, none⟩)], .func (.func 49) #[] #[.pointer (some ⟨w.heap.size + 4, 0, none⟩), .pointer (some ⟨w.heap.size + 5, 0, none⟩)]][k]) :
    Calls Tryz.prog 41 #[.slice (some ⟨b, 0, none⟩) 3 c] u0 fun e v => e = .returned (.int .i64 (((stoOpen st ck lg).1.1 : Nat) : Int)) ∧
      (((stoOpen st ck lg).1.1 ≠ 0 ∧ ∃ F', Bo q (w.heap.size + 3) (w.heap.size + 5) F u0 (stoOpen st ck lg).2 F' v) ∨
       ((stoOpen st ck lg).1.1 = 0 ∧ ∃ k l : Nat, ck = (k : Int) ∧ lg = (l : Int) ∧ st.mayS ck lg ∧ (1 ≤ (stoOpen st ck lg).1.2.1 ∧ (stoOpen st ck lg).1.2.1 ≤ 4611686018427387904) ∧ (stoOpen st ck lg).1.2.2.2.1.size ≤ l * 255 ∧ OFin w q k l F u0 (stoOpen st ck lg).2 (stoOpen st ck lg).1.2.1 (stoOpen st ck lg).1.2.2.1 (stoOpen st ck lg).1.2.2.2.1 (stoOpen st ck lg).1.2.2.2.2 v)) := by
  have hl1 := hok.some
  have hl2 := hok.few
  have hbl : b < u0.heap.size := World.block_lt_of_cell? u0 _ (hrow 0 (by decide))
  have hsz := h.size
  have key := inOrder8 b 0 c [Value.func (.func 42) #[areaV (some ⟨q, 0, none⟩) ck lg] #[], .func (.func 46) #[] #[.pointer (some ⟨w.heap.size, 0, none⟩), .pointer (some ⟨w.heap.size + 4, 0, none⟩), .pointer (some ⟨w.heap.size + 5, 0, none⟩)], .func (.func 49) #[] #[.pointer (some ⟨w.heap.size + 4, 0, none⟩), .pointer (some ⟨w.heap.size + 5, 0, none⟩)]]
    (fun k v => (k = 0 ∧ ∃ F', Bo q (w.heap.size + 3) (w.heap.size + 5) F u0 st F' v ∧ OIn w (some ⟨q, 0, none⟩) ck lg (.int .u64 0) (.string ⟨#[]⟩) v) ∨
      (k = 1 ∧ st.mayS ck lg ∧ ∃ F', Bo q (w.heap.size + 3) (w.heap.size + 5) F u0 st F' v ∧ OIn w (some ⟨q, 0, none⟩) ck lg (.int .u64 0) (.string ⟨#[]⟩) v) ∨
      (k = 2 ∧ st.mayS ck lg ∧ (st.load 0 (2 * ck)).2 = 0 ∧ ∃ F', Bo q (w.heap.size + 3) (w.heap.size + 5) F u0 st F' v ∧ OIn w (some ⟨q, 0, none⟩) ck lg (.int .u64 (((st.load 0 (2 * ck)).1.1 : Nat) : Int)) (.string (st.load 0 (2 * ck)).1.2) v) ∨
      (k = 3 ∧ (stoOpen st ck lg).1.1 = 0 ∧ (∃ F' s, Bo q (w.heap.size + 3) (w.heap.size + 5) F u0 s F' v) ∧ ∃ k l : Nat, ck = (k : Int) ∧ lg = (l : Int) ∧ st.mayS ck lg ∧ (1 ≤ (stoOpen st ck lg).1.2.1 ∧ (stoOpen st ck lg).1.2.1 ≤ 4611686018427387904) ∧ (stoOpen st ck lg).1.2.2.2.1.size ≤ l * 255 ∧ OFin w q k l F u0 (stoOpen st ck lg).2 (stoOpen st ck lg).1.2.1 (stoOpen st ck lg).1.2.2.1 (stoOpen st ck lg).1.2.2.2.1 (stoOpen st ck lg).1.2.2.2.2 v))
    (fun x v => x = (((stoOpen st ck lg).1.1 : Nat) : Int) ∧ (stoOpen st ck lg).1.1 ≠ 0 ∧ ∃ F', Bo q (w.heap.size + 3) (w.heap.size + 5) F u0 (stoOpen st ck lg).2 F' v) u0 (show (3 : Nat) ≤ 5000 by decide) ?_ ?_ ?_ ?_
  · refine key.mono ?_
    rintro e v ⟨x, rfl, ⟨rfl, hr⟩ | ⟨hx, rfl, h0, hb⟩⟩
    · rcases hr with ⟨hk, _⟩ | ⟨hk, _⟩ | ⟨hk, _⟩ | ⟨_, h0, _, hb⟩
      · exact absurd (show (3 : Nat) = 0 from hk) (by decide)
      · exact absurd (show (3 : Nat) = 1 from hk) (by decide)
      · exact absurd (show (3 : Nat) = 2 from hk) (by decide)
      · exact ⟨by rw [h0]; rfl, Or.inr ⟨h0, hb⟩⟩
    · exact ⟨rfl, Or.inl ⟨h0, hb⟩⟩
  · intro k hk v hr
    have hb : ∃ F' s, Bo q (w.heap.size + 3) (w.heap.size + 5) F u0 s F' v := by
      rcases hr with ⟨_, F', hb, _⟩ | ⟨_, _, F', hb, _⟩ | ⟨_, _, _, F', hb, _⟩ | ⟨_, _, hb, _⟩
      · exact ⟨F', _, hb⟩
      · exact ⟨F', _, hb⟩
      · exact ⟨F', _, hb⟩
      · exact hb
    obtain ⟨F', s, hb⟩ := hb
    exact (cell_same8 (bo_row hb b hbl ⟨fun hf => by have := hF _ hf; omega, by omega, by omega⟩) _).trans (hrow k hk)
  · intro k hk
    match k, hk with
    | 0, _ => exact Or.inl ⟨_, rfl⟩
    | 1, _ => exact Or.inr (Or.inr (Or.inr (Or.inr (Or.inl ⟨_, _, _, rfl⟩))))
    | 2, _ => exact Or.inr (Or.inr (Or.inr (Or.inr (Or.inr (Or.inl ⟨_, _, rfl⟩)))))
  · intro k hk v hr
    rcases hr with ⟨rfl, F1, hb, ho⟩ | ⟨rfl, hm, F1, hb, ho⟩ | ⟨rfl, hm, hld, F1, hb, ho⟩ | ⟨rfl, _⟩
    · intro n a he
      cases he
      by_cases hm : st.mayS ck lg
      · refine calls_eq (a := #[areaV (some ⟨q, 0, none⟩) ck lg]) rfl ((fault8_any (some ⟨q, 0, none⟩) ck lg (st.sure.length : Int) (blocksC ck lg) v 0 (fun y hy => con.size q st F1 y (con.below hb.d hy) hok) (fun y => blocks8_any ck lg y) ?_).mono ?_)
        · rw [if_neg (by omega), if_neg (by have := hm.1; have := hm.2; omega)]
        · rintro e y ⟨rfl, hy⟩
          exact ⟨0, rfl, Or.inl ⟨rfl, Or.inr (Or.inl ⟨rfl, hm, F1, hb.keep hy, ho.below hy⟩)⟩⟩
      · have e2 : stoOpen st ck lg = ((2, 0, noText, noText, []), st) := by unfold stoOpen; rw [if_pos hm]
        refine calls_eq (a := #[areaV (some ⟨q, 0, none⟩) ck lg]) rfl ((fault8_any (some ⟨q, 0, none⟩) ck lg (st.sure.length : Int) (blocksC ck lg) v 2 (fun y hy => con.size q st F1 y (con.below hb.d hy) hok) (fun y => blocks8_any ck lg y) ?_).mono ?_)
        · rw [if_neg (by omega), if_pos (by
            by_cases h0 : blocksC ck lg = 0
            · exact Or.inl h0
            · refine Or.inr ?_
              have : ¬ blocksC ck lg ≤ (st.sure.length : Int) := fun hh => hm ⟨h0, hh⟩
              omega)]
        · rintro e y ⟨rfl, hy⟩
          refine ⟨2, rfl, Or.inr ⟨by decide, ?_⟩⟩
          rw [e2]
          exact ⟨rfl, (show ¬ (2 : Nat) = 0 by decide), F1, hb.keep hy⟩
    · obtain ⟨kk, ll, rfl, rfl, q1, q2, q3, q4, q5, q6⟩ := mayS_nat hm
      have hsz1 := ho.size
      intro n a he
      cases he
      refine calls_eq (a := #[.pointer (some ⟨w.heap.size, 0, none⟩), .pointer (some ⟨w.heap.size + 4, 0, none⟩), .pointer (some ⟨w.heap.size + 5, 0, none⟩)]) rfl ((open1_any (some ⟨q, 0, none⟩) (w.heap.size + 3) w.heap.size (w.heap.size + 4) (w.heap.size + 5) _ (kk : Int) (ll : Int) (2 * (kk : Int)) (st.load 0 (2 * (kk : Int))).1.1 (st.load 0 (2 * (kk : Int))).1.2 (((st.load 0 (2 * (kk : Int))).2 : Nat) : Int) v _ _ _ rfl ho.obx ho.k ⟨by omega, by omega, by omega⟩ (fun y => ckb_any _ _ _ y (by omega)) (fun y hy => pLoad q 0 (2 * (kk : Int)) st F1 y (con.below hb.d hy) hok (by omega) (by omega))).mono ?_)
      rintro e y ⟨rfl, z, hz, rfl⟩
      have hbz := ((hb.keep hz).setk 0 (.int .u64 (((st.load 0 (2 * (kk : Int))).1.1 : Nat) : Int))).setk 1 (.string (st.load 0 (2 * (kk : Int))).1.2)
      have hoz := ho.below hz
      refine ⟨_, rfl, ?_⟩
      by_cases c0 : (st.load 0 (2 * (kk : Int))).2 = 0
      · refine Or.inl ⟨by rw [c0]; rfl, Or.inr (Or.inr (Or.inl ⟨rfl, hm, c0, F1, hbz, ?_⟩))⟩
        have hs : ∀ j, j ≠ w.heap.size + 5 → ((z.setCell ⟨w.heap.size + 5, 0, none⟩ (.int .u64 (((st.load 0 (2 * (kk : Int))).1.1 : Nat) : Int))).setCell ⟨w.heap.size + 5, 1, none⟩ (.string (st.load 0 (2 * (kk : Int))).1.2)).heap[j]? = z.heap[j]? := fun j hj => set2_other z (w.heap.size + 5) _ _ j hj
        exact ⟨(cell_same8 (hs _ (by omega)) 0).trans hoz.d, (hs _ (by omega)).trans hoz.res, (hs _ (by omega)).trans hoz.p, (cell_same8 (hs _ (by omega)) 0).trans hoz.s, heap_set3 (i := 1) (heap_set3 (i := 0) hoz.k _) _⟩
      · have e2 : stoOpen st (kk : Int) (ll : Int) = (((st.load 0 (2 * (kk : Int))).2, 0, noText, noText, []), st) := by unfold stoOpen; rw [if_neg (fun x => x hm), if_pos c0]
        rw [e2]
        exact Or.inr ⟨by omega, rfl, c0, F1, hbz⟩
    · obtain ⟨kk, ll, rfl, rfl, q1, q2, q3, q4, q5, q6⟩ := mayS_nat hm
      have hsz1 := ho.size
      have hgen := load_gen st 0 (2 * (kk : Int))
      have hpos := load_pos st 0 (2 * (kk : Int)) hld
      have hgo := sto_open_go st kk ll hm hld
      generalize (st.load 0 (2 * (kk : Int))).1.1 = g at *
      generalize (st.load 0 (2 * (kk : Int))).1.2 = t at *
      have hfit : lo kk ll g + ll ≤ st.sure.length := by unfold lo; rcases (by omega : g % 2 = 0 ∨ g % 2 = 1) with e | e <;> rw [e] <;> omega
      have hos := open_size hok (lo kk ll g) ll hfit
      have hF1 := con.lt hb.d
      have hop : ∀ z, Below v.heap.size v z → Calls Tryz.prog 85 #[.pointer (some ⟨q, 0, none⟩), .int .i64 ((lo kk ll g : Nat) : Int), .int .i64 (ll : Int)] z (Opened q (lo kk ll g) ll (walOpen st (lo kk ll g) ll) F1 z) := fun z hz =>
        pOpen q (lo kk ll g) ll st F1 z (con.below hb.d hz) hok (by omega) hfit q3 (by omega)
      have hnF : ∀ j, w.heap.size ≤ j → j < w.heap.size + 6 → j ≠ w.heap.size + 3 → j ≠ w.heap.size + 5 → ¬ F1 j := fun j h1 h2 h3 h4 hf => by
        rcases hb.l.own j (Or.inl hf) with (h5 | h5 | h5) | h5
        · have := hF _ h5; omega
        · exact h3 h5
        · exact h4 h5
        · omega
      have hF3 : ¬ F1 (w.heap.size + 4) ∧ ¬ F1 (w.heap.size + 3) ∧ ¬ F1 (w.heap.size + 5) := ⟨hnF _ (by omega) (by omega) (by omega) (by omega), hb.np, hb.nk⟩
      have hob : OB2 q (w.heap.size + 3) (w.heap.size + 4) (w.heap.size + 5) (kk : Int) (ll : Int) (g : Int) v := ⟨ho.s, ho.pc.1, ho.pc.2.1, ho.pc.2.2, (row_cells3 ho.k).1.1⟩
      intro n a he
      cases he
      by_cases h0 : (walOpen st (lo kk ll g) ll).1.1 = 0
      · rw [if_neg (fun x => x h0)] at hgo
        refine calls_eq (a := #[.pointer (some ⟨w.heap.size + 4, 0, none⟩), .pointer (some ⟨w.heap.size + 5, 0, none⟩)]) rfl ((open2_ok (w.heap.size + 3) q (lo kk ll g) (w.heap.size + 4) (w.heap.size + 5) (kk : Int) (ll : Int) g ll (walOpen st (lo kk ll g) ll).1.2.1 (walOpen st (lo kk ll g) ll).1.2.2 (walOpen st (lo kk ll g) ll).2 F1 v _ _ _ _ _ _ _ _ _ hob ho.p ho.k hF3 (by omega) (by omega) (by omega) ?_).mono ?_)
        · intro z hz
          refine aopen_ok q (lo kk ll g) g (kk : Int) ll _ _ _ F1 z (fun k hk => Nat.lt_of_lt_of_le (hF1 k hk) hz.size) (fun y => logOf_any (some ⟨q, 0, none⟩) kk ll g y q2 q4) (fun y hy => ?_)
          refine (hop y (bnext hz hy)).mono ?_
          rintro e z2 (⟨_, hh⟩ | ⟨hh, _⟩)
          · exact hh
          · exact absurd h0 hh
        · rintro e z2 ⟨rfl, pl, vR, F2, z, hz, rfl⟩
          obtain ⟨k1, k2, k3, k4, k5, k6, k7, k8⟩ := hz
          obtain ⟨aR, cR, rfl, hst, hOB⟩ := own_form k3
          have hbz := (((hb.step (by omega) (by omega) k4 k5).setp 0 (.iface 143 (.pointer (some ⟨pl, 0, none⟩)))).setp 1 (.int .u64 (g : Int))).setk 2 (.slice aR (walOpen st (lo kk ll g) ll).1.2.2.length cR)
          have hu0 := hb.l.size
          have hp3 := (k5.block (w.heap.size + 3) (by omega) hb.np).trans ho.p
          have hk5 := (k5.block (w.heap.size + 5) (by omega) hb.nk).trans ho.k
          have hne : ∀ b off, aR = some ⟨b, off, none⟩ → v.heap.size ≤ b := fun b off e => own_ge k3 (hOB b off e)
          refine ⟨0, rfl, Or.inl ⟨rfl, Or.inr (Or.inr (Or.inr ⟨rfl, ?_⟩))⟩⟩
          rw [hgo]
          refine ⟨rfl, ⟨F2, _, hbz⟩, kk, ll, rfl, rfl, hm, ⟨hpos, hgen⟩, hos, pl, aR, cR, F2, hbz, ?_, ?_, ?_, ?_, fun b off e => by have := hne b off e; omega, by omega, k6, (own_cap9 k3).2⟩
          · exact k1.same ((Below.heap_setCell _ ⟨w.heap.size + 5, 2, none⟩ _ pl (fun e => by have : pl = w.heap.size + 5 := e; omega)).trans (set2_other z (w.heap.size + 3) _ _ pl (by omega)))
          · refine (Below.heap_setCell _ ⟨w.heap.size + 5, 2, none⟩ _ (w.heap.size + 3) (fun e => by have : w.heap.size + 3 = w.heap.size + 5 := e; omega)).trans ?_
            exact heap_set3 (i := 1) (heap_set3 (i := 0) hp3 _) _
          · exact heap_set3 (i := 2) ((set2_other z (w.heap.size + 3) _ _ (w.heap.size + 5) (by omega)).trans hk5) _
          · exact strs_set8 (strs_set8 (strs_set8 hst (fun b off e => by have := hne b off e; omega)) (fun b off e => by have := hne b off e; omega)) (fun b off e => by have := hne b off e; omega)
      · rw [if_pos h0] at hgo
        refine calls_eq (a := #[.pointer (some ⟨w.heap.size + 4, 0, none⟩), .pointer (some ⟨w.heap.size + 5, 0, none⟩)]) rfl ((open2_no (w.heap.size + 3) q (w.heap.size + 4) (w.heap.size + 5) (kk : Int) (ll : Int) g (((walOpen st (lo kk ll g) ll).1.1 : Nat) : Int) (walOpen st (lo kk ll g) ll).2 F1 v _ _ _ _ _ _ _ _ _ hob ho.p ho.k hF3 (by omega) (by omega) (by omega) ?_).mono ?_)
        · intro z hz
          refine aopen_no q (lo kk ll g) g (kk : Int) ll _ (by omega) _ F1 z (fun k hk => Nat.lt_of_lt_of_le (hF1 k hk) hz.size) (fun y => logOf_any (some ⟨q, 0, none⟩) kk ll g y q2 q4) (fun y hy => ?_)
          refine (hop y (bnext hz hy)).mono ?_
          rintro e z2 (⟨hh, _⟩ | ⟨_, hh⟩)
          · exact absurd hh h0
          · exact hh
        · rintro e z2 ⟨rfl, F2, z, ⟨k4, k5⟩, rfl⟩
          have hbz := (((hb.step (by omega) (by omega) k4 k5).setp 0 .nilIface).setp 1 (.int .u64 0)).setk 2 (.slice none 0 0)
          refine ⟨_, rfl, Or.inr ⟨by omega, ?_⟩⟩
          rw [hgo]
          exact ⟨rfl, h0, F2, hbz⟩
    · exact absurd (show (3 : Nat) < 3 from hk) (by decide)
  · exact Or.inl ⟨rfl, F, ⟨hD, Loc.refl _ _, fun hf => by have := hF _ hf; omega, fun hf => by have := hF _ hf; omega⟩, h⟩
end Go.Proofs.YtchhojkhfdkhfaaGreatDoor
namespace Go.Proofs.YtchhojkhfdkhfaaGreatDoor
open Go Go.RowKit Frm
/-- The world in which Open's steps begin. -/
def OW (w : World) (pd : Option Addr) (ck lg : Int) : World :=
  (((((w.alloc (.cells #[.pointer pd] 28)).alloc (.cells #[.int .i64 ck, .int .i64 lg] 23)).alloc (.cells #[.int .u64 0, .string ⟨#[]⟩, .slice none 0 0] 61)).alloc (.cells #[.nilIface, .int .u64 0, .pointer pd, .int .i64 ck, .int .i64 lg, .bool false] 104)).alloc
    (.cells #[.pointer (some ⟨w.heap.size + 1 + 1 + 1, 0, none⟩)] 36)).alloc (.cells #[.int .u64 0, .string ⟨#[]⟩, .slice none 0 0] 61)
def oFns (w : World) (pd : Option Addr) (ck lg : Int) : Array Value := #[Value.func (.func 42) #[areaV pd ck lg] #[], .func (.func 46) #[] #[.pointer (some ⟨w.heap.size, 0, none⟩), .pointer (some ⟨w.heap.size + 1 + 1 + 1 + 1, 0, none⟩), .pointer (some ⟨w.heap.size + 1 + 1 + 1 + 1 + 1, 0, none⟩)], .func (.func 49) #[] #[.pointer (some ⟨w.heap.size + 1 + 1 + 1 + 1, 0, none⟩), .pointer (some ⟨w.heap.size + 1 + 1 + 1 + 1 + 1, 0, none⟩)]]
/-- Cells of three, written anew. -/
def set3w (z : World) (B : Nat) (a b c : Value) : World := ((z.setCell ⟨B, 0, none⟩ a).setCell ⟨B, 1, none⟩ b).setCell ⟨B, 2, none⟩ c
set_option maxRecDepth 10000 in
set_option maxHeartbeats 2000000 in
theorem open_no (pd : Option Addr) (ck lg : Int) (w : World) (x : Int) (Q : World → Prop) (hx : x ≠ 0)
    (hG : Calls Tryz.prog 41 #[.slice (some ⟨w.heap.size + 1 + 1 + 1 + 1 + 1 + 1, 0, none⟩) 3 3] ((OW w pd ck lg).alloc (.cells (oFns w pd ck lg) 106)) fun e v => e = .returned (.int .i64 x) ∧ v.heap[w.heap.size + 1 + 1]? = some (.cells #[.int .u64 0, .string ⟨#[]⟩, .slice none 0 0] 61 (0, 0)) ∧ Q v) :
    Calls Tryz.prog 20 #[.pointer pd, confV ck lg] w fun e v => ∃ z, Q z ∧ e = .returned (.tuple #[.pointer none, .agg #[.int .u64 0, .string ⟨#[]⟩, .slice none 0 0], .int .i64 x]) ∧ v = set3w z (w.heap.size + 1 + 1) (.int .u64 0) (.string ⟨#[]⟩) (.slice none 0 0) := by
  have HG := hide hG
  unfold confV OW oFns areaV at *
  clear hG
  go_enter Tryz.func20, Tryz.ntmps20
  go_wp2_with fail
  refine HG.out.mono ?_
  rintro e z ⟨rfl, hrow, hq⟩
  obtain ⟨⟨r0, r1, r2⟩, fr⟩ := row_cells3 hrow
  have f0 := fr 0
  have f1 := fr 1
  have f2 := fr 2
  have HQ := hide hq
  have HRow := hide hrow
  clear hq hrow fr HG
  go_wp2
  exact bodyPost_ret (results_tct Tryz.results20 _ _ (w.heap.size + 1 + 1) 61 _ (0, 0) _ rfl (heap_set3 (i := 2) (heap_set3 (i := 1) (heap_set3 (i := 0) HRow.out _) _) _) Tryz.underlying61 rfl info61) rfl ⟨z, HQ.out, rfl, rfl⟩
/-- What the last region of Open reads. -/
def OLast (w : World) (g : Int) (t : ByteArray) (sl : Value) (z : World) : Prop := z.cell? ⟨w.heap.size + 1 + 1 + 1 + 1, 0, none⟩ = some (.pointer (some ⟨w.heap.size + 1 + 1 + 1, 0, none⟩)) ∧ z.cell? ⟨w.heap.size + 1 + 1 + 1 + 1 + 1, 0, none⟩ = some (.int .u64 g) ∧ z.cell? ⟨w.heap.size + 1 + 1 + 1 + 1 + 1, 1, none⟩ = some (.string t) ∧ z.cell? ⟨w.heap.size + 1 + 1 + 1 + 1 + 1, 2, none⟩ = some sl
theorem OLast.all {w z : World} {g : Int} {t : ByteArray} {sl : Value} (h : OLast w g t sl z) : z.cell? ⟨w.heap.size + 1 + 1 + 1 + 1, 0, none⟩ = some (.pointer (some ⟨w.heap.size + 1 + 1 + 1, 0, none⟩)) ∧ z.cell? ⟨w.heap.size + 1 + 1 + 1 + 1 + 1, 0, none⟩ = some (.int .u64 g) ∧ z.cell? ⟨w.heap.size + 1 + 1 + 1 + 1 + 1, 1, none⟩ = some (.string t) ∧ z.cell? ⟨w.heap.size + 1 + 1 + 1 + 1 + 1, 2, none⟩ = some sl := h
theorem set3w_other (z : World) (B : Nat) (a b c : Value) (k : Nat) (hk : k ≠ B) : (set3w z B a b c).heap[k]? = z.heap[k]? := by
  unfold set3w
  rw [Below.heap_setCell _ ⟨B, 2, none⟩ c k hk, Below.heap_setCell _ ⟨B, 1, none⟩ b k hk, Below.heap_setCell _ ⟨B, 0, none⟩ a k hk]
theorem OLast.set {w z : World} {g : Int} {t : ByteArray} {sl : Value} (h : OLast w g t sl z) (a b c : Value) : OLast w g t sl (((z.setCell ⟨w.heap.size + 1 + 1, 0, none⟩ a).setCell ⟨w.heap.size + 1 + 1, 1, none⟩ b).setCell ⟨w.heap.size + 1 + 1, 2, none⟩ c) := by
  have hs : ∀ k, k ≠ w.heap.size + 1 + 1 → (((z.setCell ⟨w.heap.size + 1 + 1, 0, none⟩ a).setCell ⟨w.heap.size + 1 + 1, 1, none⟩ b).setCell ⟨w.heap.size + 1 + 1, 2, none⟩ c).heap[k]? = z.heap[k]? := fun k hk => set3w_other z _ a b c k hk
  have h4 := hs (w.heap.size + 1 + 1 + 1 + 1) (by omega)
  have h5 := hs (w.heap.size + 1 + 1 + 1 + 1 + 1) (by omega)
  exact ⟨(cell_same8 h4 0).trans h.1, (cell_same8 h5 0).trans h.2.1, (cell_same8 h5 1).trans h.2.2.1, (cell_same8 h5 2).trans h.2.2.2⟩
theorem OLast.drew {w z : World} {g : Int} {t : ByteArray} {sl : Value} (h : OLast w g t sl z) : OLast w g t sl z.drew := h
set_option maxRecDepth 10000 in
set_option maxHeartbeats 2000000 in
theorem open_yes (pd : Option Addr) (ck lg : Int) (w : World) (g : Int) (t : ByteArray) (Q : Option Addr → Nat → Nat → World → Prop)
    (hG : Calls Tryz.prog 41 #[.slice (some ⟨w.heap.size + 1 + 1 + 1 + 1 + 1 + 1, 0, none⟩) 3 3] ((OW w pd ck lg).alloc (.cells (oFns w pd ck lg) 106)) fun e v => e = .returned (.int .i64 0) ∧ v.heap[w.heap.size + 1 + 1]? = some (.cells #[.int .u64 0, .string ⟨#[]⟩, .slice none 0 0] 61 (0, 0)) ∧ ∃ a n c, OLast w g t (.slice a n c) v ∧ Q a n c v) :
    Calls Tryz.prog 20 #[.pointer pd, confV ck lg] w fun e v => ∃ z a n c, Q a n c z ∧ e = .returned (.tuple #[.pointer (some ⟨w.heap.size + 1 + 1 + 1, 0, none⟩), .agg #[.int .u64 g, .string t, .slice a n c], .int .i64 0]) ∧ v = (set3w z (w.heap.size + 1 + 1) (.int .u64 g) (.string t) (.slice a n c)).drew := by
  have HG := hide hG
  unfold confV OW oFns areaV at *
  clear hG
  go_enter Tryz.func20, Tryz.ntmps20
  go_wp2_with fail
  refine HG.out.mono ?_
  rintro e z ⟨rfl, hrow, a, n, c, hl, hq⟩
  obtain ⟨⟨r0, r1, r2⟩, fr⟩ := row_cells3 hrow
  have f0 := fr 0
  have f1 := fr 1
  have f2 := fr 2



  have HQ := hide hq
  have HRow : Hid (z.heap[w.heap.size + 1 + 1]? = some (.cells #[.int .u64 0, .string ⟨#[]⟩, .slice none 0 0] 61 (0, 0))) := hrow
  have K := hl.drew
  have HL := hide hl
  clear hq hrow fr HG hl
  go_wp2_with fail
  go_region_held3 (fun z => z.cell? ⟨w.heap.size + 1 + 1 + 1 + 1, 0, none⟩ = some (.pointer (some ⟨w.heap.size + 1 + 1 + 1, 0, none⟩)) ∧ z.cell? ⟨w.heap.size + 1 + 1 + 1 + 1 + 1, 0, none⟩ = some (.int .u64 g) ∧ z.cell? ⟨w.heap.size + 1 + 1 + 1 + 1 + 1, 1, none⟩ = some (.string t) ∧ z.cell? ⟨w.heap.size + 1 + 1 + 1 + 1 + 1, 2, none⟩ = some (.slice a n c))
    ((first | (with_reducible exact OLast.all K) | (with_reducible exact ((OLast.set HL.out _ _ _).drew).all)))
    (first
      | (go_at_call 41; fail))
  all_goals
    clear K
    go_wp2
    exact bodyPost_ret (results_tct Tryz.results20 _ _ (w.heap.size + 1 + 1) 61 _ (0, 0) _ rfl (heap_set3 (i := 2) (heap_set3 (i := 1) (heap_set3 (i := 0) HRow.out _) _) _) Tryz.underlying61 rfl info61) rfl ⟨z, a, n, c, HQ.out, rfl, rfl⟩
end Go.Proofs.YtchhojkhfdkhfaaGreatDoor
namespace Go.Proofs.YtchhojkhfdkhfaaGreatDoor
open Go Go.RowKit Frm
theorem OW_in (w : World) (pd : Option Addr) (ck lg : Int) : OIn w pd ck lg (.int .u64 0) (.string ⟨#[]⟩) (OW w pd ck lg) ∧ Below w.heap.size w (OW w pd ck lg) ∧ (OW w pd ck lg).heap.size = w.heap.size + 1 + 1 + 1 + 1 + 1 + 1 := by
  unfold OW
  generalize h1 : w.alloc (.cells #[.pointer pd] 28) = W1
  have s1 : W1.heap.size = w.heap.size + 1 := by rw [← h1]; simp
  have l1 : W1.heap[w.heap.size]? = some (.cells #[.pointer pd] 28 (0, 0)) := by rw [← h1]; exact heap_alloc_last w _
  have b1 : Below w.heap.size w W1 := by rw [← h1]; exact one_below w _
  generalize h2 : W1.alloc (.cells #[.int .i64 ck, .int .i64 lg] 23) = W2
  have s2 : W2.heap.size = w.heap.size + 1 + 1 := by rw [← h2]; simp [s1]
  have b2 : Below W1.heap.size W1 W2 := by rw [← h2]; exact one_below W1 _
  generalize h3 : W2.alloc (.cells #[.int .u64 0, .string ⟨#[]⟩, .slice none 0 0] 61) = W3
  have s3 : W3.heap.size = w.heap.size + 1 + 1 + 1 := by rw [← h3]; simp [s2]
  have l3 : W3.heap[w.heap.size + 1 + 1]? = some (.cells #[.int .u64 0, .string ⟨#[]⟩, .slice none 0 0] 61 (0, 0)) := by rw [← h3, ← s2]; exact heap_alloc_last W2 _
  have b3 : Below W2.heap.size W2 W3 := by rw [← h3]; exact one_below W2 _
  generalize h4 : W3.alloc (.cells #[.nilIface, .int .u64 0, .pointer pd, .int .i64 ck, .int .i64 lg, .bool false] 104) = W4
  have s4 : W4.heap.size = w.heap.size + 1 + 1 + 1 + 1 := by rw [← h4]; simp [s3]
  have l4 : W4.heap[w.heap.size + 1 + 1 + 1]? = some (.cells #[.nilIface, .int .u64 0, .pointer pd, .int .i64 ck, .int .i64 lg, .bool false] 104 (0, 0)) := by rw [← h4, ← s3]; exact heap_alloc_last W3 _
  have b4 : Below W3.heap.size W3 W4 := by rw [← h4]; exact one_below W3 _
  generalize h5 : W4.alloc (.cells #[.pointer (some ⟨w.heap.size + 1 + 1 + 1, 0, none⟩)] 36) = W5
  have s5 : W5.heap.size = w.heap.size + 1 + 1 + 1 + 1 + 1 := by rw [← h5]; simp [s4]
  have l5 : W5.heap[w.heap.size + 1 + 1 + 1 + 1]? = some (.cells #[.pointer (some ⟨w.heap.size + 1 + 1 + 1, 0, none⟩)] 36 (0, 0)) := by rw [← h5, ← s4]; exact heap_alloc_last W4 _
  have b5 : Below W4.heap.size W4 W5 := by rw [← h5]; exact one_below W4 _
  generalize h6 : W5.alloc (.cells #[.int .u64 0, .string ⟨#[]⟩, .slice none 0 0] 61) = W6
  have s6 : W6.heap.size = w.heap.size + 1 + 1 + 1 + 1 + 1 + 1 := by rw [← h6]; simp [s5]
  have l6 : W6.heap[w.heap.size + 1 + 1 + 1 + 1 + 1]? = some (.cells #[.int .u64 0, .string ⟨#[]⟩, .slice none 0 0] 61 (0, 0)) := by rw [← h6, ← s5]; exact heap_alloc_last W5 _
  have b6 : Below W5.heap.size W5 W6 := by rw [← h6]; exact one_below W5 _
  have b56 := bnext b5 b6
  have b46 := bnext b4 b56
  have b36 := bnext b3 b46
  have b26 := bnext b2 b36
  refine ⟨⟨?_, ?_, ?_, ?_, l6⟩, bnext b1 b26, s6⟩
  · exact (cell_of_row _ _ 0 _ _ _ ((b26.block _ (by omega)).trans l1)).trans rfl
  · exact (b46.block _ (by omega)).trans l3
  · exact (b56.block _ (by omega)).trans l4
  · exact (cell_of_row _ _ 0 _ _ _ ((b6.block _ (by omega)).trans l5)).trans rfl
theorem set3w_loc {F A : Nat → Prop} {w z : World} {B : Nat} (h : Loc F A w z) (hB : w.heap.size ≤ B) (a b c : Value) : Loc F A w (set3w z B a b c) := ((h.set_new B 0 a hB).set_new B 1 b hB).set_new B 2 c hB
/-- There is one; its list is none where it lies nowhere. -/
def PHas9 (q ck lg gen : Nat) (text str : ByteArray) (recs : List ByteArray) (st : St) (F : Nat → Prop) (w : World) (e : Ending) (w' : World) : Prop :=
  ∃ p a c A, e = .returned (.tuple #[.pointer (some ⟨p, 0, none⟩), .agg #[.int .u64 (gen : Int), .string text, .slice a recs.length c], .int .i64 0]) ∧ PSt w' p q ck lg ⟨gen, str, false⟩ st A ∧ Loc F A w w' ∧ StrsAt w' a recs ∧ (∀ b off, a = some ⟨b, off, none⟩ → w.heap.size ≤ b) ∧ (a = none → c = 0)
def POpened9 (q : Nat) (ck lg : Int) (r : (Nat × Nat × ByteArray × ByteArray × List ByteArray) × St) (F : Nat → Prop) (w : World) (e : Ending) (w' : World) : Prop :=
  (r.1.1 = 0 ∧ PHas9 q ck.toNat lg.toNat r.1.2.1 r.1.2.2.1 r.1.2.2.2.1 r.1.2.2.2.2 r.2 F w e w') ∨ (r.1.1 ≠ 0 ∧ PNo8 q r.2 F w ((r.1.1 : Nat) : Int) e w')
set_option maxRecDepth 10000 in
theorem pOpen9 (q : Nat) (st : St) (F : Nat → Prop) (ck lg : Int) (w : World) (hD : DAt w q st F) (hok : st.Ok) (hl : st.loose.length + 3000 ≤ 8000) (h400 : st.sure.length ≤ 400) (_ : I64 ck) (_ : I64 lg) :
    Calls Tryz.prog 20 #[.pointer (some ⟨q, 0, none⟩), confV ck lg] w (POpened9 q ck lg (stoOpen st ck lg) F w) := by
  have hF := con.lt hD
  obtain ⟨hin, hbw, hsz⟩ := OW_in w (some ⟨q, 0, none⟩) ck lg
  generalize hu0 : (OW w (some ⟨q, 0, none⟩) ck lg).alloc (.cells (oFns w (some ⟨q, 0, none⟩) ck lg) 106) = u0
  have hb1 : Below (OW w (some ⟨q, 0, none⟩) ck lg).heap.size (OW w (some ⟨q, 0, none⟩) ck lg) u0 := by rw [← hu0]; exact one_below _ _
  have hb0 := bnext hbw hb1
  have hs0 : u0.heap.size = w.heap.size + 7 := by rw [← hu0]; simp [hsz]
  have hrow : u0.heap[w.heap.size + 1 + 1 + 1 + 1 + 1 + 1]? = some (.cells (oFns w (some ⟨q, 0, none⟩) ck lg) 106 (0, 0)) := by rw [← hu0, ← hsz]; exact heap_alloc_last _ _
  have hin0 := hin.below hb1
  have steps := oSteps q st F ck lg w u0 (w.heap.size + 1 + 1 + 1 + 1 + 1 + 1) 3 (con.below hD hb0) hok hl h400 hF hin0 (Nat.le_refl _) (fun k hk => by
    match k, hk with
    | 0, _ => exact (cell_of_row _ _ 0 _ _ _ hrow).trans rfl
    | 1, _ => exact (cell_of_row _ _ 1 _ _ _ hrow).trans rfl
    | 2, _ => exact (cell_of_row _ _ 2 _ _ _ hrow).trans rfl)
  have hN : ∀ k, ON (w.heap.size + 3) (w.heap.size + 5) k → w.heap.size ≤ k := fun k hk => by rcases hk with e | e <;> omega
  have hres : ∀ {F' : Nat → Prop} {s : St} {v : World}, Bo q (w.heap.size + 3) (w.heap.size + 5) F u0 s F' v → v.heap[w.heap.size + 1 + 1]? = some (.cells #[.int .u64 0, .string ⟨#[]⟩, .slice none 0 0] 61 (0, 0)) ∧ ¬ F' (w.heap.size + 1 + 1) := fun hb =>
    ⟨(bo_row hb (w.heap.size + 2) (by omega) ⟨fun hf => by have := hF _ hf; omega, by omega, by omega⟩).trans hin0.res, fun hf => by
      rcases hb.l.own _ (Or.inl hf) with (h5 | h5 | h5) | h5
      · have := hF _ h5; omega
      · omega
      · omega
      · omega⟩
  by_cases h0 : (stoOpen st ck lg).1.1 = 0
  · refine (open_yes (some ⟨q, 0, none⟩) ck lg w (((stoOpen st ck lg).1.2.1 : Nat) : Int) (stoOpen st ck lg).1.2.2.1 (fun a n c v => n = (stoOpen st ck lg).1.2.2.2.2.length ∧ ∃ k l pl F', ck = ((k : Nat) : Int) ∧ lg = ((l : Nat) : Int) ∧ st.mayS ck lg ∧ (1 ≤ (stoOpen st ck lg).1.2.1 ∧ (stoOpen st ck lg).1.2.1 ≤ 4611686018427387904) ∧ (stoOpen st ck lg).1.2.2.2.1.size ≤ l * 255 ∧ Bo q (w.heap.size + 3) (w.heap.size + 5) F u0 (stoOpen st ck lg).2 F' v ∧ LAt v pl q (lo k l (stoOpen st ck lg).1.2.1) l (stoOpen st ck lg).1.2.2.2.1 false ∧ StAt v (w.heap.size + 3) pl q k l (stoOpen st ck lg).1.2.1 false ∧ StrsAt v a (stoOpen st ck lg).1.2.2.2.2 ∧ (∀ b off, a = some ⟨b, off, none⟩ → u0.heap.size ≤ b) ∧ u0.heap.size ≤ pl ∧ ¬ F' pl ∧ (a = none → c = 0)) ?_).mono ?_
    · rw [hu0]
      refine steps.mono ?_
      rintro e v ⟨rfl, ⟨h1, _⟩ | ⟨_, k, l, hk, hll, hm, hg, hs, pl, aR, cR, F', m1, m2, m3, m4, m5, m6, m7, m8, m9⟩⟩
      · exact absurd h0 h1
      · have hbs : v.heap[w.heap.size + 4]? = u0.heap[w.heap.size + 4]? := bo_row m1 _ (by omega) ⟨fun hf => by have := hF _ hf; omega, by omega, by omega⟩
        obtain ⟨⟨x0, x1, x2⟩, -⟩ := row_cells3 m4
        exact ⟨by rw [h0]; rfl, (hres m1).1, aR, _, cR, ⟨(cell_same8 hbs 0).trans hin0.s, x0, x1, x2⟩, rfl, k, l, pl, F', hk, hll, hm, hg, hs, m1, m2, m3, m5, m6, m7, m8, m9⟩
    · rintro e v ⟨z, a, n, c, ⟨rfl, k, l, pl, F', rfl, rfl, hm, hg, hs, m1, m2, m3, m5, m6, m7, m8, m9⟩, rfl, rfl⟩
      refine Or.inl ⟨h0, ?_⟩
      rw [Int.toNat_natCast, Int.toNat_natCast]
      have hn2 := (hres m1).2
      have hset : ∀ j, j ≠ w.heap.size + 1 + 1 → (set3w z (w.heap.size + 1 + 1) (.int .u64 (((stoOpen st (k : Int) (l : Int)).1.2.1 : Nat) : Int)) (.string (stoOpen st (k : Int) (l : Int)).1.2.2.1) (.slice a (stoOpen st (k : Int) (l : Int)).1.2.2.2.2.length c)).drew.heap[j]? = z.heap[j]? := fun j hj => set3w_other z _ _ _ _ j hj
      have hlz : Loc F F' w z := m1.l.two hb0 hN
      obtain ⟨k2, l2, e1, e2, q1, q2, q3, q4, q5, q6⟩ := mayS_nat hm
      have e1 : k = k2 := by omega
      have e2 : l = l2 := by omega
      subst e1 e2
      refine ⟨w.heap.size + 3, a, c, fun j => F' j ∨ j = pl ∨ j = w.heap.size + 3, rfl, ⟨pl, false, F', ⟨con.same m1.d (fun j hj => hset j (fun e => hn2 (e ▸ hj))), m3.same (hset _ (by omega)), m2.same (hset _ (by omega)), m1.np, m8, by omega, hs, fun x => absurd x (by simp), hg, ⟨q1, q2⟩, q3, q4⟩, rfl⟩, ?_, ?_, fun b off e => by have := m6 b off e; omega, m9⟩
      · have hl3 := (set3w_loc hlz (B := w.heap.size + 1 + 1) (by omega) (.int .u64 (((stoOpen st (k : Int) (l : Int)).1.2.1 : Nat) : Int)) (.string (stoOpen st (k : Int) (l : Int)).1.2.2.1) (.slice a (stoOpen st (k : Int) (l : Int)).1.2.2.2.2.length c)).drew
        exact ⟨hl3.os, hl3.tape, hl3.output, hl3.size, hl3.block, fun j hj => by
          rcases hj with hj | hj | hj
          · exact hl3.own j hj
          · exact Or.inr (by omega)
          · exact Or.inr (by omega)⟩
      · have hne : ∀ b off, a = some ⟨b, off, none⟩ → b ≠ w.heap.size + 1 + 1 := fun b off e => by have := m6 b off e; omega
        exact strs_set8 (i := 2) (strs_set8 (i := 1) (strs_set8 (i := 0) m5 hne) hne) hne
  · refine (open_no (some ⟨q, 0, none⟩) ck lg w (((stoOpen st ck lg).1.1 : Nat) : Int) (fun v => ∃ F', Bo q (w.heap.size + 3) (w.heap.size + 5) F u0 (stoOpen st ck lg).2 F' v) (by omega) ?_).mono ?_
    · rw [hu0]
      refine steps.mono ?_
      rintro e v ⟨rfl, ⟨_, F', hb⟩ | ⟨h1, _⟩⟩
      · exact ⟨rfl, (hres hb).1, F', hb⟩
      · exact absurd h1 h0
    · rintro e v ⟨z, ⟨F', hb⟩, rfl, rfl⟩
      refine Or.inr ⟨h0, rfl, F', con.same hb.d (fun j hj => set3w_other z _ _ _ _ j (fun e => (hres hb).2 (e ▸ hj))), set3w_loc (hb.l.two hb0 hN) (by omega) _ _ _⟩
theorem pOpen8 (q : Nat) (st : St) (F : Nat → Prop) (ck lg : Int) (w : World) (hD : DAt w q st F) (hok : st.Ok) (hl : st.loose.length + 3000 ≤ 8000) (h400 : st.sure.length ≤ 400) (h1 : I64 ck) (h2 : I64 lg) :
    Calls Tryz.prog 20 #[.pointer (some ⟨q, 0, none⟩), confV ck lg] w (POpened8 PSt q ck lg (stoOpen st ck lg) F w) := by
  refine (pOpen9 q st F ck lg w hD hok hl h400 h1 h2).mono ?_
  rintro e v (⟨h0, p, a, c, A, he, hp, hl, hs, hn, _⟩ | h)
  · exact Or.inl ⟨h0, p, a, c, A, he, hp, hl, hs, hn⟩
  · exact Or.inr h
end Go.Proofs.YtchhojkhfdkhfaaGreatDoor
namespace Go.Proofs.YtchhojkhfdkhfaaGreatDoor
open Go Go.RowKit Frm
theorem nfault8 (ck lg : Int) (w : World) : Calls Tryz.prog 42 #[areaV none ck lg] w fun e w' => e = .returned (.int .i64 1) ∧ Below w.heap.size w w' :=
  fault8_any none ck lg 0 (blocksC ck lg) w 1 (fun u _ => con.nsize u) (fun u => blocks8_any ck lg u) (by rw [if_pos rfl])
theorem nsteps (b c : Nat) (ck lg : Int) (vs : List Value) (u0 : World) (hn : vs.length + 1 ≤ 5000) (hrow : ∀ k (hk : k < (Value.func (.func 42) #[areaV none ck lg] #[] :: vs).length), u0.cell? ⟨b, 0 + k, none⟩ = some (Value.func (.func 42) #[areaV none ck lg] #[] :: vs)[k]) (hform : ∀ k (hk : k < (Value.func (.func 42) #[areaV none ck lg] #[] :: vs).length), SForm (Value.func (.func 42) #[areaV none ck lg] #[] :: vs)[k]) :
    Calls Tryz.prog 41 #[.slice (some ⟨b, 0, none⟩) (Value.func (.func 42) #[areaV none ck lg] #[] :: vs).length c] u0 fun e v => e = .returned (.int .i64 1) ∧ Below u0.heap.size u0 v := by
  refine (inOrder8 b 0 c (Value.func (.func 42) #[areaV none ck lg] #[] :: vs) (fun k v => k = 0 ∧ Below u0.heap.size u0 v) (fun x v => x = 1 ∧ Below u0.heap.size u0 v) u0 (by rw [List.length_cons]; exact hn) ?_ hform ?_ ⟨rfl, Below.refl _ _⟩).mono ?_
  · rintro k hk v ⟨_, hb⟩
    exact cellB9 hb (hrow k hk)
  · rintro k hk v ⟨rfl, hb⟩ n a he
    cases he
    refine calls_eq (a := #[areaV none ck lg]) rfl ((nfault8 ck lg v).mono ?_)
    rintro e z ⟨rfl, hz⟩
    exact ⟨1, rfl, Or.inr ⟨by decide, rfl, bnext hb hz⟩⟩
  · rintro e v ⟨x, rfl, ⟨_, h0, _⟩ | ⟨_, rfl, hb⟩⟩
    · rw [List.length_cons] at h0; omega
    · exact ⟨rfl, hb⟩
theorem nMake8 (ck lg : Int) (w : World) (_ : I64 ck) (_ : I64 lg) : Calls Tryz.prog 19 #[.pointer none, confV ck lg] w fun e v => e = .returned (.int .i64 1) ∧ Below w.heap.size w v := by
  refine make_wrap none ck lg w _ (fun e v h => ⟨_, h.1⟩) ?_
  intro z B1 B2 B3 B4 B5 c T hz h1 h2 h3
  have hb := one_below z (.cells #[.func (.func 42) #[areaV none ck lg] #[], .func (.func 43) #[areaV none ck lg] #[], .func (.func 76) #[] #[.pointer (some ⟨B1, 0, none⟩), .pointer (some ⟨B2, 0, none⟩)], .func (.func 79) #[] #[.pointer (some ⟨B3, 0, none⟩), .pointer (some ⟨B4, 0, none⟩), .pointer (some ⟨B5, 0, none⟩)]] T)
  have hr := heap_alloc_last z (.cells #[.func (.func 42) #[areaV none ck lg] #[], .func (.func 43) #[areaV none ck lg] #[], .func (.func 76) #[] #[.pointer (some ⟨B1, 0, none⟩), .pointer (some ⟨B2, 0, none⟩)], .func (.func 79) #[] #[.pointer (some ⟨B3, 0, none⟩), .pointer (some ⟨B4, 0, none⟩), .pointer (some ⟨B5, 0, none⟩)]] T)
  refine (nsteps z.heap.size c ck lg [.func (.func 43) #[areaV none ck lg] #[], .func (.func 76) #[] #[.pointer (some ⟨B1, 0, none⟩), .pointer (some ⟨B2, 0, none⟩)], .func (.func 79) #[] #[.pointer (some ⟨B3, 0, none⟩), .pointer (some ⟨B4, 0, none⟩), .pointer (some ⟨B5, 0, none⟩)]] _ (show (4 : Nat) ≤ 5000 by decide) ?_ ?_).mono ?_
  · intro k hk
    match k, hk with
    | 0, _ => exact (cell_of_row _ _ 0 _ _ _ hr).trans rfl
    | 1, _ => exact (cell_of_row _ _ 1 _ _ _ hr).trans rfl
    | 2, _ => exact (cell_of_row _ _ 2 _ _ _ hr).trans rfl
    | 3, _ => exact (cell_of_row _ _ 3 _ _ _ hr).trans rfl
  · intro k hk
    match k, hk with
    | 0, _ => exact Or.inl ⟨_, rfl⟩
    | 1, _ => exact Or.inr (Or.inl ⟨_, rfl⟩)
    | 2, _ => exact Or.inr (Or.inr (Or.inl ⟨_, _, rfl⟩))
    | 3, _ => exact Or.inr (Or.inr (Or.inr (Or.inl ⟨_, _, _, rfl⟩)))
  · rintro e v ⟨rfl, hv⟩
    exact ⟨⟨rfl, bnext (bnext hz.below hb) hv⟩, (hz.a.below hb).below hv⟩
theorem nOpen8 (ck lg : Int) (w : World) (_ : I64 ck) (_ : I64 lg) : Calls Tryz.prog 20 #[.pointer none, confV ck lg] w fun e v => e = .returned (.tuple #[.pointer none, .agg #[.int .u64 0, .string ⟨#[]⟩, .slice none 0 0], .int .i64 1]) ∧ Below w.heap.size w v := by
  obtain ⟨hin, hbw, hsz⟩ := OW_in w none ck lg
  have hb1 := one_below (OW w none ck lg) (.cells (oFns w none ck lg) 106)
  have hb0 := bnext hbw hb1
  have hrow : ((OW w none ck lg).alloc (.cells (oFns w none ck lg) 106)).heap[w.heap.size + 1 + 1 + 1 + 1 + 1 + 1]? = some (.cells (oFns w none ck lg) 106 (0, 0)) := by rw [← hsz]; exact heap_alloc_last _ _
  refine (open_no none ck lg w 1 (fun v => Below w.heap.size w v) (by decide) ?_).mono ?_
  · refine (nsteps (w.heap.size + 1 + 1 + 1 + 1 + 1 + 1) 3 ck lg [.func (.func 46) #[] #[.pointer (some ⟨w.heap.size, 0, none⟩), .pointer (some ⟨w.heap.size + 1 + 1 + 1 + 1, 0, none⟩), .pointer (some ⟨w.heap.size + 1 + 1 + 1 + 1 + 1, 0, none⟩)], .func (.func 49) #[] #[.pointer (some ⟨w.heap.size + 1 + 1 + 1 + 1, 0, none⟩), .pointer (some ⟨w.heap.size + 1 + 1 + 1 + 1 + 1, 0, none⟩)]] _ (show (3 : Nat) ≤ 5000 by decide) ?_ ?_).mono ?_
    · intro k hk
      match k, hk with
      | 0, _ => exact (cell_of_row _ _ 0 _ _ _ hrow).trans rfl
      | 1, _ => exact (cell_of_row _ _ 1 _ _ _ hrow).trans rfl
      | 2, _ => exact (cell_of_row _ _ 2 _ _ _ hrow).trans rfl
    · intro k hk
      match k, hk with
      | 0, _ => exact Or.inl ⟨_, rfl⟩
      | 1, _ => exact Or.inr (Or.inr (Or.inr (Or.inr (Or.inl ⟨_, _, _, rfl⟩))))
      | 2, _ => exact Or.inr (Or.inr (Or.inr (Or.inr (Or.inr (Or.inl ⟨_, _, rfl⟩)))))
    · rintro e v ⟨rfl, hv⟩
      exact ⟨rfl, ((hin.below hb1).below hv).res, bnext hb0 hv⟩
  · rintro e v ⟨z, hz, rfl, rfl⟩
    exact ⟨rfl, ((hz.setCell (p := ⟨w.heap.size + 1 + 1, 0, none⟩) (by show w.heap.size ≤ w.heap.size + 1 + 1; omega) _).setCell (p := ⟨w.heap.size + 1 + 1, 1, none⟩) (by show w.heap.size ≤ w.heap.size + 1 + 1; omega) _).setCell (p := ⟨w.heap.size + 1 + 1, 2, none⟩) (by show w.heap.size ≤ w.heap.size + 1 + 1; omega) _⟩
set_option maxHeartbeats 400000 in
theorem nRoom8 (w : World) : Calls Tryz.prog 18 #[.pointer none] w fun e v => e = .returned (.int .i64 0) ∧ Below w.heap.size w v := by
  have HF := hide (sfault_nil w)
  go_enter Tryz.func18, Tryz.ntmps18
  go_wp2_with fail
  refine HF.out.mono ?_
  rintro e w1 ⟨rfl, rfl⟩
  go_wp2
  go_ret
  exact ⟨rfl, Below.refl _ _⟩
/-- The program's stores are what the laws ask. -/
theorem con8 : SCon PSt where
  lt := fun {u p q ck lg s st A} h k hk => by
    obtain ⟨l, b, G, h, rfl⟩ := h
    rcases hk with hk | hk | hk
    · exact con.lt h.d k hk
    · rw [hk]; exact h.log.lt
    · rw [hk]; exact h.c.lt
  same := fun {u v p q ck lg s st A} h hs => by
    obtain ⟨l, b, G, h, rfl⟩ := h
    exact ⟨l, b, G, h.same hs, rfl⟩
  disk := fun {u p q ck lg s st A} h => by
    obtain ⟨l, b, G, h, rfl⟩ := h
    exact ⟨G, h.d, fun k hk => Or.inl hk, fun v st2 G2 hd hl => ⟨_, ⟨l, b, G2, h.disk hd hl, rfl⟩, hl.pair⟩⟩
  blocks := fun ck lg u _ _ => blocks8_any ck lg u
  make := fun q st F ck lg u hD hok hl h4 h1 h2 => pMake8 q st F ck lg u hD hok hl h4 h1 h2
  opens := fun q st F ck lg u hD hok hl h4 h1 h2 => pOpen8 q st F ck lg u hD hok hl h4 h1 h2
  append := fun p q ck lg s t st A u h hok hl hc hn ht => pAppend8 p q ck lg s t st A u h hok hl hc hn ht hok
  sync := fun p q ck lg s st A u h hok hl => pSync8 p q ck lg s st A u h hok hl
  trim := fun p q ck lg s t st A u h hok hl hc hn ht _ => pTrim8 p q ck lg s t st A u h hok hl hc hn ht
  gen := fun p q ck lg s st A u h => by
    obtain ⟨l, b, G, h, rfl⟩ := h
    refine (gen_any p l q ck lg s.gen s.broken u h.c).mono ?_
    rintro e v ⟨rfl, rfl⟩
    exact ⟨rfl, Below.refl _ _⟩
  room := fun p q ck lg s st A u h => by
    obtain ⟨l, b, G, h, rfl⟩ := h
    refine sroom_any p l q ck lg s.gen s.broken u _ h.c (sfault_any p l q ck lg s.gen s.broken u h.c) (fun v hv => ?_)
    refine (room_any l q (lo ck lg s.gen) lg s.str b v (h.log.same (hv.block l h.log.lt)) (by have := h.conf; omega) h.sz).mono ?_
    rintro e z ⟨rfl, n, rfl⟩
    exact ⟨rfl, below_drewN (Below.refl _ _) n⟩
  nmake := nMake8
  nopen := nOpen8
  nappend := fun t u => by
    refine append_wrap none t u _ (fun e v h => ⟨_, h.1⟩) ((guarded_nil _ _ (sfault_nil _)).mono ?_)
    rintro e v ⟨rfl, rfl⟩
    exact ⟨rfl, grow2 u _ _⟩
  nsync := fun u => by
    refine sync_wrap none u _ (fun e v h => ⟨_, h.1⟩) ((guarded_nil _ _ (sfault_nil _)).mono ?_)
    rintro e v ⟨rfl, rfl⟩
    exact ⟨rfl, one_below u _⟩
  ntrim := fun t u => by
    refine trim_wrap none t u _ (fun e v h => ⟨_, h.1⟩) ((guarded_nil _ _ (sfault_nil _)).mono ?_)
    rintro e v ⟨rfl, rfl⟩
    exact ⟨rfl, grow2 u _ _⟩
  ngen := fun u => by
    refine (gen_nil8 u).mono ?_
    rintro e v ⟨rfl, rfl⟩
    exact ⟨rfl, Below.refl _ _⟩
  nroom := nRoom8
end Go.Proofs.YtchhojkhfdkhfaaGreatDoor
namespace Go.Proofs.YtchhojkhfdkhfaaGreatDoor
open Go Go.RowKit Frm Go.Shelf
theorem wpList_append_ints {ops : Array Oper} {rest : List Oper} {o : Oper} {a : Act} {Q : Exit → Act → World → Prop} (w : World) (hgd : o.guard = none) (s x : Operand)
    (ho : o.op = .call { callee := .builtin .append, args := #[s, x], argTypes := #[41, 41] })
    (base : Nat) (v : Value) (hs : a.eval s = v) (hown : w.ownsRow base 3 1 v 0 [])
    (ao : Option Addr) (c : Nat) (L : List Int) (hx : a.eval x = .slice ao L.length c) (hI : IntsAt w ao L) (hn : ao = none → c = 0) (hl : L.length ≤ 10000) (hb : base ≤ w.heap.size)
    (h : ∀ v' w', w'.ownsRow base 3 1 v' L.length (L.map (Value.int .i64)) → w.grownBy w' v.ownBlock → wpList Tryz.prog ops Q rest (a.put o.dst v') w') : wpList Tryz.prog ops Q (o :: rest) a w := by
  obtain ⟨i0, hi, hz0, hz1, hz2⟩ := info_parts info3
  by_cases h0 : L = []
  · subst h0
    cases ao with
    | none =>
      have hc := hn rfl
      subst hc
      exact wpList_append_own_none hgd s x 41 ho base 3 i0 1 Tryz.underlying41 hi v 0 [] hs hown hx (h v w hown (World.grownBy.refl _ _))
    | some ad =>
      refine wpList_append_own w hgd s x 41 ho base 3 i0 (.int .i64 0) 1 8 Tryz.underlying41 hi hz0 hz1 hz2 rfl (by decide) v 0 [] hs hown ad 0 c [] hx rfl (fun j v hj => by cases hj) (fun v hv => by cases hv) (by decide) (by decide) hb ?_
      intro v' w' h1 h2 _
      exact h v' w' h1 h2
  · rcases hI with h1 | ⟨b, off, rfl, hc⟩
    · exact absurd h1 h0
    · refine wpList_append_own w hgd s x 41 ho base 3 i0 (.int .i64 0) 1 8 Tryz.underlying41 hi hz0 hz1 hz2 rfl (by decide) v 0 [] hs hown ⟨b, off, none⟩ L.length c (L.map (Value.int .i64)) hx (by simp) (news_ints hc) (one_ints _) (by unfold maxLen; omega) (by omega) hb ?_
      intro v' w' h1 h2 _
      rw [Nat.zero_add] at h1
      exact h v' w' h1 h2
theorem news_strs {w : World} {b off : Nat} {l : List ByteArray} (h : ∀ j (hj : j < l.length), w.cell? ⟨b, off + j, none⟩ = some (.string l[j])) : ∀ (j : Nat) (u : Value), (l.map Value.string)[j]? = some u → w.cell? ((⟨b, off, none⟩ : Addr).add j) = some u := fun j u hj => by
  have hj' : j < l.length := by
    have := (List.getElem?_eq_some_iff.1 hj).1
    simpa using this
  have hadd : (⟨b, off, none⟩ : Addr).add j = ⟨b, off + j, none⟩ := by unfold Addr.add; split <;> simp_all
  rw [hadd, h j hj']
  simpa [hj'] using hj
theorem one_strs (l : List ByteArray) : ∀ u ∈ l.map Value.string, u.oneCell' = true := fun u hu => by
  obtain ⟨x, _, rfl⟩ := List.mem_map.1 hu
  rfl
theorem infoS : (Tryz.prog.info? 9).map (fun i => (i.zero, i.size, i.bytes)) = some (some (.string ⟨#[]⟩), 1, 16) := by kernel_rfl
/-- A row of one's own: no more than its room; where it lies nowhere it has none. -/
theorem own_cap {u : World} {b n c : Nat} {a : Option Addr} {l : List ByteArray} (h : OwnL u b (.slice a n c) l) : n ≤ c ∧ (a = none → c = 0) := by
  rcases h.2 with ⟨e, hz⟩ | ⟨g, cap, cur, e, _, _, h2, _⟩
  · cases e
    exact ⟨Nat.le_refl _, fun _ => rfl⟩
  · cases e
    exact ⟨h2, fun e => by cases e⟩
theorem strs_take {u : World} {a : Option Addr} {l : List ByteArray} (h : StrsAt u a l) (r : Nat) : StrsAt u a (l.take r) := by
  rcases h with rfl | ⟨b, off, rfl, hc⟩
  · rw [List.take_nil]; exact Or.inl rfl
  · refine Or.inr ⟨b, off, rfl, fun j hj => ?_⟩
    rw [List.getElem_take]
    exact hc j (by rw [List.length_take] at hj; omega)

end Go.Proofs.YtchhojkhfdkhfaaGreatDoor
namespace Go.Proofs.YtchhojkhfdkhfaaGreatDoor
open Go Go.RowKit Frm Go.Shelf
/-- The law's own boxes, its store, its list, since w. -/
structure KM (w : World) (Bc Bp Bn q p : Nat) (s : Sto) (st : St) (A : Nat → Prop) (g : Nat) (t : ByteArray) (L : List ByteArray) (vA : Value) (sr : Nat) (qg : Nat) (qt : ByteArray) (u : World) : Prop where
  below : Below w.heap.size w u
  conf : u.heap[Bc]? = some (.cells #[.int .i64 4, .int .i64 6] 23 (0, 0))
  prow : u.heap[Bp]? = some (.cells #[.int .u64 (g : Int), .string t, vA, .int .i64 (sr : Int)] 65 (0, 0))
  nrow : u.heap[Bn]? = some (.cells #[.int .u64 (qg : Int), .string qt, .slice none 0 0, .int .i64 0] 65 (0, 0))
  sto : PSt u p q 4 6 s st A
  new : ∀ j, A j → w.heap.size ≤ j
  low : w.heap.size ≤ Bc ∧ w.heap.size ≤ Bp ∧ w.heap.size ≤ Bn
  apart : ¬ A Bc ∧ ¬ A Bp ∧ ¬ A Bn
  dist : Bc ≠ Bp ∧ Bc ≠ Bn ∧ Bp ≠ Bn
  own : OwnL u w.heap.size vA L
  oA : ∀ j, OB vA j → ¬ A j ∧ j ≠ Bc ∧ j ≠ Bp ∧ j ≠ Bn
section
variable {w : World} {Bc Bp Bn q p : Nat} {s s2 : Sto} {st st2 : St} {A A2 : Nat → Prop} {g : Nat} {t : ByteArray} {L : List ByteArray} {vA : Value} {sr qg : Nat} {qt : ByteArray} {u v : World}
theorem KM.lt (h : KM w Bc Bp Bn q p s st A g t L vA sr qg qt u) : Bc < u.heap.size ∧ Bp < u.heap.size ∧ Bn < u.heap.size := ⟨(Array.getElem?_eq_some_iff.1 h.conf).1, (Array.getElem?_eq_some_iff.1 h.prow).1, (Array.getElem?_eq_some_iff.1 h.nrow).1⟩
theorem KM.keep (h : KM w Bc Bp Bn q p s st A g t L vA sr qg qt u) (hb : Below u.heap.size u v) : KM w Bc Bp Bn q p s st A g t L vA sr qg qt v :=
  ⟨bnext h.below hb, (hb.block _ h.lt.1).trans h.conf, (hb.block _ h.lt.2.1).trans h.prow, (hb.block _ h.lt.2.2).trans h.nrow, con8.below h.sto hb, h.new, h.low, h.apart, h.dist, h.own.below hb, h.oA⟩
theorem KM.drew (h : KM w Bc Bp Bn q p s st A g t L vA sr qg qt u) (n : Nat) : KM w Bc Bp Bn q p s st A g t L vA sr qg qt (u.drewN n) := h.keep (below_drewN (Below.refl _ _) n)
/-- A call of the store. -/
theorem KM.step (h : KM w Bc Bp Bn q p s st A g t L vA sr qg qt u) (hs : PSt v p q 4 6 s2 st2 A2) (hl : Loc A A2 u v) : KM w Bc Bp Bn q p s2 st2 A2 g t L vA sr qg qt v := by
  have old : ∀ j, j < u.heap.size → ¬ A j → ¬ A2 j := fun j hj hn hf => by
    rcases hl.own j hf with h1 | h1
    · exact hn h1
    · omega
  refine ⟨h.below.trans (hl.below h.new h.below.size), (hl.block _ h.lt.1 h.apart.1).trans h.conf, (hl.block _ h.lt.2.1 h.apart.2.1).trans h.prow, (hl.block _ h.lt.2.2 h.apart.2.2).trans h.nrow, hs, hl.beyond h.new h.below.size, h.low, ⟨old _ h.lt.1 h.apart.1, old _ h.lt.2.1 h.apart.2.1, old _ h.lt.2.2 h.apart.2.2⟩, h.dist, ?_, fun j hj => ?_⟩
  · exact own_kept h.own (fun k hk => hl.block k (own_lt h.own hk) (h.oA k hk).1)
  · exact ⟨old j (own_lt h.own hj) (h.oA j hj).1, (h.oA j hj).2⟩
/-- The cells of the boxes. -/
theorem KM.pc (h : KM w Bc Bp Bn q p s st A g t L vA sr qg qt u) : (u.cell? ⟨Bp, 0, none⟩ = some (.int .u64 (g : Int)) ∧ u.cell? ⟨Bp, 1, none⟩ = some (.string t) ∧ u.cell? ⟨Bp, 2, none⟩ = some vA ∧ u.cell? ⟨Bp, 3, none⟩ = some (.int .i64 (sr : Int))) ∧ ∀ i, u.frozen? ⟨Bp, i, none⟩ = false := by
  have e := h.prow
  refine ⟨⟨?_, ?_, ?_, ?_⟩, fun i => by simp [World.frozen?, e]⟩ <;> simp [World.cell?, e]
theorem KM.nc (h : KM w Bc Bp Bn q p s st A g t L vA sr qg qt u) : (u.cell? ⟨Bn, 0, none⟩ = some (.int .u64 (qg : Int)) ∧ u.cell? ⟨Bn, 1, none⟩ = some (.string qt) ∧ u.cell? ⟨Bn, 2, none⟩ = some (.slice none 0 0) ∧ u.cell? ⟨Bn, 3, none⟩ = some (.int .i64 0)) ∧ ∀ i, u.frozen? ⟨Bn, i, none⟩ = false := by
  have e := h.nrow
  refine ⟨⟨?_, ?_, ?_, ?_⟩, fun i => by simp [World.frozen?, e]⟩ <;> simp [World.cell?, e]
theorem KM.cc (h : KM w Bc Bp Bn q p s st A g t L vA sr qg qt u) : u.cell? ⟨Bc, 0, none⟩ = some (.int .i64 4) ∧ u.cell? ⟨Bc, 1, none⟩ = some (.int .i64 6) := by
  have e := h.conf
  refine ⟨?_, ?_⟩ <;> simp [World.cell?, e]
theorem own_oth {B : Nat} {vA : Value} {L : List ByteArray} {u : World} {b : Nat} (h : OwnL u b vA L) (hn : ∀ j, OB vA j → j ≠ B) (i : Nat) (x : Value) : OwnL (u.setCell ⟨B, i, none⟩ x) b vA L :=
  own_kept h (fun k hk => Below.heap_setCell u ⟨B, i, none⟩ x k (fun e => hn k hk e))
/-- A cell of the law's own row is written. -/
theorem KM.setp (h : KM w Bc Bp Bn q p s st A g t L vA sr qg qt u) (i : Nat) (x : Value) {g' : Nat} {t' : ByteArray} {sr' : Nat} (hr : (#[.int .u64 (g : Int), .string t, vA, .int .i64 (sr : Int)] : Array Value).setIfInBounds i x = #[.int .u64 (g' : Int), .string t', vA, .int .i64 (sr' : Int)]) :
    KM w Bc Bp Bn q p s st A g' t' L vA sr' qg qt (u.setCell ⟨Bp, i, none⟩ x) := by
  have oth : ∀ k, k ≠ Bp → (u.setCell ⟨Bp, i, none⟩ x).heap[k]? = u.heap[k]? := fun k hk => Below.heap_setCell u ⟨Bp, i, none⟩ x k hk
  refine ⟨h.below.setCell (p := ⟨Bp, i, none⟩) h.low.2.1 x, (oth _ h.dist.1).trans h.conf, ?_, (oth _ h.dist.2.2.symm).trans h.nrow, con8.same h.sto (fun k hk => oth k (fun e => h.apart.2.1 (e ▸ hk))), h.new, h.low, h.apart, h.dist, own_oth h.own (fun j hj => (h.oA j hj).2.2.1) i x, h.oA⟩
  rw [← hr]
  exact heap_set3 (i := i) h.prow x
theorem KM.setn (h : KM w Bc Bp Bn q p s st A g t L vA sr qg qt u) (i : Nat) (x : Value) {qg' : Nat} {qt' : ByteArray} (hr : (#[.int .u64 (qg : Int), .string qt, .slice none 0 0, .int .i64 0] : Array Value).setIfInBounds i x = #[.int .u64 (qg' : Int), .string qt', .slice none 0 0, .int .i64 0]) :
    KM w Bc Bp Bn q p s st A g t L vA sr qg' qt' (u.setCell ⟨Bn, i, none⟩ x) := by
  have oth : ∀ k, k ≠ Bn → (u.setCell ⟨Bn, i, none⟩ x).heap[k]? = u.heap[k]? := fun k hk => Below.heap_setCell u ⟨Bn, i, none⟩ x k hk
  refine ⟨h.below.setCell (p := ⟨Bn, i, none⟩) h.low.2.2 x, (oth _ h.dist.2.1).trans h.conf, (oth _ h.dist.2.2).trans h.prow, ?_, con8.same h.sto (fun k hk => oth k (fun e => h.apart.2.2 (e ▸ hk))), h.new, h.low, h.apart, h.dist, own_oth h.own (fun j hj => (h.oA j hj).2.2.2) i x, h.oA⟩
  rw [← hr]
  exact heap_set3 (i := i) h.nrow x
/-- A new list is written into the row. -/
theorem KM.setl (h : KM w Bc Bp Bn q p s st A g t L vA sr qg qt u) {vB : Value} {L2 : List ByteArray} (ho : OwnL u w.heap.size vB L2) (hB : ∀ j, OB vB j → ¬ A j ∧ j ≠ Bc ∧ j ≠ Bp ∧ j ≠ Bn) : KM w Bc Bp Bn q p s st A g t L2 vB sr qg qt (u.setCell ⟨Bp, 2, none⟩ vB) := by
  have oth : ∀ k, k ≠ Bp → (u.setCell ⟨Bp, 2, none⟩ vB).heap[k]? = u.heap[k]? := fun k hk => Below.heap_setCell u ⟨Bp, 2, none⟩ vB k hk
  exact ⟨h.below.setCell (p := ⟨Bp, 2, none⟩) h.low.2.1 vB, (oth _ h.dist.1).trans h.conf, heap_set3 (i := 2) h.prow vB, (oth _ h.dist.2.2.symm).trans h.nrow, con8.same h.sto (fun k hk => oth k (fun e => h.apart.2.1 (e ▸ hk))), h.new, h.low, h.apart, h.dist, own_oth ho (fun j hj => (hB j hj).2.2.1) 2 vB, hB⟩
/-- One text more: what append leaves, ahead of its being written. -/
theorem KM.grown (h : KM w Bc Bp Bn q p s st A g t L vA sr qg qt u) {x : ByteArray} {gg cap : Nat} (hown : v.ownsRow w.heap.size 9 1 (.slice (some ⟨gg, 0, none⟩) (L.length + 1) cap) (L.length + 1) (L.map Value.string ++ [.string x])) (hg : (u.alloc (.cells #[.string x] 9)).grownBy v vA.ownBlock) (hat : vA.ownBlock = some gg ∨ gg = u.heap.size + 1) :
    (v.cell? ⟨Bp, 0, none⟩ = some (.int .u64 (g : Int)) ∧ v.cell? ⟨Bp, 1, none⟩ = some (.string t) ∧ v.cell? ⟨Bp, 2, none⟩ = some vA ∧ v.cell? ⟨Bp, 3, none⟩ = some (.int .i64 (sr : Int)) ∧ v.frozen? ⟨Bp, 2, none⟩ = false) ∧
      KM w Bc Bp Bn q p s st A g t (L ++ [x]) (.slice (some ⟨gg, 0, none⟩) (L.length + 1) cap) sr qg qt (v.setCell ⟨Bp, 2, none⟩ (.slice (some ⟨gg, 0, none⟩) (L.length + 1) cap)) := by
  have hk := h.keep (one_below u (.cells #[.string x] 9))
  have hlt := h.lt
  have hsz : (u.alloc (.cells #[.string x] 9)).heap.size = u.heap.size + 1 := by simp
  have oth : ∀ k, k < (u.alloc (.cells #[.string x] 9)).heap.size → ¬ OB vA k → v.heap[k]? = (u.alloc (.cells #[.string x] 9)).heap[k]? := fun k hk hn => hg.block k hk (fun e => hn e.symm)
  have hb : Below w.heap.size w v := hk.below.grown hg (by have := h.below.size; omega) (fun j e => own_ge h.own e)
  have nB : ∀ B, (B = Bc ∨ B = Bp ∨ B = Bn) → ¬ OB vA B := fun B hB e => by
    have := h.oA B e
    rcases hB with rfl | rfl | rfl
    · exact this.2.1 rfl
    · exact this.2.2.1 rfl
    · exact this.2.2.2 rfl
  have hAl : ∀ k, A k → k < u.heap.size := fun k => con8.lt h.sto k
  have hp : v.heap[Bp]? = _ := (oth Bp (by omega) (nB Bp (by simp))).trans hk.prow
  have hgg : ∀ j, OB (.slice (some ⟨gg, 0, none⟩) (L.length + 1) cap) j → ¬ A j ∧ j ≠ Bc ∧ j ≠ Bp ∧ j ≠ Bn := fun j hj => by
    have e : gg = j := by unfold OB at hj; simp [Value.ownBlock] at hj; exact hj
    subst e
    rcases hat with h1 | h1
    · exact h.oA gg h1
    · exact ⟨fun hf => by have := hAl _ hf; omega, by omega, by omega, by omega⟩
  refine ⟨⟨?_, ?_, ?_, ?_, ?_⟩, ?_⟩
  · simp [World.cell?, hp]
  · simp [World.cell?, hp]
  · simp [World.cell?, hp]
  · simp [World.cell?, hp]
  · simp [World.frozen?, hp]
  · refine ⟨hb.setCell (p := ⟨Bp, 2, none⟩) h.low.2.1 _, ?_, heap_set3 (i := 2) hp _, ?_, ?_, h.new, h.low, h.apart, h.dist, ?_, hgg⟩
    · exact (Below.heap_setCell v ⟨Bp, 2, none⟩ _ Bc h.dist.1).trans ((oth Bc (by omega) (nB Bc (by simp))).trans hk.conf)
    · exact (Below.heap_setCell v ⟨Bp, 2, none⟩ _ Bn h.dist.2.2.symm).trans ((oth Bn (by omega) (nB Bn (by simp))).trans hk.nrow)
    · exact con8.same hk.sto (fun k hA => (Below.heap_setCell v ⟨Bp, 2, none⟩ _ k (fun e => h.apart.2.1 (by rw [show k = Bp from e] at hA; exact hA))).trans (oth k (by have := hAl k hA; omega) (fun e => (h.oA k e).1 hA)))
    · have ho : OwnL v w.heap.size (.slice (some ⟨gg, 0, none⟩) (L.length + 1) cap) (L ++ [x]) := by
        rw [map_snoc] at hown
        unfold OwnL
        rw [List.length_append]
        exact hown
      exact own_oth ho (fun j hj => (hgg j hj).2.2.1) 2 _
end
end Go.Proofs.YtchhojkhfdkhfaaGreatDoor
namespace Go.Proofs.YtchhojkhfdkhfaaGreatDoor
open Go Go.RowKit Frm Go.Shelf
section
variable {w : World} {Bc Bp Bn q p : Nat} {s : Sto} {st : St} {A : Nat → Prop} {g : Nat} {t : ByteArray} {L : List ByteArray} {vA : Value} {sr qg : Nat} {qt : ByteArray} {u : World}
/-- A call of the store, told. -/
def KSays (w : World) (Bc Bp Bn q p : Nat) (g : Nat) (t : ByteArray) (L : List ByteArray) (vA : Value) (sr qg : Nat) (qt : ByteArray) (r : Nat × Sto × St) (e : Ending) (v : World) : Prop :=
  e = .returned (.int .i64 ((r.1 : Nat) : Int)) ∧ ∃ A2, KM w Bc Bp Bn q p r.2.1 r.2.2 A2 g t L vA sr qg qt v
theorem KM.appended (h : KM w Bc Bp Bn q p s st A g t L vA sr qg qt u) (hok : st.Ok) (hlen : st.sure.length = 20) (hl : st.loose.length ≤ 5000) (x : ByteArray) (hx : x.size ≤ 65536) :
    Calls Tryz.prog 22 #[.pointer (some ⟨p, 0, none⟩), .string x] u (KSays w Bc Bp Bn q p g t L vA sr qg qt (stoAppend st 4 6 s x)) := by
  refine (con8.append p q 4 6 s x st A u h.sto hok (by omega) (by rw [hlen]; exact conf46) (by decide) hx).mono ?_
  rintro e v ⟨rfl, A2, hs, hl⟩
  exact ⟨rfl, A2, h.step hs hl⟩
theorem KM.synced (h : KM w Bc Bp Bn q p s st A g t L vA sr qg qt u) (hok : st.Ok) (hl : st.loose.length ≤ 5000) :
    Calls Tryz.prog 23 #[.pointer (some ⟨p, 0, none⟩)] u (KSays w Bc Bp Bn q p g t L vA sr qg qt (stoSync st s)) := by
  refine (con8.sync p q 4 6 s st A u h.sto hok (by omega)).mono ?_
  rintro e v ⟨rfl, A2, hs, hl⟩
  exact ⟨rfl, A2, h.step hs hl⟩
theorem KM.trimmed (h : KM w Bc Bp Bn q p s st A g t L vA sr qg qt u) (hok : st.Ok) (hlen : st.sure.length = 20) (hl : st.loose.length ≤ 5000) (x : ByteArray) (hx : x.size ≤ 65536) :
    Calls Tryz.prog 24 #[.pointer (some ⟨p, 0, none⟩), .string x] u (KSays w Bc Bp Bn q p g t L vA sr qg qt (stoTrim st 4 6 s x)) := by
  refine (pTrim8 p q 4 6 s x st A u h.sto hok (by omega) (by rw [hlen]; exact conf46) (by decide) hx).mono ?_
  rintro e v ⟨rfl, A2, hs, hl⟩
  exact ⟨rfl, A2, h.step hs hl⟩
theorem KM.fused (h : KM w Bc Bp Bn q p s st A g t L vA sr qg qt u) (hok : st.Ok) (n : Int) (hn : -9223372036854775808 ≤ n ∧ n ≤ 9223372036854775807) :
    Calls Tryz.prog 25 #[.pointer (some ⟨q, 0, none⟩), .int .i64 n] u fun e v => e = .returned (.int .i64 0) ∧ ∃ A2, KM w Bc Bp Bn q p s (st.fuse n) A2 g t L vA sr qg qt v := by
  obtain ⟨G, hd, _, hon⟩ := con8.disk h.sto
  refine (con.fuse q st G n u hd hok hn).mono ?_
  rintro e v ⟨rfl, F', hd2, hl⟩
  obtain ⟨A2, hs, hl2⟩ := hon v _ F' hd2 hl
  exact ⟨rfl, A2, h.step hs hl2⟩
theorem KM.crashed (h : KM w Bc Bp Bn q p s st A g t L vA sr qg qt u) (hok : st.Ok) (hl : st.loose.length ≤ 5000) (a : Option Addr) (cc : Nat) (picks : List Int) (hP : IntsAt u a picks) (hap : ∀ b off, a = some ⟨b, off, none⟩ → ¬ A b) (hpl : picks.length ≤ 140737488351232) (hr : ∀ x ∈ picks, -9223372036854775808 ≤ x ∧ x ≤ 9223372036854775807) :
    Calls Tryz.prog 26 #[.pointer (some ⟨q, 0, none⟩), .slice a picks.length cc] u fun e v => e = .returned (.int .i64 0) ∧ ∃ A2, KM w Bc Bp Bn q p s (st.crash picks) A2 g t L vA sr qg qt v := by
  obtain ⟨G, hd, hG, hon⟩ := con8.disk h.sto
  refine (con.crash q st G a cc picks u hd hok (by omega) hP (fun _ b off e hf => hap b off e (hG b hf)) hpl hr).mono ?_
  rintro e v ⟨rfl, F', hd2, hl⟩
  obtain ⟨A2, hs, hl2⟩ := hon v _ F' hd2 hl
  exact ⟨rfl, A2, h.step hs hl2⟩
/-- The store, opened anew. -/
theorem KM.opened (h : KM w Bc Bp Bn q p s st A g t L vA sr qg qt u) (hok : st.Ok) (hlen : st.sure.length = 20) (hl : st.loose.length ≤ 5000) {g' : Nat} {t' str : ByteArray} {rs : List ByteArray} {st' : St} (ho : stoOpen st 4 6 = ((0, g', t', str, rs), st')) :
    Calls Tryz.prog 20 #[.pointer (some ⟨q, 0, none⟩), confV 4 6] u fun e v => ∃ pp a c A', e = .returned (.tuple #[.pointer (some ⟨pp, 0, none⟩), .agg #[.int .u64 (g' : Int), .string t', .slice a rs.length c], .int .i64 0]) ∧
      KM w Bc Bp Bn q pp ⟨g', str, false⟩ st' A' g t L vA sr qg qt v ∧ StrsAt v a rs ∧ (∀ b off, a = some ⟨b, off, none⟩ → u.heap.size ≤ b) ∧ (a = none → c = 0) := by
  obtain ⟨G, hd, hG, -⟩ := con8.disk h.sto
  have := pOpen9 q st G 4 6 u hd hok (by omega) (by omega) (by decide) (by decide)
  rw [ho] at this
  refine this.mono ?_
  rintro e v (⟨_, pp, a, c, A', rfl, hs, hl, hst, hn, hc⟩ | ⟨h0, _⟩)
  · have hs : PSt v pp q 4 6 ⟨g', str, false⟩ st' A' := hs
    have old : ∀ j, j < u.heap.size → ¬ A j → ¬ A' j := fun j hj hn hf => by
      rcases hl.own j hf with h1 | h1
      · exact hn (hG j h1)
      · omega
    have gs : ∀ k, k < u.heap.size → ¬ A k → v.heap[k]? = u.heap[k]? := fun k hk hn => hl.block k hk (fun hf => hn (hG k hf))
    refine ⟨pp, a, c, A', rfl, ⟨?_, (gs _ h.lt.1 h.apart.1).trans h.conf, (gs _ h.lt.2.1 h.apart.2.1).trans h.prow, (gs _ h.lt.2.2 h.apart.2.2).trans h.nrow, hs, fun j hj => ?_, h.low, ⟨old _ h.lt.1 h.apart.1, old _ h.lt.2.1 h.apart.2.1, old _ h.lt.2.2 h.apart.2.2⟩, h.dist, own_kept h.own (fun k hk => gs k (own_lt h.own hk) (h.oA k hk).1), fun j hj => ⟨old j (own_lt h.own hj) (h.oA j hj).1, (h.oA j hj).2⟩⟩, hst, hn, hc⟩
    · exact h.below.trans (hl.below (fun k hk => h.new k (hG k hk)) h.below.size)
    · rcases hl.own j hj with h1 | h1
      · exact h.new j (hG j h1)
      · have := h.below.size; omega
  · exact absurd rfl h0
/-- What a store's own block is, apart from the boxes: of a number that is new. -/
theorem KM.newer (h : KM w Bc Bp Bn q p s st A g t L vA sr qg qt u) {b : Nat} (hb : u.heap.size ≤ b) : ¬ A b ∧ b ≠ Bc ∧ b ≠ Bp ∧ b ≠ Bn := by
  have := h.lt
  exact ⟨fun hf => by have := con8.lt h.sto b hf; omega, by omega, by omega, by omega⟩
end
/-- What the law's second row says. -/
def qG : Option Past → Nat
  | none => 0
  | some x => x.gen
def qT : Option Past → ByteArray
  | none => noText
  | some x => x.text
/-- The law's state behind k steps. -/
def KR (w : World) (Bc Bp Bn q k p : Nat) (u : World) : Prop :=
  ∃ s st A P Q vA, KM w Bc Bp Bn q p s st A P.gen P.text P.all vA P.sure (qG Q) (qT Q) u ∧ Sit s st P Q ∧ (1 ≤ P.gen ∧ P.gen ≤ k + 1) ∧ P.all.length ≤ k ∧ st.loose.length ≤ 60 * (k + 1)
theorem KR.start {w W1 w1 w4 : World} {p0 q : Nat} {st2 : St} {A4 : Nat → Prop} {a4 : Option Addr} {c4 : Nat} (hb1 : Below w.heap.size w w1) (hW : W1 = w1.alloc (.cells #[.int .i64 4, .int .i64 6] 23)) (hS : Sl8 PSt W1 p0 q 4 6 ⟨1, cat [], false⟩ st2 A4 w4) (hsit : Sit ⟨1, cat [], false⟩ st2 ⟨1, noText, [], 0⟩ none) (hfew : st2.loose.length ≤ 60) :
    KR w w1.heap.size (w4.heap.size + 1) (w4.heap.size + 1 + 1) q 0 p0 (((w4.alloc (.cells #[.int .u64 1, .string ⟨#[]⟩, .slice a4 0 c4] 61)).alloc (.cells #[.int .u64 1, .string ⟨#[]⟩, .slice none 0 0, .int .i64 0] 65)).alloc (.cells #[.int .u64 0, .string ⟨#[]⟩, .slice none 0 0, .int .i64 0] 65)) := by
  have hs1 : W1.heap.size = w1.heap.size + 1 := by rw [hW]; simp
  have hc1 : W1.heap[w1.heap.size]? = some (.cells #[.int .i64 4, .int .i64 6] 23 (0, 0)) := by rw [hW]; exact heap_alloc_last w1 _
  have hb1' : Below w.heap.size w W1 := by rw [hW]; exact bnext hb1 (one_below w1 _)
  have hb4 := bnext hb1' hS.below
  have h3 := grow3 w4 (.cells #[.int .u64 1, .string ⟨#[]⟩, .slice a4 0 c4] 61) (.cells #[.int .u64 1, .string ⟨#[]⟩, .slice none 0 0, .int .i64 0] 65) (.cells #[.int .u64 0, .string ⟨#[]⟩, .slice none 0 0, .int .i64 0] 65)
  have hlt := con8.lt hS.sto
  have hsz := hS.below.size
  have hw := hb1.size
  have l1 := heap_alloc_last (w4.alloc (.cells #[.int .u64 1, .string ⟨#[]⟩, .slice a4 0 c4] 61)) (.cells #[.int .u64 1, .string ⟨#[]⟩, .slice none 0 0, .int .i64 0] 65)
  have l2 := heap_alloc_last ((w4.alloc (.cells #[.int .u64 1, .string ⟨#[]⟩, .slice a4 0 c4] 61)).alloc (.cells #[.int .u64 1, .string ⟨#[]⟩, .slice none 0 0, .int .i64 0] 65)) (.cells #[.int .u64 0, .string ⟨#[]⟩, .slice none 0 0, .int .i64 0] 65)
  rw [show (w4.alloc (.cells #[.int .u64 1, .string ⟨#[]⟩, .slice a4 0 c4] 61)).heap.size = w4.heap.size + 1 from by simp] at l1
  rw [show ((w4.alloc (.cells #[.int .u64 1, .string ⟨#[]⟩, .slice a4 0 c4] 61)).alloc (.cells #[.int .u64 1, .string ⟨#[]⟩, .slice none 0 0, .int .i64 0] 65)).heap.size = w4.heap.size + 1 + 1 from by simp] at l2
  have b2 := one_below ((w4.alloc (.cells #[.int .u64 1, .string ⟨#[]⟩, .slice a4 0 c4] 61)).alloc (.cells #[.int .u64 1, .string ⟨#[]⟩, .slice none 0 0, .int .i64 0] 65)) (.cells #[.int .u64 0, .string ⟨#[]⟩, .slice none 0 0, .int .i64 0] 65)
  refine ⟨⟨1, cat [], false⟩, st2, A4, ⟨1, noText, [], 0⟩, none, .slice none 0 0, ⟨bnext hb4 h3, ?_, ?_, l2, con8.below hS.sto h3, fun j hj => by have := hS.new j hj; omega, ⟨by omega, by omega, by omega⟩, ⟨fun hf => by have := hS.new _ hf; omega, fun hf => by have := hlt _ hf; omega, fun hf => by have := hlt _ hf; omega⟩, ⟨by omega, by omega, by omega⟩, World.ownsRow_nil _ _ _ _, fun j hj => absurd hj (OB_nil j)⟩, hsit, ⟨Nat.le_refl _, Nat.le_refl _⟩, Nat.le_refl _, hfew⟩
  · exact (h3.block _ (by omega)).trans ((hS.below.block _ (by omega)).trans hc1)
  · exact (b2.block _ (by simp)).trans l1
end Go.Proofs.YtchhojkhfdkhfaaGreatDoor
