/- The program's stores: Open's first step. The program's stores: Open's second step. The program's stores: Open's boxes. The program's stores: Open's steps. The program's stores: Open's walk. The program's stores: Open. The program's stores are what the laws ask. The law's own 'alive', over contracts of the program's stores. The law StoreNil. -/
import Derived.Test.YtchhojkhfdkhfaaGreatDoorK34
import Derived.Test.YtchhojkhfdkhfaaGreatDoorK33
import Derived.Test.YtchhojkhfdkhfaaGreatDoorK27
namespace Go.Proofs.YtchhojkhfdkhfaaGreatDoor
open Go Go.RowKit Frm
/-- Nothing but some blocks was turned. -/
theorem Loc.two {F F' : Nat → Prop} {w u v : World} {N : Nat → Prop} (hb : Below w.heap.size w u) (hN : ∀ k, N k → w.heap.size ≤ k) (hl : Loc (fun k => F k ∨ N k) (fun k => F' k ∨ N k) u v) : Loc F F' w v :=
  ⟨hl.os.trans hb.os, hl.tape.trans hb.tape, hl.output.trans hb.output, Nat.le_trans hb.size hl.size, fun k hk hf => (hl.block k (Nat.lt_of_lt_of_le hk hb.size) (fun hh => hh.elim hf (fun e => by have := hN k e; omega))).trans (hb.block k hk), fun k hk => by
    rcases hl.own k (Or.inl hk) with (h | h) | h
    · exact Or.inl h
    · exact Or.inr (hN k h)
    · have := hb.size; exact Or.inr (by omega)⟩
/-- What Open's first step reads. -/
structure OBx (pd : Option Addr) (p Bd Bs : Nat) (x2 : Value) (ck lg : Int) (u : World) : Prop where
  d : u.cell? ⟨Bd, 0, none⟩ = some (.pointer pd)
  s : u.cell? ⟨Bs, 0, none⟩ = some (.pointer (some ⟨p, 0, none⟩))
  c2 : u.cell? ⟨p, 2, none⟩ = some x2
  c3 : u.cell? ⟨p, 3, none⟩ = some (.int .i64 ck)
  c4 : u.cell? ⟨p, 4, none⟩ = some (.int .i64 lg)
theorem OBx.all {pd : Option Addr} {p Bd Bs : Nat} {x2 : Value} {ck lg : Int} {u : World} (h : OBx pd p Bd Bs x2 ck lg u) : u.cell? ⟨Bd, 0, none⟩ = some (.pointer pd) ∧ u.cell? ⟨Bs, 0, none⟩ = some (.pointer (some ⟨p, 0, none⟩)) ∧ u.cell? ⟨p, 2, none⟩ = some x2 ∧ u.cell? ⟨p, 3, none⟩ = some (.int .i64 ck) ∧ u.cell? ⟨p, 4, none⟩ = some (.int .i64 lg) := ⟨h.d, h.s, h.c2, h.c3, h.c4⟩
theorem OBx.same {pd : Option Addr} {p Bd Bs : Nat} {x2 : Value} {ck lg : Int} {u v : World} (h : OBx pd p Bd Bs x2 ck lg u) (h1 : v.heap[Bd]? = u.heap[Bd]?) (h2 : v.heap[Bs]? = u.heap[Bs]?) (h3 : v.heap[p]? = u.heap[p]?) : OBx pd p Bd Bs x2 ck lg v :=
  ⟨(cell_same8 h1 0).trans h.d, (cell_same8 h2 0).trans h.s, (cell_same8 h3 2).trans h.c2, (cell_same8 h3 3).trans h.c3, (cell_same8 h3 4).trans h.c4⟩
theorem OBx.lt {pd : Option Addr} {p Bd Bs : Nat} {x2 : Value} {ck lg : Int} {u : World} (h : OBx pd p Bd Bs x2 ck lg u) : Bd < u.heap.size ∧ Bs < u.heap.size ∧ p < u.heap.size := ⟨World.block_lt_of_cell? u _ h.d, World.block_lt_of_cell? u _ h.s, World.block_lt_of_cell? u _ h.c2⟩
theorem OBx.below {pd : Option Addr} {p Bd Bs : Nat} {x2 : Value} {ck lg : Int} {u v : World} (h : OBx pd p Bd Bs x2 ck lg u) (hb : Below u.heap.size u v) : OBx pd p Bd Bs x2 ck lg v := h.same (hb.block _ h.lt.1) (hb.block _ h.lt.2.1) (hb.block _ h.lt.2.2)
theorem OBx.set {pd : Option Addr} {p Bd Bs B : Nat} {x2 : Value} {ck lg : Int} {u : World} (h : OBx pd p Bd Bs x2 ck lg u) (hB : B ≠ Bd ∧ B ≠ Bs ∧ B ≠ p) (i : Nat) (a : Value) : OBx pd p Bd Bs x2 ck lg (u.setCell ⟨B, i, none⟩ a) :=
  h.same (Below.heap_setCell u ⟨B, i, none⟩ a Bd (fun e => hB.1 e.symm)) (Below.heap_setCell u ⟨B, i, none⟩ a Bs (fun e => hB.2.1 e.symm)) (Below.heap_setCell u ⟨B, i, none⟩ a p (fun e => hB.2.2 e.symm))
theorem row_cells3 {u : World} {B : Nat} {x y z : Value} {T : TypeId} (h : u.heap[B]? = some (.cells #[x, y, z] T (0, 0))) : (u.cell? ⟨B, 0, none⟩ = some x ∧ u.cell? ⟨B, 1, none⟩ = some y ∧ u.cell? ⟨B, 2, none⟩ = some z) ∧ ∀ i, u.frozen? ⟨B, i, none⟩ = false := by
  refine ⟨⟨?_, ?_, ?_⟩, fun i => ?_⟩ <;> simp [World.cell?, World.frozen?, h]
set_option maxRecDepth 10000 in
set_option maxHeartbeats 2000000 in
theorem open1_any (pd : Option Addr) (p Bd Bs Bk : Nat) (x2 : Value) (ck lg n : Int) (g : Nat) (t : ByteArray) (c : Int) (u : World) (y0 y1 y2 : Value) (hx : x2 = .pointer pd) (h : OBx pd p Bd Bs x2 ck lg u) (hk : u.heap[Bk]? = some (.cells #[y0, y1, y2] 61 (0, 0))) (hB : Bk ≠ Bd ∧ Bk ≠ Bs ∧ Bk ≠ p)
    (hK : ∀ v, Calls Tryz.prog 48 #[areaV pd ck lg] v fun e w' => e = .returned (.int .i64 n) ∧ Below v.heap.size v w')
    (hL : ∀ v, Below u.heap.size u v → Calls Tryz.prog 47 #[.pointer pd, .int .i64 0, .int .i64 n] v fun e w' => e = .returned (.tuple #[.int .u64 (g : Int), .string t, .int .i64 c]) ∧ Below v.heap.size v w') :
    Calls Tryz.prog 46 #[.pointer (some ⟨Bd, 0, none⟩), .pointer (some ⟨Bs, 0, none⟩), .pointer (some ⟨Bk, 0, none⟩)] u fun e v => e = .returned (.int .i64 c) ∧ ∃ z, Below u.heap.size u z ∧ v = (z.setCell ⟨Bk, 0, none⟩ (.int .u64 (g : Int))).setCell ⟨Bk, 1, none⟩ (.string t) := by
  subst hx
  have HL := hide hL
  have HK := hide hK
  have HB := hide hB
  have HC : Hid (∀ v, Below u.heap.size u v → OBx pd p Bd Bs (.pointer pd) ck lg v) := fun v hb => h.below hb
  have HN : Hid (∀ v, Below u.heap.size u v → v.heap[Bk]? = some (.cells #[y0, y1, y2] 61 (0, 0))) := fun v hb => (hb.block _ (Array.getElem?_eq_some_iff.1 hk).1).trans hk
  have K : Below u.heap.size u u.drew := (Below.refl _ u).drew
  unfold areaV at *
  clear h hk hL hK hB
  go_enter Tryz.func46, Tryz.ntmps46
  go_wp2_with fail
  go_region_held3 (fun z => z.cell? ⟨Bd, 0, none⟩ = some (.pointer pd) ∧ z.cell? ⟨Bs, 0, none⟩ = some (.pointer (some ⟨p, 0, none⟩)) ∧ z.cell? ⟨p, 2, none⟩ = some (.pointer pd) ∧ z.cell? ⟨p, 3, none⟩ = some (.int .i64 ck) ∧ z.cell? ⟨p, 4, none⟩ = some (.int .i64 lg))
    ((first | (with_reducible exact (HC.out _ K).all) | (with_reducible exact ((HC.out _ K).set HB.out _ _).all) | (with_reducible exact (((HC.out _ K).set HB.out _ _).set HB.out _ _).all)))
    (first
      | (go_at_call 48; refine (HK.out _).mono ?_; rintro e z0 ⟨rfl, hb0⟩; have K := bnext K hb0)
      | (go_at_call 47; refine (HL.out _ K).mono ?_; rintro e z0 ⟨rfl, hb0⟩; have K := bnext K hb0; obtain ⟨⟨r0, r1, -⟩, fr⟩ := row_cells3 (HN.out _ K); have f0 := fr 0; have f1 := fr 1; clear fr))
  all_goals
    have HZ := hide K
    clear K
    go_wp2
    go_ret
    exact ⟨rfl, _, HZ.out, rfl⟩
end Go.Proofs.YtchhojkhfdkhfaaGreatDoor
namespace Go.Proofs.YtchhojkhfdkhfaaGreatDoor
open Go Go.RowKit Frm
/-- What Open's second step reads. -/
structure OB2 (q p Bs Bk : Nat) (ck lg g : Int) (u : World) : Prop where
  s : u.cell? ⟨Bs, 0, none⟩ = some (.pointer (some ⟨p, 0, none⟩))
  c2 : u.cell? ⟨p, 2, none⟩ = some (.pointer (some ⟨q, 0, none⟩))
  c3 : u.cell? ⟨p, 3, none⟩ = some (.int .i64 ck)
  c4 : u.cell? ⟨p, 4, none⟩ = some (.int .i64 lg)
  g : u.cell? ⟨Bk, 0, none⟩ = some (.int .u64 g)
theorem OB2.all {q p Bs Bk : Nat} {ck lg g : Int} {u : World} (h : OB2 q p Bs Bk ck lg g u) : u.cell? ⟨Bs, 0, none⟩ = some (.pointer (some ⟨p, 0, none⟩)) ∧ u.cell? ⟨p, 2, none⟩ = some (.pointer (some ⟨q, 0, none⟩)) ∧ u.cell? ⟨p, 3, none⟩ = some (.int .i64 ck) ∧ u.cell? ⟨p, 4, none⟩ = some (.int .i64 lg) ∧ u.cell? ⟨Bk, 0, none⟩ = some (.int .u64 g) := ⟨h.s, h.c2, h.c3, h.c4, h.g⟩
theorem OB2.same {q p Bs Bk : Nat} {ck lg g : Int} {u v : World} (h : OB2 q p Bs Bk ck lg g u) (h1 : v.heap[Bs]? = u.heap[Bs]?) (h2 : v.heap[p]? = u.heap[p]?) (h3 : v.heap[Bk]? = u.heap[Bk]?) : OB2 q p Bs Bk ck lg g v :=
  ⟨(cell_same8 h1 0).trans h.s, (cell_same8 h2 2).trans h.c2, (cell_same8 h2 3).trans h.c3, (cell_same8 h2 4).trans h.c4, (cell_same8 h3 0).trans h.g⟩
theorem OB2.lt {q p Bs Bk : Nat} {ck lg g : Int} {u : World} (h : OB2 q p Bs Bk ck lg g u) : Bs < u.heap.size ∧ p < u.heap.size ∧ Bk < u.heap.size := ⟨World.block_lt_of_cell? u _ h.s, World.block_lt_of_cell? u _ h.c2, World.block_lt_of_cell? u _ h.g⟩
theorem OB2.below {q p Bs Bk : Nat} {ck lg g : Int} {u v : World} (h : OB2 q p Bs Bk ck lg g u) (hb : Below u.heap.size u v) : OB2 q p Bs Bk ck lg g v := h.same (hb.block _ h.lt.1) (hb.block _ h.lt.2.1) (hb.block _ h.lt.2.2)
theorem OB2.loc {q p Bs Bk : Nat} {ck lg g : Int} {F F' : Nat → Prop} {u v : World} (h : OB2 q p Bs Bk ck lg g u) (hl : Loc F F' u v) (hF : ¬ F Bs ∧ ¬ F p ∧ ¬ F Bk) : OB2 q p Bs Bk ck lg g v := h.same (hl.block _ h.lt.1 hF.1) (hl.block _ h.lt.2.1 hF.2.1) (hl.block _ h.lt.2.2 hF.2.2)
theorem cell_off (u : World) (B i j : Nat) (a : Value) (h : i ≠ j) : (u.setCell ⟨B, i, none⟩ a).cell? ⟨B, j, none⟩ = u.cell? ⟨B, j, none⟩ := World.cell?_setCell_other u ⟨B, i, none⟩ ⟨B, j, none⟩ a (fun e => h (congrArg Addr.off e))
theorem OB2.setp {q p Bs Bk : Nat} {ck lg g : Int} {u : World} (h : OB2 q p Bs Bk ck lg g u) (hp : p ≠ Bs ∧ p ≠ Bk) (i : Nat) (hi : i < 2) (a : Value) : OB2 q p Bs Bk ck lg g (u.setCell ⟨p, i, none⟩ a) :=
  ⟨(cell_same8 (Below.heap_setCell u ⟨p, i, none⟩ a Bs (fun e => hp.1 e.symm)) 0).trans h.s, (cell_off u p i 2 a (by omega)).trans h.c2, (cell_off u p i 3 a (by omega)).trans h.c3, (cell_off u p i 4 a (by omega)).trans h.c4, (cell_same8 (Below.heap_setCell u ⟨p, i, none⟩ a Bk (fun e => hp.2 e.symm)) 0).trans h.g⟩
theorem OB2.setk {q p Bs Bk : Nat} {ck lg g : Int} {u : World} (h : OB2 q p Bs Bk ck lg g u) (hp : Bk ≠ Bs ∧ p ≠ Bk) (i : Nat) (hi : 0 < i) (a : Value) : OB2 q p Bs Bk ck lg g (u.setCell ⟨Bk, i, none⟩ a) :=
  ⟨(cell_same8 (Below.heap_setCell u ⟨Bk, i, none⟩ a Bs (fun e => hp.1 e.symm)) 0).trans h.s, (cell_same8 (Below.heap_setCell u ⟨Bk, i, none⟩ a p hp.2) 2).trans h.c2, (cell_same8 (Below.heap_setCell u ⟨Bk, i, none⟩ a p hp.2) 3).trans h.c3, (cell_same8 (Below.heap_setCell u ⟨Bk, i, none⟩ a p hp.2) 4).trans h.c4, (cell_off u Bk i 0 a (by omega)).trans h.g⟩
/-- All that the step may write. -/
theorem OB2.sets {q p Bs Bk : Nat} {ck lg g : Int} {u : World} (h : OB2 q p Bs Bk ck lg g u) (h1 : p ≠ Bs) (h2 : p ≠ Bk) (h3 : Bk ≠ Bs) :
    (∀ a b, OB2 q p Bs Bk ck lg g ((u.setCell ⟨p, 0, none⟩ a).setCell ⟨p, 1, none⟩ b)) ∧ (∀ c, OB2 q p Bs Bk ck lg g (u.setCell ⟨Bk, 2, none⟩ c)) ∧
    (∀ a b c, OB2 q p Bs Bk ck lg g (((u.setCell ⟨p, 0, none⟩ a).setCell ⟨p, 1, none⟩ b).setCell ⟨Bk, 2, none⟩ c)) ∧ (∀ a b c, OB2 q p Bs Bk ck lg g (((u.setCell ⟨Bk, 2, none⟩ c).setCell ⟨p, 0, none⟩ a).setCell ⟨p, 1, none⟩ b)) :=
  ⟨fun a b => (h.setp ⟨h1, h2⟩ 0 (by omega) a).setp ⟨h1, h2⟩ 1 (by omega) b, fun c => h.setk ⟨h3, h2⟩ 2 (by omega) c, fun a b c => ((h.setp ⟨h1, h2⟩ 0 (by omega) a).setp ⟨h1, h2⟩ 1 (by omega) b).setk ⟨h3, h2⟩ 2 (by omega) c, fun a b c => ((h.setk ⟨h3, h2⟩ 2 (by omega) c).setp ⟨h1, h2⟩ 0 (by omega) a).setp ⟨h1, h2⟩ 1 (by omega) b⟩
theorem row_cells6 {u : World} {B : Nat} {x y a b c d : Value} {T : TypeId} (h : u.heap[B]? = some (.cells #[x, y, a, b, c, d] T (0, 0))) : (u.cell? ⟨B, 0, none⟩ = some x ∧ u.cell? ⟨B, 1, none⟩ = some y) ∧ ∀ i, u.frozen? ⟨B, i, none⟩ = false := by
  refine ⟨⟨?_, ?_⟩, fun i => ?_⟩ <;> simp [World.cell?, World.frozen?, h]
set_option maxRecDepth 10000 in
set_option maxHeartbeats 4000000 in
theorem open2_ok (p q o Bs Bk : Nat) (ck lg : Int) (G N : Nat) (s : ByteArray) (recs : List ByteArray) (st' : St) (F : Nat → Prop) (u : World) (x0 x1 x2 x3 x4 x5 y0 y1 y2 : Value) (h : OB2 q p Bs Bk ck lg (G : Int) u)
    (hpr : u.heap[p]? = some (.cells #[x0, x1, x2, x3, x4, x5] 104 (0, 0))) (hkr : u.heap[Bk]? = some (.cells #[y0, y1, y2] 61 (0, 0))) (hF : ¬ F Bs ∧ ¬ F p ∧ ¬ F Bk) (h1 : p ≠ Bs) (h2 : p ≠ Bk) (h3 : Bk ≠ Bs)
    (hA : ∀ v, Below u.heap.size u v → Calls Tryz.prog 50 #[areaV (some ⟨q, 0, none⟩) ck lg, .int .u64 (G : Int)] v (AHas q o N G s recs st' F v)) :
    Calls Tryz.prog 49 #[.pointer (some ⟨Bs, 0, none⟩), .pointer (some ⟨Bk, 0, none⟩)] u fun e v => e = .returned (.int .i64 0) ∧ ∃ pl vR F' z, AHas1 q o N s recs st' F u pl vR F' z ∧ v = ((z.setCell ⟨p, 0, none⟩ (.iface 143 (.pointer (some ⟨pl, 0, none⟩)))).setCell ⟨p, 1, none⟩ (.int .u64 (G : Int))).setCell ⟨Bk, 2, none⟩ vR := by
  have HA := hide hA
  have HF := hide hF
  have HC : Hid (∀ v, Below u.heap.size u v → OB2 q p Bs Bk ck lg (G : Int) v) := fun v hb => h.below hb
  have HN : Hid (∀ v, Below u.heap.size u v → v.heap[p]? = some (.cells #[x0, x1, x2, x3, x4, x5] 104 (0, 0)) ∧ v.heap[Bk]? = some (.cells #[y0, y1, y2] 61 (0, 0))) := fun v hb => ⟨(hb.block _ (Array.getElem?_eq_some_iff.1 hpr).1).trans hpr, (hb.block _ (Array.getElem?_eq_some_iff.1 hkr).1).trans hkr⟩
  have HD := hide (And.intro h1 (And.intro h2 h3))
  have K : Below u.heap.size u u.drew := (Below.refl _ u).drew
  unfold areaV at *
  clear h hpr hkr hF hA h1 h2 h3
  go_enter Tryz.func49, Tryz.ntmps49
  go_wp2_with fail
  go_region_held3 (fun z => z.cell? ⟨Bs, 0, none⟩ = some (.pointer (some ⟨p, 0, none⟩)) ∧ z.cell? ⟨p, 2, none⟩ = some (.pointer (some ⟨q, 0, none⟩)) ∧ z.cell? ⟨p, 3, none⟩ = some (.int .i64 ck) ∧ z.cell? ⟨p, 4, none⟩ = some (.int .i64 lg) ∧ z.cell? ⟨Bk, 0, none⟩ = some (.int .u64 (G : Int)))
    ((first | (with_reducible exact (HC.out _ K).all) | (with_reducible exact K.1.all) | (with_reducible exact (K.2.1.1 _ _).all) | (with_reducible exact (K.2.1.2.1 _).all) | (with_reducible exact (K.2.1.2.2.1 _ _ _).all) | (with_reducible exact (K.2.1.2.2.2 _ _ _).all)))
    (first
      | (go_at_call 50; refine (HA.out _ K).mono ?_; rintro e z0 ⟨pl, vR, F', rfl, hz⟩; obtain ⟨aR, cR, rfl, -, -⟩ := own_form hz.2.2.1; have hlz : Loc F F' _ z0 := hz.2.2.2.2.1; have hr := HN.out _ K; have hrp := (hlz.block p (Array.getElem?_eq_some_iff.1 hr.1).1 HF.out.2.1).trans hr.1; have hrk := (hlz.block Bk (Array.getElem?_eq_some_iff.1 hr.2).1 HF.out.2.2).trans hr.2; obtain ⟨⟨r0, r1⟩, fr⟩ := row_cells6 hrp; have f0 := fr 0; have f1 := fr 1; obtain ⟨⟨-, -, r2⟩, fk⟩ := row_cells3 hrk; have f2 := fk 2; have hgb := (HC.out _ K).loc hlz HF.out; have hst := hgb.sets HD.out.1 HD.out.2.1 HD.out.2.2; have K := And.intro hgb (And.intro hst (AHas1.back K hz)); clear hz hlz hrp hrk hgb hst fr fk hr))
  all_goals
    have HZ := hide K.2.2
    clear K r0 r1 f0 f1 r2 f2
    go_wp2
    go_ret
    exact ⟨rfl, pl, _, F', _, HZ.out, rfl⟩
set_option maxRecDepth 10000 in
set_option maxHeartbeats 4000000 in
theorem open2_no (p q Bs Bk : Nat) (ck lg : Int) (G : Nat) (x : Int) (st' : St) (F : Nat → Prop) (u : World) (x0 x1 x2 x3 x4 x5 y0 y1 y2 : Value) (h : OB2 q p Bs Bk ck lg (G : Int) u)
    (hpr : u.heap[p]? = some (.cells #[x0, x1, x2, x3, x4, x5] 104 (0, 0))) (hkr : u.heap[Bk]? = some (.cells #[y0, y1, y2] 61 (0, 0))) (hF : ¬ F Bs ∧ ¬ F p ∧ ¬ F Bk) (h1 : p ≠ Bs) (h2 : p ≠ Bk) (h3 : Bk ≠ Bs)
    (hA : ∀ v, Below u.heap.size u v → Calls Tryz.prog 50 #[areaV (some ⟨q, 0, none⟩) ck lg, .int .u64 (G : Int)] v (ANo q st' F v x)) :
    Calls Tryz.prog 49 #[.pointer (some ⟨Bs, 0, none⟩), .pointer (some ⟨Bk, 0, none⟩)] u fun e v => e = .returned (.int .i64 x) ∧ ∃ F' z, (DAt z q st' F' ∧ Loc F F' u z) ∧ v = ((z.setCell ⟨p, 0, none⟩ .nilIface).setCell ⟨p, 1, none⟩ (.int .u64 0)).setCell ⟨Bk, 2, none⟩ (.slice none 0 0) := by
  have HA := hide hA
  have HF := hide hF
  have HC : Hid (∀ v, Below u.heap.size u v → OB2 q p Bs Bk ck lg (G : Int) v) := fun v hb => h.below hb
  have HN : Hid (∀ v, Below u.heap.size u v → v.heap[p]? = some (.cells #[x0, x1, x2, x3, x4, x5] 104 (0, 0)) ∧ v.heap[Bk]? = some (.cells #[y0, y1, y2] 61 (0, 0))) := fun v hb => ⟨(hb.block _ (Array.getElem?_eq_some_iff.1 hpr).1).trans hpr, (hb.block _ (Array.getElem?_eq_some_iff.1 hkr).1).trans hkr⟩
  have HD := hide (And.intro h1 (And.intro h2 h3))
  have K : Below u.heap.size u u.drew := (Below.refl _ u).drew
  unfold areaV at *
  clear h hpr hkr hF hA h1 h2 h3
  go_enter Tryz.func49, Tryz.ntmps49
  go_wp2_with fail
  go_region_held3 (fun z => z.cell? ⟨Bs, 0, none⟩ = some (.pointer (some ⟨p, 0, none⟩)) ∧ z.cell? ⟨p, 2, none⟩ = some (.pointer (some ⟨q, 0, none⟩)) ∧ z.cell? ⟨p, 3, none⟩ = some (.int .i64 ck) ∧ z.cell? ⟨p, 4, none⟩ = some (.int .i64 lg) ∧ z.cell? ⟨Bk, 0, none⟩ = some (.int .u64 (G : Int)))
    ((first | (with_reducible exact (HC.out _ K).all) | (with_reducible exact K.1.all) | (with_reducible exact (K.2.1.1 _ _).all) | (with_reducible exact (K.2.1.2.1 _).all) | (with_reducible exact (K.2.1.2.2.1 _ _ _).all) | (with_reducible exact (K.2.1.2.2.2 _ _ _).all)))
    (first
      | (go_at_call 50; refine (HA.out _ K).mono ?_; rintro e z0 ⟨rfl, F', hz⟩; have hlz : Loc F F' _ z0 := hz.2; have hr := HN.out _ K; have hrp := (hlz.block p (Array.getElem?_eq_some_iff.1 hr.1).1 HF.out.2.1).trans hr.1; have hrk := (hlz.block Bk (Array.getElem?_eq_some_iff.1 hr.2).1 HF.out.2.2).trans hr.2; obtain ⟨⟨r0, r1⟩, fr⟩ := row_cells6 hrp; have f0 := fr 0; have f1 := fr 1; obtain ⟨⟨-, -, r2⟩, fk⟩ := row_cells3 hrk; have f2 := fk 2; have hgb := (HC.out _ K).loc hlz HF.out; have hst := hgb.sets HD.out.1 HD.out.2.1 HD.out.2.2; have K := And.intro hgb (And.intro hst (And.intro hz.1 ((Loc.of_below F K).trans hz.2))); clear hz hlz hrp hrk hgb hst fr fk hr))
  all_goals
    have HZ := hide K.2.2
    clear K r0 r1 f0 f1 r2 f2
    go_wp2
    go_ret
    exact ⟨rfl, F', _, HZ.out, rfl⟩
end Go.Proofs.YtchhojkhfdkhfaaGreatDoor
namespace Go.Proofs.YtchhojkhfdkhfaaGreatDoor
open Go Go.RowKit Frm
theorem load_pos (st : St) (o n : Int) (h : (st.load o n).2 = 0) : 1 ≤ (st.load o n).1.1 := by
  unfold St.load at *
  split at h
  · exact absurd h (show ¬ (2 : Nat) = 0 by decide)
  · rename_i h1
    rw [if_neg h1]
    split at h
    · exact absurd h (show ¬ (50 : Nat) = 0 by decide)
    · rename_i h2
      rw [if_neg h2]
      simp only at h ⊢
      split at h
      · exact absurd h (show ¬ (5 : Nat) = 0 by decide)
      · rename_i h3
        rw [if_neg h3]
        split
        · rename_i h4; exact Nat.lt_of_le_of_lt (Nat.zero_le _) h4
        · rename_i h4
          show 1 ≤ (wholeT _ _).1
          omega
/-- The two boxes that Open's steps write. -/
def ON (p Bk : Nat) (k : Nat) : Prop := k = p ∨ k = Bk
/-- Open's boxes, since u0: the disk is st. -/
structure Bo (q p Bk : Nat) (F : Nat → Prop) (u0 : World) (st : St) (F' : Nat → Prop) (v : World) : Prop where
  d : DAt v q st F'
  l : Loc (fun k => F k ∨ ON p Bk k) (fun k => F' k ∨ ON p Bk k) u0 v
  np : ¬ F' p
  nk : ¬ F' Bk
theorem Bo.keep {q p Bk : Nat} {F F' : Nat → Prop} {u0 v z : World} {st : St} (h : Bo q p Bk F u0 st F' v) (hb : Below v.heap.size v z) : Bo q p Bk F u0 st F' z := ⟨con.below h.d hb, h.l.trans (Loc.of_below _ hb), h.np, h.nk⟩
theorem Bo.setk {q p Bk : Nat} {F F' : Nat → Prop} {u0 v : World} {st : St} (h : Bo q p Bk F u0 st F' v) (i : Nat) (a : Value) : Bo q p Bk F u0 st F' (v.setCell ⟨Bk, i, none⟩ a) :=
  ⟨con.same h.d (fun k hk => Below.heap_setCell v ⟨Bk, i, none⟩ a k (fun e => h.nk (by rw [show k = Bk from e] at hk; exact hk))), h.l.trans (Loc.setCell v ⟨Bk, i, none⟩ a (Or.inr (Or.inr rfl))), h.np, h.nk⟩
theorem Bo.setp {q p Bk : Nat} {F F' : Nat → Prop} {u0 v : World} {st : St} (h : Bo q p Bk F u0 st F' v) (i : Nat) (a : Value) : Bo q p Bk F u0 st F' (v.setCell ⟨p, i, none⟩ a) :=
  ⟨con.same h.d (fun k hk => Below.heap_setCell v ⟨p, i, none⟩ a k (fun e => h.np (by rw [show k = p from e] at hk; exact hk))), h.l.trans (Loc.setCell v ⟨p, i, none⟩ a (Or.inr (Or.inl rfl))), h.np, h.nk⟩
theorem Bo.step {q p Bk : Nat} {F F' F2 : Nat → Prop} {u0 v z : World} {st st2 : St} (h : Bo q p Bk F u0 st F' v) (hp : p < v.heap.size) (hk : Bk < v.heap.size) (hd : DAt z q st2 F2) (hl : Loc F' F2 v z) : Bo q p Bk F u0 st2 F2 z :=
  ⟨hd, h.l.trans (hl.wide (X := ON p Bk)), own_new hl h.np hp, own_new hl h.nk hk⟩
/-- What stands in Open's boxes: the disk's, the store's, its pointer's, what is kept. -/
structure OIn (w : World) (pd : Option Addr) (ck lg : Int) (k0 k1 : Value) (z : World) : Prop where
  d : z.cell? ⟨w.heap.size, 0, none⟩ = some (.pointer pd)
  res : z.heap[w.heap.size + 2]? = some (.cells #[.int .u64 0, .string ⟨#[]⟩, .slice none 0 0] 61 (0, 0))
  p : z.heap[w.heap.size + 3]? = some (.cells #[.nilIface, .int .u64 0, .pointer pd, .int .i64 ck, .int .i64 lg, .bool false] 104 (0, 0))
  s : z.cell? ⟨w.heap.size + 4, 0, none⟩ = some (.pointer (some ⟨w.heap.size + 3, 0, none⟩))
  k : z.heap[w.heap.size + 5]? = some (.cells #[k0, k1, .slice none 0 0] 61 (0, 0))
theorem OIn.same {w z v : World} {pd : Option Addr} {ck lg : Int} {k0 k1 : Value} (h : OIn w pd ck lg k0 k1 z) (hs : ∀ k, w.heap.size ≤ k → k < w.heap.size + 6 → v.heap[k]? = z.heap[k]?) : OIn w pd ck lg k0 k1 v :=
  ⟨(cell_same8 (hs _ (by omega) (by omega)) 0).trans h.d, (hs _ (by omega) (by omega)).trans h.res, (hs _ (by omega) (by omega)).trans h.p, (cell_same8 (hs _ (by omega) (by omega)) 0).trans h.s, (hs _ (by omega) (by omega)).trans h.k⟩
theorem OIn.size {w z : World} {pd : Option Addr} {ck lg : Int} {k0 k1 : Value} (h : OIn w pd ck lg k0 k1 z) : w.heap.size + 6 ≤ z.heap.size := (Array.getElem?_eq_some_iff.1 h.k).1
theorem OIn.below {w z v : World} {pd : Option Addr} {ck lg : Int} {k0 k1 : Value} (h : OIn w pd ck lg k0 k1 z) (hb : Below z.heap.size z v) : OIn w pd ck lg k0 k1 v := h.same (fun k _ hk => hb.block k (by have := h.size; omega))
theorem OIn.pc {w z : World} {pd : Option Addr} {ck lg : Int} {k0 k1 : Value} (h : OIn w pd ck lg k0 k1 z) : z.cell? ⟨w.heap.size + 3, 2, none⟩ = some (.pointer pd) ∧ z.cell? ⟨w.heap.size + 3, 3, none⟩ = some (.int .i64 ck) ∧ z.cell? ⟨w.heap.size + 3, 4, none⟩ = some (.int .i64 lg) := by
  refine ⟨?_, ?_, ?_⟩ <;> simp [World.cell?, h.p]
theorem OIn.obx {w z : World} {pd : Option Addr} {ck lg : Int} {k0 k1 : Value} (h : OIn w pd ck lg k0 k1 z) : OBx pd (w.heap.size + 3) w.heap.size (w.heap.size + 4) (.pointer pd) ck lg z := ⟨h.d, h.s, h.pc.1, h.pc.2.1, h.pc.2.2⟩
theorem own_cap9 {u : World} {b n c : Nat} {a : Option Addr} {l : List ByteArray} (h : OwnL u b (.slice a n c) l) : n ≤ c ∧ (a = none → c = 0) := by
  rcases h.2 with ⟨e, hz⟩ | ⟨g, cap, cur, e, _, _, h2, _⟩
  · cases e
    exact ⟨Nat.le_refl _, fun _ => rfl⟩
  · cases e
    exact ⟨h2, fun e => by cases e⟩
/-- Open's steps are done: the store is there. -/
def OFin (w : World) (q : Nat) (k l : Nat) (F : Nat → Prop) (u0 : World) (st2 : St) (g : Nat) (t str : ByteArray) (recs : List ByteArray) (v : World) : Prop :=
  ∃ pl aR cR F', Bo q (w.heap.size + 3) (w.heap.size + 5) F u0 st2 F' v ∧ LAt v pl q (lo k l g) l str false ∧ StAt v (w.heap.size + 3) pl q k l g false ∧
    v.heap[w.heap.size + 5]? = some (.cells #[.int .u64 (g : Int), .string t, .slice aR recs.length cR] 61 (0, 0)) ∧ StrsAt v aR recs ∧ (∀ b off, aR = some ⟨b, off, none⟩ → u0.heap.size ≤ b) ∧ u0.heap.size ≤ pl ∧ ¬ F' pl ∧ (aR = none → cR = 0)
end Go.Proofs.YtchhojkhfdkhfaaGreatDoor
namespace Go.Proofs.YtchhojkhfdkhfaaGreatDoor
open Go Go.RowKit Frm
theorem sto_open_go (st : St) (k l : Nat) (hm : st.mayS (k : Int) (l : Int)) (h0 : (st.load 0 (2 * (k : Int))).2 = 0) :
    stoOpen st (k : Int) (l : Int) = if (walOpen st (lo k l (st.load 0 (2 * (k : Int))).1.1) l).1.1 ≠ 0 then (((walOpen st (lo k l (st.load 0 (2 * (k : Int))).1.1) l).1.1, 0, noText, noText, []), (walOpen st (lo k l (st.load 0 (2 * (k : Int))).1.1) l).2)
      else ((0, (st.load 0 (2 * (k : Int))).1.1, (st.load 0 (2 * (k : Int))).1.2, (walOpen st (lo k l (st.load 0 (2 * (k : Int))).1.1) l).1.2.1, (walOpen st (lo k l (st.load 0 (2 * (k : Int))).1.1) l).1.2.2), (walOpen st (lo k l (st.load 0 (2 * (k : Int))).1.1) l).2) := by
  unfold stoOpen
  rw [if_neg (fun x => x hm), if_neg (fun x => x h0), Int.toNat_natCast, Int.toNat_natCast]
theorem bo_row {q p Bk : Nat} {F F' : Nat → Prop} {u0 v : World} {st : St} (h : Bo q p Bk F u0 st F' v) (B : Nat) (hB : B < u0.heap.size) (hn : ¬ F B ∧ B ≠ p ∧ B ≠ Bk) : v.heap[B]? = u0.heap[B]? :=
  h.l.block B hB (fun hh => hh.elim hn.1 (fun e => e.elim hn.2.1 hn.2.2))
set_option maxRecDepth 10000 in
set_option maxHeartbeats 1000000 in
theorem oSteps (q : Nat) (st : St) (F : Nat → Prop) (ck lg : Int) (w u0 : World) (b c : Nat) (hD : DAt u0 q st F) (hok : st.Ok) (hl : st.loose.length + 3000 ≤ 8000) (h400 : st.sure.length ≤ 400) (hF : ∀ k, F k → k < w.heap.size)
    (h : OIn w (some ⟨q, 0, none⟩) ck lg (.int .u64 0) (.string ⟨#[]⟩) u0) (hb6 : w.heap.size + 6 ≤ b)
    (hrow : ∀ k (hk : k < 3), u0.cell? ⟨b, 0 + k, none⟩ = some [Value.func (.func 42) #[areaV (some ⟨q, 0, none⟩) ck lg] #[], .func (.func 46) #[] #[.pointer (some ⟨w.heap.size, 0, none⟩), .pointer (some ⟨w.heap.size + 4, 0, none⟩), .pointer (some ⟨w.heap.size + 5, 0, none⟩)], .func (.func 49) #[] #[.pointer (some ⟨w.heap.size + 4, 0, none⟩), .pointer (some ⟨w.heap.size + 5, 0, none⟩)]][k]) :
    Calls Tryz.prog 41 #[.slice (some ⟨b, 0, none⟩) 3 c] u0 fun e v => e = .returned (.int .i64 (((stoOpen st ck lg).1.1 : Nat) : Int)) ∧
      (((stoOpen st ck lg).1.1 ≠ 0 ∧ ∃ F', Bo q (w.heap.size + 3) (w.heap.size + 5) F u0 (stoOpen st ck lg).2 F' v) ∨
       ((stoOpen st ck lg).1.1 = 0 ∧ ∃ k l : Nat, ck = (k : Int) ∧ lg = (l : Int) ∧ st.mayS ck lg ∧ (1 ≤ (stoOpen st ck lg).1.2.1 ∧ (stoOpen st ck lg).1.2.1 ≤ 4611686018427387904) ∧ (stoOpen st ck lg).1.2.2.2.1.size ≤ l * 255 ∧ OFin w q k l F u0 (stoOpen st ck lg).2 (stoOpen st ck lg).1.2.1 (stoOpen st ck lg).1.2.2.1 (stoOpen st ck lg).1.2.2.2.1 (stoOpen st ck lg).1.2.2.2.2 v)) := by
  have hl1 := hok.some
  have hl2 := hok.few
  have hbl : b < u0.heap.size := World.block_lt_of_cell? u0 _ (hrow 0 (by decide))
  have hsz := h.size
  have key := inOrder8 b 0 c [Value.func (.func 42) #[areaV (some ⟨q, 0, none⟩) ck lg] #[], .func (.func 46) #[] #[.pointer (some ⟨w.heap.size, 0, none⟩), .pointer (some ⟨w.heap.size + 4, 0, none⟩), .pointer (some ⟨w.heap.size + 5, 0, none⟩)], .func (.func 49) #[] #[.pointer (some ⟨w.heap.size + 4, 0, none⟩), .pointer (some ⟨w.heap.size + 5, 0, none⟩)]]
    (fun k v => (k = 0 ∧ ∃ F', Bo q (w.heap.size + 3) (w.heap.size + 5) F u0 st F' v ∧ OIn w (some ⟨q, 0, none⟩) ck lg (.int .u64 0) (.string ⟨#[]⟩) v) ∨
      (k = 1 ∧ st.mayS ck lg ∧ ∃ F', Bo q (w.heap.size + 3) (w.heap.size + 5) F u0 st F' v ∧ OIn w (some ⟨q, 0, none⟩) ck lg (.int .u64 0) (.string ⟨#[]⟩) v) ∨
      (k = 2 ∧ st.mayS ck lg ∧ (st.load 0 (2 * ck)).2 = 0 ∧ ∃ F', Bo q (w.heap.size + 3) (w.heap.size + 5) F u0 st F' v ∧ OIn w (some ⟨q, 0, none⟩) ck lg (.int .u64 (((st.load 0 (2 * ck)).1.1 : Nat) : Int)) (.string (st.load 0 (2 * ck)).1.2) v) ∨
      (k = 3 ∧ (stoOpen st ck lg).1.1 = 0 ∧ (∃ F' s, Bo q (w.heap.size + 3) (w.heap.size + 5) F u0 s F' v) ∧ ∃ k l : Nat, ck = (k : Int) ∧ lg = (l : Int) ∧ st.mayS ck lg ∧ (1 ≤ (stoOpen st ck lg).1.2.1 ∧ (stoOpen st ck lg).1.2.1 ≤ 4611686018427387904) ∧ (stoOpen st ck lg).1.2.2.2.1.size ≤ l * 255 ∧ OFin w q k l F u0 (stoOpen st ck lg).2 (stoOpen st ck lg).1.2.1 (stoOpen st ck lg).1.2.2.1 (stoOpen st ck lg).1.2.2.2.1 (stoOpen st ck lg).1.2.2.2.2 v))
    (fun x v => x = (((stoOpen st ck lg).1.1 : Nat) : Int) ∧ (stoOpen st ck lg).1.1 ≠ 0 ∧ ∃ F', Bo q (w.heap.size + 3) (w.heap.size + 5) F u0 (stoOpen st ck lg).2 F' v) u0 (show (3 : Nat) ≤ 5000 by decide) ?_ ?_ ?_ ?_
  · refine key.mono ?_
    rintro e v ⟨x, rfl, ⟨rfl, hr⟩ | ⟨hx, rfl, h0, hb⟩⟩
    · rcases hr with ⟨hk, _⟩ | ⟨hk, _⟩ | ⟨hk, _⟩ | ⟨_, h0, _, hb⟩
      · exact absurd (show (3 : Nat) = 0 from hk) (by decide)
      · exact absurd (show (3 : Nat) = 1 from hk) (by decide)
      · exact absurd (show (3 : Nat) = 2 from hk) (by decide)
      · exact ⟨by rw [h0]; rfl, Or.inr ⟨h0, hb⟩⟩
    · exact ⟨rfl, Or.inl ⟨h0, hb⟩⟩
  · intro k hk v hr
    have hb : ∃ F' s, Bo q (w.heap.size + 3) (w.heap.size + 5) F u0 s F' v := by
      rcases hr with ⟨_, F', hb, _⟩ | ⟨_, _, F', hb, _⟩ | ⟨_, _, _, F', hb, _⟩ | ⟨_, _, hb, _⟩
      · exact ⟨F', _, hb⟩
      · exact ⟨F', _, hb⟩
      · exact ⟨F', _, hb⟩
      · exact hb
    obtain ⟨F', s, hb⟩ := hb
    exact (cell_same8 (bo_row hb b hbl ⟨fun hf => by have := hF _ hf; omega, by omega, by omega⟩) _).trans (hrow k hk)
  · intro k hk
    match k, hk with
    | 0, _ => exact Or.inl ⟨_, rfl⟩
    | 1, _ => exact Or.inr (Or.inr (Or.inr (Or.inr (Or.inl ⟨_, _, _, rfl⟩))))
    | 2, _ => exact Or.inr (Or.inr (Or.inr (Or.inr (Or.inr (Or.inl ⟨_, _, rfl⟩)))))
  · intro k hk v hr
    rcases hr with ⟨rfl, F1, hb, ho⟩ | ⟨rfl, hm, F1, hb, ho⟩ | ⟨rfl, hm, hld, F1, hb, ho⟩ | ⟨rfl, _⟩
    · intro n a he
      cases he
      by_cases hm : st.mayS ck lg
      · refine calls_eq (a := #[areaV (some ⟨q, 0, none⟩) ck lg]) rfl ((fault8_any (some ⟨q, 0, none⟩) ck lg (st.sure.length : Int) (blocksC ck lg) v 0 (fun y hy => con.size q st F1 y (con.below hb.d hy) hok) (fun y => blocks8_any ck lg y) ?_).mono ?_)
        · rw [if_neg (by omega), if_neg (by have := hm.1; have := hm.2; omega)]
        · rintro e y ⟨rfl, hy⟩
          exact ⟨0, rfl, Or.inl ⟨rfl, Or.inr (Or.inl ⟨rfl, hm, F1, hb.keep hy, ho.below hy⟩)⟩⟩
      · have e2 : stoOpen st ck lg = ((2, 0, noText, noText, []), st) := by unfold stoOpen; rw [if_pos hm]
        refine calls_eq (a := #[areaV (some ⟨q, 0, none⟩) ck lg]) rfl ((fault8_any (some ⟨q, 0, none⟩) ck lg (st.sure.length : Int) (blocksC ck lg) v 2 (fun y hy => con.size q st F1 y (con.below hb.d hy) hok) (fun y => blocks8_any ck lg y) ?_).mono ?_)
        · rw [if_neg (by omega), if_pos (by
            by_cases h0 : blocksC ck lg = 0
            · exact Or.inl h0
            · refine Or.inr ?_
              have : ¬ blocksC ck lg ≤ (st.sure.length : Int) := fun hh => hm ⟨h0, hh⟩
              omega)]
        · rintro e y ⟨rfl, hy⟩
          refine ⟨2, rfl, Or.inr ⟨by decide, ?_⟩⟩
          rw [e2]
          exact ⟨rfl, (show ¬ (2 : Nat) = 0 by decide), F1, hb.keep hy⟩
    · obtain ⟨kk, ll, rfl, rfl, q1, q2, q3, q4, q5, q6⟩ := mayS_nat hm
      have hsz1 := ho.size
      intro n a he
      cases he
      refine calls_eq (a := #[.pointer (some ⟨w.heap.size, 0, none⟩), .pointer (some ⟨w.heap.size + 4, 0, none⟩), .pointer (some ⟨w.heap.size + 5, 0, none⟩)]) rfl ((open1_any (some ⟨q, 0, none⟩) (w.heap.size + 3) w.heap.size (w.heap.size + 4) (w.heap.size + 5) _ (kk : Int) (ll : Int) (2 * (kk : Int)) (st.load 0 (2 * (kk : Int))).1.1 (st.load 0 (2 * (kk : Int))).1.2 (((st.load 0 (2 * (kk : Int))).2 : Nat) : Int) v _ _ _ rfl ho.obx ho.k ⟨by omega, by omega, by omega⟩ (fun y => ckb_any _ _ _ y (by omega)) (fun y hy => pLoad q 0 (2 * (kk : Int)) st F1 y (con.below hb.d hy) hok (by omega) (by omega))).mono ?_)
      rintro e y ⟨rfl, z, hz, rfl⟩
      have hbz := ((hb.keep hz).setk 0 (.int .u64 (((st.load 0 (2 * (kk : Int))).1.1 : Nat) : Int))).setk 1 (.string (st.load 0 (2 * (kk : Int))).1.2)
      have hoz := ho.below hz
      refine ⟨_, rfl, ?_⟩
      by_cases c0 : (st.load 0 (2 * (kk : Int))).2 = 0
      · refine Or.inl ⟨by rw [c0]; rfl, Or.inr (Or.inr (Or.inl ⟨rfl, hm, c0, F1, hbz, ?_⟩))⟩
        have hs : ∀ j, j ≠ w.heap.size + 5 → ((z.setCell ⟨w.heap.size + 5, 0, none⟩ (.int .u64 (((st.load 0 (2 * (kk : Int))).1.1 : Nat) : Int))).setCell ⟨w.heap.size + 5, 1, none⟩ (.string (st.load 0 (2 * (kk : Int))).1.2)).heap[j]? = z.heap[j]? := fun j hj => set2_other z (w.heap.size + 5) _ _ j hj
        exact ⟨(cell_same8 (hs _ (by omega)) 0).trans hoz.d, (hs _ (by omega)).trans hoz.res, (hs _ (by omega)).trans hoz.p, (cell_same8 (hs _ (by omega)) 0).trans hoz.s, heap_set3 (i := 1) (heap_set3 (i := 0) hoz.k _) _⟩
      · have e2 : stoOpen st (kk : Int) (ll : Int) = (((st.load 0 (2 * (kk : Int))).2, 0, noText, noText, []), st) := by unfold stoOpen; rw [if_neg (fun x => x hm), if_pos c0]
        rw [e2]
        exact Or.inr ⟨by omega, rfl, c0, F1, hbz⟩
    · obtain ⟨kk, ll, rfl, rfl, q1, q2, q3, q4, q5, q6⟩ := mayS_nat hm
      have hsz1 := ho.size
      have hgen := load_gen st 0 (2 * (kk : Int))
      have hpos := load_pos st 0 (2 * (kk : Int)) hld
      have hgo := sto_open_go st kk ll hm hld
      generalize (st.load 0 (2 * (kk : Int))).1.1 = g at *
      generalize (st.load 0 (2 * (kk : Int))).1.2 = t at *
      have hfit : lo kk ll g + ll ≤ st.sure.length := by unfold lo; rcases (by omega : g % 2 = 0 ∨ g % 2 = 1) with e | e <;> rw [e] <;> omega
      have hos := open_size hok (lo kk ll g) ll hfit
      have hF1 := con.lt hb.d
      have hop : ∀ z, Below v.heap.size v z → Calls Tryz.prog 85 #[.pointer (some ⟨q, 0, none⟩), .int .i64 ((lo kk ll g : Nat) : Int), .int .i64 (ll : Int)] z (Opened q (lo kk ll g) ll (walOpen st (lo kk ll g) ll) F1 z) := fun z hz =>
        pOpen q (lo kk ll g) ll st F1 z (con.below hb.d hz) hok (by omega) hfit q3 (by omega)
      have hnF : ∀ j, w.heap.size ≤ j → j < w.heap.size + 6 → j ≠ w.heap.size + 3 → j ≠ w.heap.size + 5 → ¬ F1 j := fun j h1 h2 h3 h4 hf => by
        rcases hb.l.own j (Or.inl hf) with (h5 | h5 | h5) | h5
        · have := hF _ h5; omega
        · exact h3 h5
        · exact h4 h5
        · omega
      have hF3 : ¬ F1 (w.heap.size + 4) ∧ ¬ F1 (w.heap.size + 3) ∧ ¬ F1 (w.heap.size + 5) := ⟨hnF _ (by omega) (by omega) (by omega) (by omega), hb.np, hb.nk⟩
      have hob : OB2 q (w.heap.size + 3) (w.heap.size + 4) (w.heap.size + 5) (kk : Int) (ll : Int) (g : Int) v := ⟨ho.s, ho.pc.1, ho.pc.2.1, ho.pc.2.2, (row_cells3 ho.k).1.1⟩
      intro n a he
      cases he
      by_cases h0 : (walOpen st (lo kk ll g) ll).1.1 = 0
      · rw [if_neg (fun x => x h0)] at hgo
        refine calls_eq (a := #[.pointer (some ⟨w.heap.size + 4, 0, none⟩), .pointer (some ⟨w.heap.size + 5, 0, none⟩)]) rfl ((open2_ok (w.heap.size + 3) q (lo kk ll g) (w.heap.size + 4) (w.heap.size + 5) (kk : Int) (ll : Int) g ll (walOpen st (lo kk ll g) ll).1.2.1 (walOpen st (lo kk ll g) ll).1.2.2 (walOpen st (lo kk ll g) ll).2 F1 v _ _ _ _ _ _ _ _ _ hob ho.p ho.k hF3 (by omega) (by omega) (by omega) ?_).mono ?_)
        · intro z hz
          refine aopen_ok q (lo kk ll g) g (kk : Int) ll _ _ _ F1 z (fun k hk => Nat.lt_of_lt_of_le (hF1 k hk) hz.size) (fun y => logOf_any (some ⟨q, 0, none⟩) kk ll g y q2 q4) (fun y hy => ?_)
          refine (hop y (bnext hz hy)).mono ?_
          rintro e z2 (⟨_, hh⟩ | ⟨hh, _⟩)
          · exact hh
          · exact absurd h0 hh
        · rintro e z2 ⟨rfl, pl, vR, F2, z, hz, rfl⟩
          obtain ⟨k1, k2, k3, k4, k5, k6, k7, k8⟩ := hz
          obtain ⟨aR, cR, rfl, hst, hOB⟩ := own_form k3
          have hbz := (((hb.step (by omega) (by omega) k4 k5).setp 0 (.iface 143 (.pointer (some ⟨pl, 0, none⟩)))).setp 1 (.int .u64 (g : Int))).setk 2 (.slice aR (walOpen st (lo kk ll g) ll).1.2.2.length cR)
          have hu0 := hb.l.size
          have hp3 := (k5.block (w.heap.size + 3) (by omega) hb.np).trans ho.p
          have hk5 := (k5.block (w.heap.size + 5) (by omega) hb.nk).trans ho.k
          have hne : ∀ b off, aR = some ⟨b, off, none⟩ → v.heap.size ≤ b := fun b off e => own_ge k3 (hOB b off e)
          refine ⟨0, rfl, Or.inl ⟨rfl, Or.inr (Or.inr (Or.inr ⟨rfl, ?_⟩))⟩⟩
          rw [hgo]
          refine ⟨rfl, ⟨F2, _, hbz⟩, kk, ll, rfl, rfl, hm, ⟨hpos, hgen⟩, hos, pl, aR, cR, F2, hbz, ?_, ?_, ?_, ?_, fun b off e => by have := hne b off e; omega, by omega, k6, (own_cap9 k3).2⟩
          · exact k1.same ((Below.heap_setCell _ ⟨w.heap.size + 5, 2, none⟩ _ pl (fun e => by have : pl = w.heap.size + 5 := e; omega)).trans (set2_other z (w.heap.size + 3) _ _ pl (by omega)))
          · refine (Below.heap_setCell _ ⟨w.heap.size + 5, 2, none⟩ _ (w.heap.size + 3) (fun e => by have : w.heap.size + 3 = w.heap.size + 5 := e; omega)).trans ?_
            exact heap_set3 (i := 1) (heap_set3 (i := 0) hp3 _) _
          · exact heap_set3 (i := 2) ((set2_other z (w.heap.size + 3) _ _ (w.heap.size + 5) (by omega)).trans hk5) _
          · exact strs_set8 (strs_set8 (strs_set8 hst (fun b off e => by have := hne b off e; omega)) (fun b off e => by have := hne b off e; omega)) (fun b off e => by have := hne b off e; omega)
      · rw [if_pos h0] at hgo
        refine calls_eq (a := #[.pointer (some ⟨w.heap.size + 4, 0, none⟩), .pointer (some ⟨w.heap.size + 5, 0, none⟩)]) rfl ((open2_no (w.heap.size + 3) q (w.heap.size + 4) (w.heap.size + 5) (kk : Int) (ll : Int) g (((walOpen st (lo kk ll g) ll).1.1 : Nat) : Int) (walOpen st (lo kk ll g) ll).2 F1 v _ _ _ _ _ _ _ _ _ hob ho.p ho.k hF3 (by omega) (by omega) (by omega) ?_).mono ?_)
        · intro z hz
          refine aopen_no q (lo kk ll g) g (kk : Int) ll _ (by omega) _ F1 z (fun k hk => Nat.lt_of_lt_of_le (hF1 k hk) hz.size) (fun y => logOf_any (some ⟨q, 0, none⟩) kk ll g y q2 q4) (fun y hy => ?_)
          refine (hop y (bnext hz hy)).mono ?_
          rintro e z2 (⟨hh, _⟩ | ⟨_, hh⟩)
          · exact absurd hh h0
          · exact hh
        · rintro e z2 ⟨rfl, F2, z, ⟨k4, k5⟩, rfl⟩
          have hbz := (((hb.step (by omega) (by omega) k4 k5).setp 0 .nilIface).setp 1 (.int .u64 0)).setk 2 (.slice none 0 0)
          refine ⟨_, rfl, Or.inr ⟨by omega, ?_⟩⟩
          rw [hgo]
          exact ⟨rfl, h0, F2, hbz⟩
    · exact absurd (show (3 : Nat) < 3 from hk) (by decide)
  · exact Or.inl ⟨rfl, F, ⟨hD, Loc.refl _ _, fun hf => by have := hF _ hf; omega, fun hf => by have := hF _ hf; omega⟩, h⟩
end Go.Proofs.YtchhojkhfdkhfaaGreatDoor
namespace Go.Proofs.YtchhojkhfdkhfaaGreatDoor
open Go Go.RowKit Frm
/-- The world in which Open's steps begin. -/
def OW (w : World) (pd : Option Addr) (ck lg : Int) : World :=
  (((((w.alloc (.cells #[.pointer pd] 28)).alloc (.cells #[.int .i64 ck, .int .i64 lg] 23)).alloc (.cells #[.int .u64 0, .string ⟨#[]⟩, .slice none 0 0] 61)).alloc (.cells #[.nilIface, .int .u64 0, .pointer pd, .int .i64 ck, .int .i64 lg, .bool false] 104)).alloc
    (.cells #[.pointer (some ⟨w.heap.size + 1 + 1 + 1, 0, none⟩)] 36)).alloc (.cells #[.int .u64 0, .string ⟨#[]⟩, .slice none 0 0] 61)
def oFns (w : World) (pd : Option Addr) (ck lg : Int) : Array Value := #[Value.func (.func 42) #[areaV pd ck lg] #[], .func (.func 46) #[] #[.pointer (some ⟨w.heap.size, 0, none⟩), .pointer (some ⟨w.heap.size + 1 + 1 + 1 + 1, 0, none⟩), .pointer (some ⟨w.heap.size + 1 + 1 + 1 + 1 + 1, 0, none⟩)], .func (.func 49) #[] #[.pointer (some ⟨w.heap.size + 1 + 1 + 1 + 1, 0, none⟩), .pointer (some ⟨w.heap.size + 1 + 1 + 1 + 1 + 1, 0, none⟩)]]
/-- Cells of three, written anew. -/
def set3w (z : World) (B : Nat) (a b c : Value) : World := ((z.setCell ⟨B, 0, none⟩ a).setCell ⟨B, 1, none⟩ b).setCell ⟨B, 2, none⟩ c
set_option maxRecDepth 10000 in
set_option maxHeartbeats 2000000 in
theorem open_no (pd : Option Addr) (ck lg : Int) (w : World) (x : Int) (Q : World → Prop) (hx : x ≠ 0)
    (hG : Calls Tryz.prog 41 #[.slice (some ⟨w.heap.size + 1 + 1 + 1 + 1 + 1 + 1, 0, none⟩) 3 3] ((OW w pd ck lg).alloc (.cells (oFns w pd ck lg) 106)) fun e v => e = .returned (.int .i64 x) ∧ v.heap[w.heap.size + 1 + 1]? = some (.cells #[.int .u64 0, .string ⟨#[]⟩, .slice none 0 0] 61 (0, 0)) ∧ Q v) :
    Calls Tryz.prog 20 #[.pointer pd, confV ck lg] w fun e v => ∃ z, Q z ∧ e = .returned (.tuple #[.pointer none, .agg #[.int .u64 0, .string ⟨#[]⟩, .slice none 0 0], .int .i64 x]) ∧ v = set3w z (w.heap.size + 1 + 1) (.int .u64 0) (.string ⟨#[]⟩) (.slice none 0 0) := by
  have HG := hide hG
  unfold confV OW oFns areaV at *
  clear hG
  go_enter Tryz.func20, Tryz.ntmps20
  go_wp2_with fail
  refine HG.out.mono ?_
  rintro e z ⟨rfl, hrow, hq⟩
  obtain ⟨⟨r0, r1, r2⟩, fr⟩ := row_cells3 hrow
  have f0 := fr 0
  have f1 := fr 1
  have f2 := fr 2
  have HQ := hide hq
  have HRow := hide hrow
  clear hq hrow fr HG
  go_wp2
  exact bodyPost_ret (results_tct Tryz.results20 _ _ (w.heap.size + 1 + 1) 61 _ (0, 0) _ rfl (heap_set3 (i := 2) (heap_set3 (i := 1) (heap_set3 (i := 0) HRow.out _) _) _) Tryz.underlying61 rfl info61) rfl ⟨z, HQ.out, rfl, rfl⟩
/-- What the last region of Open reads. -/
def OLast (w : World) (g : Int) (t : ByteArray) (sl : Value) (z : World) : Prop := z.cell? ⟨w.heap.size + 1 + 1 + 1 + 1, 0, none⟩ = some (.pointer (some ⟨w.heap.size + 1 + 1 + 1, 0, none⟩)) ∧ z.cell? ⟨w.heap.size + 1 + 1 + 1 + 1 + 1, 0, none⟩ = some (.int .u64 g) ∧ z.cell? ⟨w.heap.size + 1 + 1 + 1 + 1 + 1, 1, none⟩ = some (.string t) ∧ z.cell? ⟨w.heap.size + 1 + 1 + 1 + 1 + 1, 2, none⟩ = some sl
theorem OLast.all {w z : World} {g : Int} {t : ByteArray} {sl : Value} (h : OLast w g t sl z) : z.cell? ⟨w.heap.size + 1 + 1 + 1 + 1, 0, none⟩ = some (.pointer (some ⟨w.heap.size + 1 + 1 + 1, 0, none⟩)) ∧ z.cell? ⟨w.heap.size + 1 + 1 + 1 + 1 + 1, 0, none⟩ = some (.int .u64 g) ∧ z.cell? ⟨w.heap.size + 1 + 1 + 1 + 1 + 1, 1, none⟩ = some (.string t) ∧ z.cell? ⟨w.heap.size + 1 + 1 + 1 + 1 + 1, 2, none⟩ = some sl := h
theorem set3w_other (z : World) (B : Nat) (a b c : Value) (k : Nat) (hk : k ≠ B) : (set3w z B a b c).heap[k]? = z.heap[k]? := by
  unfold set3w
  rw [Below.heap_setCell _ ⟨B, 2, none⟩ c k hk, Below.heap_setCell _ ⟨B, 1, none⟩ b k hk, Below.heap_setCell _ ⟨B, 0, none⟩ a k hk]
theorem OLast.set {w z : World} {g : Int} {t : ByteArray} {sl : Value} (h : OLast w g t sl z) (a b c : Value) : OLast w g t sl (((z.setCell ⟨w.heap.size + 1 + 1, 0, none⟩ a).setCell ⟨w.heap.size + 1 + 1, 1, none⟩ b).setCell ⟨w.heap.size + 1 + 1, 2, none⟩ c) := by
  have hs : ∀ k, k ≠ w.heap.size + 1 + 1 → (((z.setCell ⟨w.heap.size + 1 + 1, 0, none⟩ a).setCell ⟨w.heap.size + 1 + 1, 1, none⟩ b).setCell ⟨w.heap.size + 1 + 1, 2, none⟩ c).heap[k]? = z.heap[k]? := fun k hk => set3w_other z _ a b c k hk
  have h4 := hs (w.heap.size + 1 + 1 + 1 + 1) (by omega)
  have h5 := hs (w.heap.size + 1 + 1 + 1 + 1 + 1) (by omega)
  exact ⟨(cell_same8 h4 0).trans h.1, (cell_same8 h5 0).trans h.2.1, (cell_same8 h5 1).trans h.2.2.1, (cell_same8 h5 2).trans h.2.2.2⟩
theorem OLast.drew {w z : World} {g : Int} {t : ByteArray} {sl : Value} (h : OLast w g t sl z) : OLast w g t sl z.drew := h
set_option maxRecDepth 10000 in
set_option maxHeartbeats 2000000 in
theorem open_yes (pd : Option Addr) (ck lg : Int) (w : World) (g : Int) (t : ByteArray) (Q : Option Addr → Nat → Nat → World → Prop)
    (hG : Calls Tryz.prog 41 #[.slice (some ⟨w.heap.size + 1 + 1 + 1 + 1 + 1 + 1, 0, none⟩) 3 3] ((OW w pd ck lg).alloc (.cells (oFns w pd ck lg) 106)) fun e v => e = .returned (.int .i64 0) ∧ v.heap[w.heap.size + 1 + 1]? = some (.cells #[.int .u64 0, .string ⟨#[]⟩, .slice none 0 0] 61 (0, 0)) ∧ ∃ a n c, OLast w g t (.slice a n c) v ∧ Q a n c v) :
    Calls Tryz.prog 20 #[.pointer pd, confV ck lg] w fun e v => ∃ z a n c, Q a n c z ∧ e = .returned (.tuple #[.pointer (some ⟨w.heap.size + 1 + 1 + 1, 0, none⟩), .agg #[.int .u64 g, .string t, .slice a n c], .int .i64 0]) ∧ v = (set3w z (w.heap.size + 1 + 1) (.int .u64 g) (.string t) (.slice a n c)).drew := by
  have HG := hide hG
  unfold confV OW oFns areaV at *
  clear hG
  go_enter Tryz.func20, Tryz.ntmps20
  go_wp2_with fail
  refine HG.out.mono ?_
  rintro e z ⟨rfl, hrow, a, n, c, hl, hq⟩
  obtain ⟨⟨r0, r1, r2⟩, fr⟩ := row_cells3 hrow
  have f0 := fr 0
  have f1 := fr 1
  have f2 := fr 2



  have HQ := hide hq
  have HRow : Hid (z.heap[w.heap.size + 1 + 1]? = some (.cells #[.int .u64 0, .string ⟨#[]⟩, .slice none 0 0] 61 (0, 0))) := hrow
  have K := hl.drew
  have HL := hide hl
  clear hq hrow fr HG hl
  go_wp2_with fail
  go_region_held3 (fun z => z.cell? ⟨w.heap.size + 1 + 1 + 1 + 1, 0, none⟩ = some (.pointer (some ⟨w.heap.size + 1 + 1 + 1, 0, none⟩)) ∧ z.cell? ⟨w.heap.size + 1 + 1 + 1 + 1 + 1, 0, none⟩ = some (.int .u64 g) ∧ z.cell? ⟨w.heap.size + 1 + 1 + 1 + 1 + 1, 1, none⟩ = some (.string t) ∧ z.cell? ⟨w.heap.size + 1 + 1 + 1 + 1 + 1, 2, none⟩ = some (.slice a n c))
    ((first | (with_reducible exact OLast.all K) | (with_reducible exact ((OLast.set HL.out _ _ _).drew).all)))
    (first
      | (go_at_call 41; fail))
  all_goals
    clear K
    go_wp2
    exact bodyPost_ret (results_tct Tryz.results20 _ _ (w.heap.size + 1 + 1) 61 _ (0, 0) _ rfl (heap_set3 (i := 2) (heap_set3 (i := 1) (heap_set3 (i := 0) HRow.out _) _) _) Tryz.underlying61 rfl info61) rfl ⟨z, a, n, c, HQ.out, rfl, rfl⟩
end Go.Proofs.YtchhojkhfdkhfaaGreatDoor
namespace Go.Proofs.YtchhojkhfdkhfaaGreatDoor
open Go Go.RowKit Frm
theorem OW_in (w : World) (pd : Option Addr) (ck lg : Int) : OIn w pd ck lg (.int .u64 0) (.string ⟨#[]⟩) (OW w pd ck lg) ∧ Below w.heap.size w (OW w pd ck lg) ∧ (OW w pd ck lg).heap.size = w.heap.size + 1 + 1 + 1 + 1 + 1 + 1 := by
  unfold OW
  generalize h1 : w.alloc (.cells #[.pointer pd] 28) = W1
  have s1 : W1.heap.size = w.heap.size + 1 := by rw [← h1]; simp
  have l1 : W1.heap[w.heap.size]? = some (.cells #[.pointer pd] 28 (0, 0)) := by rw [← h1]; exact heap_alloc_last w _
  have b1 : Below w.heap.size w W1 := by rw [← h1]; exact one_below w _
  generalize h2 : W1.alloc (.cells #[.int .i64 ck, .int .i64 lg] 23) = W2
  have s2 : W2.heap.size = w.heap.size + 1 + 1 := by rw [← h2]; simp [s1]
  have b2 : Below W1.heap.size W1 W2 := by rw [← h2]; exact one_below W1 _
  generalize h3 : W2.alloc (.cells #[.int .u64 0, .string ⟨#[]⟩, .slice none 0 0] 61) = W3
  have s3 : W3.heap.size = w.heap.size + 1 + 1 + 1 := by rw [← h3]; simp [s2]
  have l3 : W3.heap[w.heap.size + 1 + 1]? = some (.cells #[.int .u64 0, .string ⟨#[]⟩, .slice none 0 0] 61 (0, 0)) := by rw [← h3, ← s2]; exact heap_alloc_last W2 _
  have b3 : Below W2.heap.size W2 W3 := by rw [← h3]; exact one_below W2 _
  generalize h4 : W3.alloc (.cells #[.nilIface, .int .u64 0, .pointer pd, .int .i64 ck, .int .i64 lg, .bool false] 104) = W4
  have s4 : W4.heap.size = w.heap.size + 1 + 1 + 1 + 1 := by rw [← h4]; simp [s3]
  have l4 : W4.heap[w.heap.size + 1 + 1 + 1]? = some (.cells #[.nilIface, .int .u64 0, .pointer pd, .int .i64 ck, .int .i64 lg, .bool false] 104 (0, 0)) := by rw [← h4, ← s3]; exact heap_alloc_last W3 _
  have b4 : Below W3.heap.size W3 W4 := by rw [← h4]; exact one_below W3 _
  generalize h5 : W4.alloc (.cells #[.pointer (some ⟨w.heap.size + 1 + 1 + 1, 0, none⟩)] 36) = W5
  have s5 : W5.heap.size = w.heap.size + 1 + 1 + 1 + 1 + 1 := by rw [← h5]; simp [s4]
  have l5 : W5.heap[w.heap.size + 1 + 1 + 1 + 1]? = some (.cells #[.pointer (some ⟨w.heap.size + 1 + 1 + 1, 0, none⟩)] 36 (0, 0)) := by rw [← h5, ← s4]; exact heap_alloc_last W4 _
  have b5 : Below W4.heap.size W4 W5 := by rw [← h5]; exact one_below W4 _
  generalize h6 : W5.alloc (.cells #[.int .u64 0, .string ⟨#[]⟩, .slice none 0 0] 61) = W6
  have s6 : W6.heap.size = w.heap.size + 1 + 1 + 1 + 1 + 1 + 1 := by rw [← h6]; simp [s5]
  have l6 : W6.heap[w.heap.size + 1 + 1 + 1 + 1 + 1]? = some (.cells #[.int .u64 0, .string ⟨#[]⟩, .slice none 0 0] 61 (0, 0)) := by rw [← h6, ← s5]; exact heap_alloc_last W5 _
  have b6 : Below W5.heap.size W5 W6 := by rw [← h6]; exact one_below W5 _
  have b56 := bnext b5 b6
  have b46 := bnext b4 b56
  have b36 := bnext b3 b46
  have b26 := bnext b2 b36
  refine ⟨⟨?_, ?_, ?_, ?_, l6⟩, bnext b1 b26, s6⟩
  · exact (cell_of_row _ _ 0 _ _ _ ((b26.block _ (by omega)).trans l1)).trans rfl
  · exact (b46.block _ (by omega)).trans l3
  · exact (b56.block _ (by omega)).trans l4
  · exact (cell_of_row _ _ 0 _ _ _ ((b6.block _ (by omega)).trans l5)).trans rfl
theorem set3w_loc {F A : Nat → Prop} {w z : World} {B : Nat} (h : Loc F A w z) (hB : w.heap.size ≤ B) (a b c : Value) : Loc F A w (set3w z B a b c) := ((h.set_new B 0 a hB).set_new B 1 b hB).set_new B 2 c hB
/-- There is one; its list is none where it lies nowhere. -/
def PHas9 (q ck lg gen : Nat) (text str : ByteArray) (recs : List ByteArray) (st : St) (F : Nat → Prop) (w : World) (e : Ending) (w' : World) : Prop :=
  ∃ p a c A, e = .returned (.tuple #[.pointer (some ⟨p, 0, none⟩), .agg #[.int .u64 (gen : Int), .string text, .slice a recs.length c], .int .i64 0]) ∧ PSt w' p q ck lg ⟨gen, str, false⟩ st A ∧ Loc F A w w' ∧ StrsAt w' a recs ∧ (∀ b off, a = some ⟨b, off, none⟩ → w.heap.size ≤ b) ∧ (a = none → c = 0)
def POpened9 (q : Nat) (ck lg : Int) (r : (Nat × Nat × ByteArray × ByteArray × List ByteArray) × St) (F : Nat → Prop) (w : World) (e : Ending) (w' : World) : Prop :=
  (r.1.1 = 0 ∧ PHas9 q ck.toNat lg.toNat r.1.2.1 r.1.2.2.1 r.1.2.2.2.1 r.1.2.2.2.2 r.2 F w e w') ∨ (r.1.1 ≠ 0 ∧ PNo8 q r.2 F w ((r.1.1 : Nat) : Int) e w')
set_option maxRecDepth 10000 in
theorem pOpen9 (q : Nat) (st : St) (F : Nat → Prop) (ck lg : Int) (w : World) (hD : DAt w q st F) (hok : st.Ok) (hl : st.loose.length + 3000 ≤ 8000) (h400 : st.sure.length ≤ 400) (_ : I64 ck) (_ : I64 lg) :
    Calls Tryz.prog 20 #[.pointer (some ⟨q, 0, none⟩), confV ck lg] w (POpened9 q ck lg (stoOpen st ck lg) F w) := by
  have hF := con.lt hD
  obtain ⟨hin, hbw, hsz⟩ := OW_in w (some ⟨q, 0, none⟩) ck lg
  generalize hu0 : (OW w (some ⟨q, 0, none⟩) ck lg).alloc (.cells (oFns w (some ⟨q, 0, none⟩) ck lg) 106) = u0
  have hb1 : Below (OW w (some ⟨q, 0, none⟩) ck lg).heap.size (OW w (some ⟨q, 0, none⟩) ck lg) u0 := by rw [← hu0]; exact one_below _ _
  have hb0 := bnext hbw hb1
  have hs0 : u0.heap.size = w.heap.size + 7 := by rw [← hu0]; simp [hsz]
  have hrow : u0.heap[w.heap.size + 1 + 1 + 1 + 1 + 1 + 1]? = some (.cells (oFns w (some ⟨q, 0, none⟩) ck lg) 106 (0, 0)) := by rw [← hu0, ← hsz]; exact heap_alloc_last _ _
  have hin0 := hin.below hb1
  have steps := oSteps q st F ck lg w u0 (w.heap.size + 1 + 1 + 1 + 1 + 1 + 1) 3 (con.below hD hb0) hok hl h400 hF hin0 (Nat.le_refl _) (fun k hk => by
    match k, hk with
    | 0, _ => exact (cell_of_row _ _ 0 _ _ _ hrow).trans rfl
    | 1, _ => exact (cell_of_row _ _ 1 _ _ _ hrow).trans rfl
    | 2, _ => exact (cell_of_row _ _ 2 _ _ _ hrow).trans rfl)
  have hN : ∀ k, ON (w.heap.size + 3) (w.heap.size + 5) k → w.heap.size ≤ k := fun k hk => by rcases hk with e | e <;> omega
  have hres : ∀ {F' : Nat → Prop} {s : St} {v : World}, Bo q (w.heap.size + 3) (w.heap.size + 5) F u0 s F' v → v.heap[w.heap.size + 1 + 1]? = some (.cells #[.int .u64 0, .string ⟨#[]⟩, .slice none 0 0] 61 (0, 0)) ∧ ¬ F' (w.heap.size + 1 + 1) := fun hb =>
    ⟨(bo_row hb (w.heap.size + 2) (by omega) ⟨fun hf => by have := hF _ hf; omega, by omega, by omega⟩).trans hin0.res, fun hf => by
      rcases hb.l.own _ (Or.inl hf) with (h5 | h5 | h5) | h5
      · have := hF _ h5; omega
      · omega
      · omega
      · omega⟩
  by_cases h0 : (stoOpen st ck lg).1.1 = 0
  · refine (open_yes (some ⟨q, 0, none⟩) ck lg w (((stoOpen st ck lg).1.2.1 : Nat) : Int) (stoOpen st ck lg).1.2.2.1 (fun a n c v => n = (stoOpen st ck lg).1.2.2.2.2.length ∧ ∃ k l pl F', ck = ((k : Nat) : Int) ∧ lg = ((l : Nat) : Int) ∧ st.mayS ck lg ∧ (1 ≤ (stoOpen st ck lg).1.2.1 ∧ (stoOpen st ck lg).1.2.1 ≤ 4611686018427387904) ∧ (stoOpen st ck lg).1.2.2.2.1.size ≤ l * 255 ∧ Bo q (w.heap.size + 3) (w.heap.size + 5) F u0 (stoOpen st ck lg).2 F' v ∧ LAt v pl q (lo k l (stoOpen st ck lg).1.2.1) l (stoOpen st ck lg).1.2.2.2.1 false ∧ StAt v (w.heap.size + 3) pl q k l (stoOpen st ck lg).1.2.1 false ∧ StrsAt v a (stoOpen st ck lg).1.2.2.2.2 ∧ (∀ b off, a = some ⟨b, off, none⟩ → u0.heap.size ≤ b) ∧ u0.heap.size ≤ pl ∧ ¬ F' pl ∧ (a = none → c = 0)) ?_).mono ?_
    · rw [hu0]
      refine steps.mono ?_
      rintro e v ⟨rfl, ⟨h1, _⟩ | ⟨_, k, l, hk, hll, hm, hg, hs, pl, aR, cR, F', m1, m2, m3, m4, m5, m6, m7, m8, m9⟩⟩
      · exact absurd h0 h1
      · have hbs : v.heap[w.heap.size + 4]? = u0.heap[w.heap.size + 4]? := bo_row m1 _ (by omega) ⟨fun hf => by have := hF _ hf; omega, by omega, by omega⟩
        obtain ⟨⟨x0, x1, x2⟩, -⟩ := row_cells3 m4
        exact ⟨by rw [h0]; rfl, (hres m1).1, aR, _, cR, ⟨(cell_same8 hbs 0).trans hin0.s, x0, x1, x2⟩, rfl, k, l, pl, F', hk, hll, hm, hg, hs, m1, m2, m3, m5, m6, m7, m8, m9⟩
    · rintro e v ⟨z, a, n, c, ⟨rfl, k, l, pl, F', rfl, rfl, hm, hg, hs, m1, m2, m3, m5, m6, m7, m8, m9⟩, rfl, rfl⟩
      refine Or.inl ⟨h0, ?_⟩
      rw [Int.toNat_natCast, Int.toNat_natCast]
      have hn2 := (hres m1).2
      have hset : ∀ j, j ≠ w.heap.size + 1 + 1 → (set3w z (w.heap.size + 1 + 1) (.int .u64 (((stoOpen st (k : Int) (l : Int)).1.2.1 : Nat) : Int)) (.string (stoOpen st (k : Int) (l : Int)).1.2.2.1) (.slice a (stoOpen st (k : Int) (l : Int)).1.2.2.2.2.length c)).drew.heap[j]? = z.heap[j]? := fun j hj => set3w_other z _ _ _ _ j hj
      have hlz : Loc F F' w z := m1.l.two hb0 hN
      obtain ⟨k2, l2, e1, e2, q1, q2, q3, q4, q5, q6⟩ := mayS_nat hm
      have e1 : k = k2 := by omega
      have e2 : l = l2 := by omega
      subst e1 e2
      refine ⟨w.heap.size + 3, a, c, fun j => F' j ∨ j = pl ∨ j = w.heap.size + 3, rfl, ⟨pl, false, F', ⟨con.same m1.d (fun j hj => hset j (fun e => hn2 (e ▸ hj))), m3.same (hset _ (by omega)), m2.same (hset _ (by omega)), m1.np, m8, by omega, hs, fun x => absurd x (by simp), hg, ⟨q1, q2⟩, q3, q4⟩, rfl⟩, ?_, ?_, fun b off e => by have := m6 b off e; omega, m9⟩
      · have hl3 := (set3w_loc hlz (B := w.heap.size + 1 + 1) (by omega) (.int .u64 (((stoOpen st (k : Int) (l : Int)).1.2.1 : Nat) : Int)) (.string (stoOpen st (k : Int) (l : Int)).1.2.2.1) (.slice a (stoOpen st (k : Int) (l : Int)).1.2.2.2.2.length c)).drew
        exact ⟨hl3.os, hl3.tape, hl3.output, hl3.size, hl3.block, fun j hj => by
          rcases hj with hj | hj | hj
          · exact hl3.own j hj
          · exact Or.inr (by omega)
          · exact Or.inr (by omega)⟩
      · have hne : ∀ b off, a = some ⟨b, off, none⟩ → b ≠ w.heap.size + 1 + 1 := fun b off e => by have := m6 b off e; omega
        exact strs_set8 (i := 2) (strs_set8 (i := 1) (strs_set8 (i := 0) m5 hne) hne) hne
  · refine (open_no (some ⟨q, 0, none⟩) ck lg w (((stoOpen st ck lg).1.1 : Nat) : Int) (fun v => ∃ F', Bo q (w.heap.size + 3) (w.heap.size + 5) F u0 (stoOpen st ck lg).2 F' v) (by omega) ?_).mono ?_
    · rw [hu0]
      refine steps.mono ?_
      rintro e v ⟨rfl, ⟨_, F', hb⟩ | ⟨h1, _⟩⟩
      · exact ⟨rfl, (hres hb).1, F', hb⟩
      · exact absurd h1 h0
    · rintro e v ⟨z, ⟨F', hb⟩, rfl, rfl⟩
      refine Or.inr ⟨h0, rfl, F', con.same hb.d (fun j hj => set3w_other z _ _ _ _ j (fun e => (hres hb).2 (e ▸ hj))), set3w_loc (hb.l.two hb0 hN) (by omega) _ _ _⟩
theorem pOpen8 (q : Nat) (st : St) (F : Nat → Prop) (ck lg : Int) (w : World) (hD : DAt w q st F) (hok : st.Ok) (hl : st.loose.length + 3000 ≤ 8000) (h400 : st.sure.length ≤ 400) (h1 : I64 ck) (h2 : I64 lg) :
    Calls Tryz.prog 20 #[.pointer (some ⟨q, 0, none⟩), confV ck lg] w (POpened8 PSt q ck lg (stoOpen st ck lg) F w) := by
  refine (pOpen9 q st F ck lg w hD hok hl h400 h1 h2).mono ?_
  rintro e v (⟨h0, p, a, c, A, he, hp, hl, hs, hn, _⟩ | h)
  · exact Or.inl ⟨h0, p, a, c, A, he, hp, hl, hs, hn⟩
  · exact Or.inr h
end Go.Proofs.YtchhojkhfdkhfaaGreatDoor
namespace Go.Proofs.YtchhojkhfdkhfaaGreatDoor
open Go Go.RowKit Frm
theorem nfault8 (ck lg : Int) (w : World) : Calls Tryz.prog 42 #[areaV none ck lg] w fun e w' => e = .returned (.int .i64 1) ∧ Below w.heap.size w w' :=
  fault8_any none ck lg 0 (blocksC ck lg) w 1 (fun u _ => con.nsize u) (fun u => blocks8_any ck lg u) (by rw [if_pos rfl])
theorem nsteps (b c : Nat) (ck lg : Int) (vs : List Value) (u0 : World) (hn : vs.length + 1 ≤ 5000) (hrow : ∀ k (hk : k < (Value.func (.func 42) #[areaV none ck lg] #[] :: vs).length), u0.cell? ⟨b, 0 + k, none⟩ = some (Value.func (.func 42) #[areaV none ck lg] #[] :: vs)[k]) (hform : ∀ k (hk : k < (Value.func (.func 42) #[areaV none ck lg] #[] :: vs).length), SForm (Value.func (.func 42) #[areaV none ck lg] #[] :: vs)[k]) :
    Calls Tryz.prog 41 #[.slice (some ⟨b, 0, none⟩) (Value.func (.func 42) #[areaV none ck lg] #[] :: vs).length c] u0 fun e v => e = .returned (.int .i64 1) ∧ Below u0.heap.size u0 v := by
  refine (inOrder8 b 0 c (Value.func (.func 42) #[areaV none ck lg] #[] :: vs) (fun k v => k = 0 ∧ Below u0.heap.size u0 v) (fun x v => x = 1 ∧ Below u0.heap.size u0 v) u0 (by rw [List.length_cons]; exact hn) ?_ hform ?_ ⟨rfl, Below.refl _ _⟩).mono ?_
  · rintro k hk v ⟨_, hb⟩
    exact cellB9 hb (hrow k hk)
  · rintro k hk v ⟨rfl, hb⟩ n a he
    cases he
    refine calls_eq (a := #[areaV none ck lg]) rfl ((nfault8 ck lg v).mono ?_)
    rintro e z ⟨rfl, hz⟩
    exact ⟨1, rfl, Or.inr ⟨by decide, rfl, bnext hb hz⟩⟩
  · rintro e v ⟨x, rfl, ⟨_, h0, _⟩ | ⟨_, rfl, hb⟩⟩
    · rw [List.length_cons] at h0; omega
    · exact ⟨rfl, hb⟩
theorem nMake8 (ck lg : Int) (w : World) (_ : I64 ck) (_ : I64 lg) : Calls Tryz.prog 19 #[.pointer none, confV ck lg] w fun e v => e = .returned (.int .i64 1) ∧ Below w.heap.size w v := by
  refine make_wrap none ck lg w _ (fun e v h => ⟨_, h.1⟩) ?_
  intro z B1 B2 B3 B4 B5 c T hz h1 h2 h3
  have hb := one_below z (.cells #[.func (.func 42) #[areaV none ck lg] #[], .func (.func 43) #[areaV none ck lg] #[], .func (.func 76) #[] #[.pointer (some ⟨B1, 0, none⟩), .pointer (some ⟨B2, 0, none⟩)], .func (.func 79) #[] #[.pointer (some ⟨B3, 0, none⟩), .pointer (some ⟨B4, 0, none⟩), .pointer (some ⟨B5, 0, none⟩)]] T)
  have hr := heap_alloc_last z (.cells #[.func (.func 42) #[areaV none ck lg] #[], .func (.func 43) #[areaV none ck lg] #[], .func (.func 76) #[] #[.pointer (some ⟨B1, 0, none⟩), .pointer (some ⟨B2, 0, none⟩)], .func (.func 79) #[] #[.pointer (some ⟨B3, 0, none⟩), .pointer (some ⟨B4, 0, none⟩), .pointer (some ⟨B5, 0, none⟩)]] T)
  refine (nsteps z.heap.size c ck lg [.func (.func 43) #[areaV none ck lg] #[], .func (.func 76) #[] #[.pointer (some ⟨B1, 0, none⟩), .pointer (some ⟨B2, 0, none⟩)], .func (.func 79) #[] #[.pointer (some ⟨B3, 0, none⟩), .pointer (some ⟨B4, 0, none⟩), .pointer (some ⟨B5, 0, none⟩)]] _ (show (4 : Nat) ≤ 5000 by decide) ?_ ?_).mono ?_
  · intro k hk
    match k, hk with
    | 0, _ => exact (cell_of_row _ _ 0 _ _ _ hr).trans rfl
    | 1, _ => exact (cell_of_row _ _ 1 _ _ _ hr).trans rfl
    | 2, _ => exact (cell_of_row _ _ 2 _ _ _ hr).trans rfl
    | 3, _ => exact (cell_of_row _ _ 3 _ _ _ hr).trans rfl
  · intro k hk
    match k, hk with
    | 0, _ => exact Or.inl ⟨_, rfl⟩
    | 1, _ => exact Or.inr (Or.inl ⟨_, rfl⟩)
    | 2, _ => exact Or.inr (Or.inr (Or.inl ⟨_, _, rfl⟩))
    | 3, _ => exact Or.inr (Or.inr (Or.inr (Or.inl ⟨_, _, _, rfl⟩)))
  · rintro e v ⟨rfl, hv⟩
    exact ⟨⟨rfl, bnext (bnext hz.below hb) hv⟩, (hz.a.below hb).below hv⟩
theorem nOpen8 (ck lg : Int) (w : World) (_ : I64 ck) (_ : I64 lg) : Calls Tryz.prog 20 #[.pointer none, confV ck lg] w fun e v => e = .returned (.tuple #[.pointer none, .agg #[.int .u64 0, .string ⟨#[]⟩, .slice none 0 0], .int .i64 1]) ∧ Below w.heap.size w v := by
  obtain ⟨hin, hbw, hsz⟩ := OW_in w none ck lg
  have hb1 := one_below (OW w none ck lg) (.cells (oFns w none ck lg) 106)
  have hb0 := bnext hbw hb1
  have hrow : ((OW w none ck lg).alloc (.cells (oFns w none ck lg) 106)).heap[w.heap.size + 1 + 1 + 1 + 1 + 1 + 1]? = some (.cells (oFns w none ck lg) 106 (0, 0)) := by rw [← hsz]; exact heap_alloc_last _ _
  refine (open_no none ck lg w 1 (fun v => Below w.heap.size w v) (by decide) ?_).mono ?_
  · refine (nsteps (w.heap.size + 1 + 1 + 1 + 1 + 1 + 1) 3 ck lg [.func (.func 46) #[] #[.pointer (some ⟨w.heap.size, 0, none⟩), .pointer (some ⟨w.heap.size + 1 + 1 + 1 + 1, 0, none⟩), .pointer (some ⟨w.heap.size + 1 + 1 + 1 + 1 + 1, 0, none⟩)], .func (.func 49) #[] #[.pointer (some ⟨w.heap.size + 1 + 1 + 1 + 1, 0, none⟩), .pointer (some ⟨w.heap.size + 1 + 1 + 1 + 1 + 1, 0, none⟩)]] _ (show (3 : Nat) ≤ 5000 by decide) ?_ ?_).mono ?_
    · intro k hk
      match k, hk with
      | 0, _ => exact (cell_of_row _ _ 0 _ _ _ hrow).trans rfl
      | 1, _ => exact (cell_of_row _ _ 1 _ _ _ hrow).trans rfl
      | 2, _ => exact (cell_of_row _ _ 2 _ _ _ hrow).trans rfl
    · intro k hk
      match k, hk with
      | 0, _ => exact Or.inl ⟨_, rfl⟩
      | 1, _ => exact Or.inr (Or.inr (Or.inr (Or.inr (Or.inl ⟨_, _, _, rfl⟩))))
      | 2, _ => exact Or.inr (Or.inr (Or.inr (Or.inr (Or.inr (Or.inl ⟨_, _, rfl⟩)))))
    · rintro e v ⟨rfl, hv⟩
      exact ⟨rfl, ((hin.below hb1).below hv).res, bnext hb0 hv⟩
  · rintro e v ⟨z, hz, rfl, rfl⟩
    exact ⟨rfl, ((hz.setCell (p := ⟨w.heap.size + 1 + 1, 0, none⟩) (by show w.heap.size ≤ w.heap.size + 1 + 1; omega) _).setCell (p := ⟨w.heap.size + 1 + 1, 1, none⟩) (by show w.heap.size ≤ w.heap.size + 1 + 1; omega) _).setCell (p := ⟨w.heap.size + 1 + 1, 2, none⟩) (by show w.heap.size ≤ w.heap.size + 1 + 1; omega) _⟩
set_option maxHeartbeats 400000 in
theorem nRoom8 (w : World) : Calls Tryz.prog 18 #[.pointer none] w fun e v => e = .returned (.int .i64 0) ∧ Below w.heap.size w v := by
  have HF := hide (sfault_nil w)
  go_enter Tryz.func18, Tryz.ntmps18
  go_wp2_with fail
  refine HF.out.mono ?_
  rintro e w1 ⟨rfl, rfl⟩
  go_wp2
  go_ret
  exact ⟨rfl, Below.refl _ _⟩
/-- The program's stores are what the laws ask. -/
theorem con8 : SCon PSt where
  lt := fun {u p q ck lg s st A} h k hk => by
    obtain ⟨l, b, G, h, rfl⟩ := h
    rcases hk with hk | hk | hk
    · exact con.lt h.d k hk
    · rw [hk]; exact h.log.lt
    · rw [hk]; exact h.c.lt
  same := fun {u v p q ck lg s st A} h hs => by
    obtain ⟨l, b, G, h, rfl⟩ := h
    exact ⟨l, b, G, h.same hs, rfl⟩
  disk := fun {u p q ck lg s st A} h => by
    obtain ⟨l, b, G, h, rfl⟩ := h
    exact ⟨G, h.d, fun k hk => Or.inl hk, fun v st2 G2 hd hl => ⟨_, ⟨l, b, G2, h.disk hd hl, rfl⟩, hl.pair⟩⟩
  blocks := fun ck lg u _ _ => blocks8_any ck lg u
  make := fun q st F ck lg u hD hok hl h4 h1 h2 => pMake8 q st F ck lg u hD hok hl h4 h1 h2
  opens := fun q st F ck lg u hD hok hl h4 h1 h2 => pOpen8 q st F ck lg u hD hok hl h4 h1 h2
  append := fun p q ck lg s t st A u h hok hl hc hn ht => pAppend8 p q ck lg s t st A u h hok hl hc hn ht hok
  sync := fun p q ck lg s st A u h hok hl => pSync8 p q ck lg s st A u h hok hl
  trim := fun p q ck lg s t st A u h hok hl hc hn ht _ => pTrim8 p q ck lg s t st A u h hok hl hc hn ht
  gen := fun p q ck lg s st A u h => by
    obtain ⟨l, b, G, h, rfl⟩ := h
    refine (gen_any p l q ck lg s.gen s.broken u h.c).mono ?_
    rintro e v ⟨rfl, rfl⟩
    exact ⟨rfl, Below.refl _ _⟩
  room := fun p q ck lg s st A u h => by
    obtain ⟨l, b, G, h, rfl⟩ := h
    refine sroom_any p l q ck lg s.gen s.broken u _ h.c (sfault_any p l q ck lg s.gen s.broken u h.c) (fun v hv => ?_)
    refine (room_any l q (lo ck lg s.gen) lg s.str b v (h.log.same (hv.block l h.log.lt)) (by have := h.conf; omega) h.sz).mono ?_
    rintro e z ⟨rfl, n, rfl⟩
    exact ⟨rfl, below_drewN (Below.refl _ _) n⟩
  nmake := nMake8
  nopen := nOpen8
  nappend := fun t u => by
    refine append_wrap none t u _ (fun e v h => ⟨_, h.1⟩) ((guarded_nil _ _ (sfault_nil _)).mono ?_)
    rintro e v ⟨rfl, rfl⟩
    exact ⟨rfl, grow2 u _ _⟩
  nsync := fun u => by
    refine sync_wrap none u _ (fun e v h => ⟨_, h.1⟩) ((guarded_nil _ _ (sfault_nil _)).mono ?_)
    rintro e v ⟨rfl, rfl⟩
    exact ⟨rfl, one_below u _⟩
  ntrim := fun t u => by
    refine trim_wrap none t u _ (fun e v h => ⟨_, h.1⟩) ((guarded_nil _ _ (sfault_nil _)).mono ?_)
    rintro e v ⟨rfl, rfl⟩
    exact ⟨rfl, grow2 u _ _⟩
  ngen := fun u => by
    refine (gen_nil8 u).mono ?_
    rintro e v ⟨rfl, rfl⟩
    exact ⟨rfl, Below.refl _ _⟩
  nroom := nRoom8
end Go.Proofs.YtchhojkhfdkhfaaGreatDoor
namespace Go.Proofs.YtchhojkhfdkhfaaGreatDoor
open Go Go.RowKit Frm Go.Shelf
theorem info23 : (Tryz.prog.info? 23).map (·.size) = some 2 := by kernel_rfl
theorem small_any (w : World) : Calls Tryz.prog 28 #[] w fun e v => e = .returned (confV 2 2) ∧ Below w.heap.size w v := by
  go_enter Tryz.func28, Tryz.ntmps28
  go_wp2
  exact bodyPost_ret (results_cell_row Tryz.results28 _ _ w.heap.size 23 _ (0, 0) _ rfl (heap_alloc_last w _) Tryz.underlying23 rfl info23) rfl ⟨rfl, one_below _ _⟩
/-- The box of what is kept. -/
structure Bk (w : World) (B : Nat) (u : World) : Prop where
  low : w.heap.size ≤ B
  box : ∃ v0 v1 v2, u.heap[B]? = some (.cells #[v0, v1, v2] 61 (0, 0))
theorem Bk.lt {w : World} {B : Nat} {u : World} (h : Bk w B u) : B < u.heap.size := by
  obtain ⟨_, v0, v1, v2, h⟩ := h
  exact (Array.getElem?_eq_some_iff.1 h).1
theorem Bk.below {w : World} {B : Nat} {u v : World} (h : Bk w B u) (hb : Below u.heap.size u v) : Bk w B v := ⟨h.low, by
  obtain ⟨v0, v1, v2, e⟩ := h.box
  exact ⟨v0, v1, v2, (hb.block B h.lt).trans e⟩⟩
theorem Bk.loc {w : World} {B : Nat} {u v : World} {A A' : Nat → Prop} (h : Bk w B u) (hn : ¬ A B) (hl : Loc A A' u v) : Bk w B v ∧ ¬ A' B := by
  refine ⟨⟨h.low, ?_⟩, fun hf => ?_⟩
  · obtain ⟨v0, v1, v2, e⟩ := h.box
    exact ⟨v0, v1, v2, (hl.block B h.lt hn).trans e⟩
  · rcases hl.own B hf with h1 | h1
    · exact hn h1
    · have := h.lt; omega
theorem Bk.cells {w : World} {B : Nat} {u : World} (h : Bk w B u) : ∃ v0 v1 v2, (u.cell? ⟨B, 0, none⟩ = some v0 ∧ u.cell? ⟨B, 1, none⟩ = some v1 ∧ u.cell? ⟨B, 2, none⟩ = some v2) ∧ ∀ i, u.frozen? ⟨B, i, none⟩ = false := by
  obtain ⟨v0, v1, v2, e⟩ := h.box
  refine ⟨v0, v1, v2, ⟨?_, ?_, ?_⟩, fun i => by simp [World.frozen?, e]⟩ <;> simp [World.cell?, e]
theorem Bk.set {w : World} {B : Nat} {u : World} (h : Bk w B u) (x y z : Value) : Bk w B (((u.setCell ⟨B, 0, none⟩ x).setCell ⟨B, 1, none⟩ y).setCell ⟨B, 2, none⟩ z) := ⟨h.low, by
  obtain ⟨v0, v1, v2, e⟩ := h.box
  exact ⟨x, y, z, heap_set3 (i := 2) (heap_set3 (i := 1) (heap_set3 (i := 0) e x) y) z⟩⟩
theorem set3_block (u : World) (B : Nat) (x y z : Value) (k : Nat) (h : k ≠ B) : (((u.setCell ⟨B, 0, none⟩ x).setCell ⟨B, 1, none⟩ y).setCell ⟨B, 2, none⟩ z).heap[k]? = u.heap[k]? := by
  rw [Below.heap_setCell _ ⟨B, 2, none⟩ z k h, Below.heap_setCell _ ⟨B, 1, none⟩ y k h, Below.heap_setCell _ ⟨B, 0, none⟩ x k h]
theorem set3_below {w u : World} (h : Below w.heap.size w u) (B : Nat) (hB : w.heap.size ≤ B) (x y z : Value) : Below w.heap.size w (((u.setCell ⟨B, 0, none⟩ x).setCell ⟨B, 1, none⟩ y).setCell ⟨B, 2, none⟩ z) :=
  ((h.setCell (p := ⟨B, 0, none⟩) hB x).setCell (p := ⟨B, 1, none⟩) hB y).setCell (p := ⟨B, 2, none⟩) hB z
/-- A disk of the caller's own, and the box. -/
structure Ak (w : World) (q : Nat) (st : St) (F : Nat → Prop) (B : Nat) (u : World) : Prop where
  al : Al8 w q st F u
  bx : Bk w B u
  free : ¬ F B
/-- A store of the caller's own, and the box. -/
structure Sk (PS : World → Nat → Nat → Nat → Nat → Sto → St → (Nat → Prop) → Prop) (w : World) (p q : Nat) (s : Sto) (st : St) (A : Nat → Prop) (B : Nat) (u : World) : Prop where
  sl : Sl8 PS w p q 2 2 s st A u
  bx : Bk w B u
  free : ¬ A B
theorem Ak.step {w : World} {q : Nat} {st st' : St} {F F' : Nat → Prop} {B : Nat} {u v : World} (h : Ak w q st F B u) (hd : DAt v q st' F') (hl : Loc F F' u v) : Ak w q st' F' B v :=
  ⟨h.al.step hd hl, (h.bx.loc h.free hl).1, (h.bx.loc h.free hl).2⟩
theorem Ak.keep {w : World} {q : Nat} {st : St} {F : Nat → Prop} {B : Nat} {u v : World} (h : Ak w q st F B u) (hb : Below u.heap.size u v) : Ak w q st F B v := ⟨h.al.keep hb, h.bx.below hb, h.free⟩
theorem Ak.opened {PS : World → Nat → Nat → Nat → Nat → Sto → St → (Nat → Prop) → Prop} {w : World} {p q : Nat} {s : Sto} {st st' : St} {F A : Nat → Prop} {B : Nat} {u v : World} (h : Ak w q st F B u) (hd : PS v p q 2 2 s st' A) (hl : Loc F A u v) : Sk PS w p q s st' A B v :=
  ⟨h.al.opened hd hl, (h.bx.loc h.free hl).1, (h.bx.loc h.free hl).2⟩
theorem Sk.step {PS : World → Nat → Nat → Nat → Nat → Sto → St → (Nat → Prop) → Prop} {w : World} {p q : Nat} {s s' : Sto} {st st' : St} {A A' : Nat → Prop} {B : Nat} {u v : World} (h : Sk PS w p q s st A B u) (hd : PS v p q 2 2 s' st' A') (hl : Loc A A' u v) : Sk PS w p q s' st' A' B v :=
  ⟨h.sl.step hd hl, (h.bx.loc h.free hl).1, (h.bx.loc h.free hl).2⟩
theorem Sk.disk {PS : World → Nat → Nat → Nat → Nat → Sto → St → (Nat → Prop) → Prop} (C : SCon PS) {w : World} {p q : Nat} {s : Sto} {st : St} {A : Nat → Prop} {B : Nat} {u : World} (h : Sk PS w p q s st A B u) : ∃ G, Ak w q st G B u := by
  obtain ⟨G, h1, h2, _⟩ := C.disk h.sl.sto
  exact ⟨G, ⟨h1, h.sl.below, fun k hk => h.sl.new k (h2 k hk)⟩, h.bx, fun hf => h.free (h2 _ hf)⟩
theorem Sk.start {PS : World → Nat → Nat → Nat → Nat → Sto → St → (Nat → Prop) → Prop} (C : SCon PS) {w : World} {p q : Nat} {s : Sto} {st : St} {A : Nat → Prop} {u : World} (h : Sl8 PS w p q 2 2 s st A u) (x y z : Value) : Sk PS w p q s st A u.heap.size (u.alloc (.cells #[x, y, z] 61)) :=
  ⟨⟨C.below h.sto (one_below _ _), bnext h.below (one_below _ _), h.new⟩, ⟨h.below.size, x, y, z, heap_alloc_last u _⟩, fun hf => Nat.lt_irrefl _ (C.lt h.sto _ hf)⟩
theorem Sk.set {PS : World → Nat → Nat → Nat → Nat → Sto → St → (Nat → Prop) → Prop} (C : SCon PS) {w : World} {p q : Nat} {s : Sto} {st : St} {A : Nat → Prop} {B : Nat} {u : World} (h : Sk PS w p q s st A B u) (x y z : Value) : Sk PS w p q s st A B (((u.setCell ⟨B, 0, none⟩ x).setCell ⟨B, 1, none⟩ y).setCell ⟨B, 2, none⟩ z) :=
  ⟨⟨C.same h.sl.sto (fun k hk => set3_block u B x y z k (fun e => h.free (e ▸ hk))), set3_below h.sl.below B h.bx.low x y z, h.sl.new⟩, h.bx.set x y z, h.free⟩
set_option maxRecDepth 10000 in
set_option maxHeartbeats 4000000 in
theorem alive8_any {PS : World → Nat → Nat → Nat → Nat → Sto → St → (Nat → Prop) → Prop} (C : SCon PS) (w : World) : Calls Tryz.prog 9 #[] w fun e w' => e = .returned (.bool true) ∧ Below w.heap.size w w' := by
  obtain ⟨st1, st2, st3, st4, st5, st6, st7, st8, st9, st10, H⟩ := chain
  have K1 := hide (con.new 8 w (by decide) (by decide))
  have KS : Hid (∀ q st F u, Al8 w q st F u → Calls Tryz.prog 28 #[] u fun e v => e = .returned (confV 2 2) ∧ Al8 w q st F v) := fun q st F u h => by
    refine (small_any u).mono ?_
    rintro e v ⟨rfl, hb⟩
    exact ⟨rfl, h.keep hb⟩
  have KS2 : Hid (∀ q st F B u, Ak w q st F B u → Calls Tryz.prog 28 #[] u fun e v => e = .returned (confV 2 2) ∧ Ak w q st F B v) := fun q st F B u h => by
    refine (small_any u).mono ?_
    rintro e v ⟨rfl, hb⟩
    exact ⟨rfl, h.keep hb⟩
  have KB : Hid (∀ q st F u, Al8 w q st F u → Calls Tryz.prog 6 #[confV 2 2] u fun e v => e = .returned (.int .i64 8) ∧ Al8 w q st F v) := fun q st F u h => by
    refine (C.blocks 2 2 u (by decide) (by decide)).mono ?_
    rintro e v ⟨rfl, hb⟩
    exact ⟨rfl, h.keep hb⟩
  have KM1 : Hid (∀ q F u, Al8 w q (St.new 8) F u → Calls Tryz.prog 19 #[.pointer (some ⟨q, 0, none⟩), confV 2 2] u fun e v => e = .returned (.int .i64 0) ∧ ∃ F', Al8 w q st1 F' v) := fun q F u h => by
    have := C.make q (St.new 8) F 2 2 u h.disk (St.Ok.new (by decide) (by decide)) (by decide) (by decide) (by decide) (by decide)
    rw [show stoMake (St.new 8) 2 2 = (0, st1) from H.m1] at this
    refine this.mono ?_
    rintro e v ⟨rfl, F', hd, hl⟩
    exact ⟨rfl, F', h.step hd hl⟩
  have KM2 : Hid (∀ q F u, Al8 w q st1 F u → Calls Tryz.prog 19 #[.pointer (some ⟨q, 0, none⟩), confV 2 2] u fun e v => e = .returned (.int .i64 7) ∧ ∃ F', Al8 w q st1 F' v) := fun q F u h => by
    have := C.make q st1 F 2 2 u h.disk H.g1.ok (by have := H.g1.few; omega) (by rw [H.g1.long]; decide) (by decide) (by decide)
    rw [show stoMake st1 2 2 = (7, st1) from H.m2] at this
    refine this.mono ?_
    rintro e v ⟨rfl, F', hd, hl⟩
    exact ⟨rfl, F', h.step hd hl⟩
  have KO : ∀ (st st' : St) (g : Nat) (x : ByteArray) (rs : List ByteArray), G8 st → stoOpen st 2 2 = ((0, g, x, cat rs, rs), st') →
      Hid (∀ q F u, Al8 w q st F u → Calls Tryz.prog 20 #[.pointer (some ⟨q, 0, none⟩), confV 2 2] u fun e v => ∃ pp a c A, e = .returned (.tuple #[.pointer (some ⟨pp, 0, none⟩), .agg #[.int .u64 (g : Int), .string x, .slice a rs.length c], .int .i64 0]) ∧ Sl8 PS w pp q 2 2 ⟨g, cat rs, false⟩ st' A v ∧ StrsAt v a rs) := fun st st' g x rs hg eo q F u h => by
    have := C.opens q st F 2 2 u h.disk hg.ok (by have := hg.few; omega) (by have := hg.long; omega) (by decide) (by decide)
    rw [eo] at this
    refine this.mono ?_
    rintro e v (⟨_, pp, a, c, A, rfl, hd, hl, hs, _⟩ | ⟨h0, _⟩)
    · exact ⟨pp, a, c, A, rfl, h.opened hd hl, hs⟩
    · exact absurd rfl h0
  have KOk : ∀ (st st' : St) (g : Nat) (x : ByteArray) (rs : List ByteArray), G8 st → stoOpen st 2 2 = ((0, g, x, cat rs, rs), st') →
      Hid (∀ q F B u, Ak w q st F B u → Calls Tryz.prog 20 #[.pointer (some ⟨q, 0, none⟩), confV 2 2] u fun e v => ∃ pp a c A, e = .returned (.tuple #[.pointer (some ⟨pp, 0, none⟩), .agg #[.int .u64 (g : Int), .string x, .slice a rs.length c], .int .i64 0]) ∧ Sk PS w pp q ⟨g, cat rs, false⟩ st' A B v ∧ StrsAt v a rs ∧ ∀ b off, a = some ⟨b, off, none⟩ → B < b) := fun st st' g x rs hg eo q F B u h => by
    have := C.opens q st F 2 2 u h.al.disk hg.ok (by have := hg.few; omega) (by have := hg.long; omega) (by decide) (by decide)
    rw [eo] at this
    refine this.mono ?_
    rintro e v (⟨_, pp, a, c, A, rfl, hd, hl, hs, hn⟩ | ⟨h0, _⟩)
    · exact ⟨pp, a, c, A, rfl, h.opened hd hl, hs, fun b off e => Nat.lt_of_lt_of_le h.bx.lt (hn b off e)⟩
    · exact absurd rfl h0
  have KO1 : Hid (∀ q F u, Al8 w q st1 F u → Calls Tryz.prog 20 #[.pointer (some ⟨q, 0, none⟩), confV 2 2] u fun e v => ∃ pp a c A, e = .returned (.tuple #[.pointer (some ⟨pp, 0, none⟩), .agg #[.int .u64 1, .string ⟨#[]⟩, .slice a 0 c], .int .i64 0]) ∧ Sl8 PS w pp q 2 2 ⟨1, cat [], false⟩ st2 A v ∧ StrsAt v a []) := KO st1 st2 1 noText [] H.g1 H.o1
  have KO2 : Hid (∀ q F B u, Ak w q (st5.crash []) F B u → Calls Tryz.prog 20 #[.pointer (some ⟨q, 0, none⟩), confV 2 2] u fun e v => ∃ pp a c A, e = .returned (.tuple #[.pointer (some ⟨pp, 0, none⟩), .agg #[.int .u64 1, .string ⟨#[]⟩, .slice a 1 c], .int .i64 0]) ∧ Sk PS w pp q ⟨1, cat [aT], false⟩ st6 A B v ∧ StrsAt v a [aT] ∧ ∀ b off, a = some ⟨b, off, none⟩ → B < b) := KOk (st5.crash []) st6 1 noText [aT] H.c5 H.o2
  have KO3 : Hid (∀ q F B u, Ak w q (st9.crash []) F B u → Calls Tryz.prog 20 #[.pointer (some ⟨q, 0, none⟩), confV 2 2] u fun e v => ∃ pp a c A, e = .returned (.tuple #[.pointer (some ⟨pp, 0, none⟩), .agg #[.int .u64 2, .string ⟨#[120, 121]⟩, .slice a 1 c], .int .i64 0]) ∧ Sk PS w pp q ⟨2, cat [cT8], false⟩ st10 A B v ∧ StrsAt v a [cT8] ∧ ∀ b off, a = some ⟨b, off, none⟩ → B < b) := KOk (st9.crash []) st10 2 xyT [cT8] H.c9 H.o3
  have KA : ∀ (st st' : St) (s s' : Sto) (t : ByteArray), G8 st → t.size ≤ 65536 → stoAppend st 2 2 s t = (0, s', st') →
      Hid (∀ pp q A B u, Sk PS w pp q s st A B u → Calls Tryz.prog 22 #[.pointer (some ⟨pp, 0, none⟩), .string t] u fun e v => e = .returned (.int .i64 0) ∧ ∃ A', Sk PS w pp q s' st' A' B v) := fun st st' s s' t hh ht ea pp q A B u h => by
    have := C.append pp q 2 2 s t st A u h.sl.sto hh.ok (by have := hh.few; omega) (by rw [hh.long]; exact conf82) (by decide) ht
    rw [ea] at this
    refine this.mono ?_
    rintro e v ⟨rfl, A', hd, hl⟩
    exact ⟨rfl, A', h.step hd hl⟩
  have KY : ∀ (st st' : St) (s s' : Sto), G8 st → stoSync st s = (0, s', st') →
      Hid (∀ pp q A B u, Sk PS w pp q s st A B u → Calls Tryz.prog 23 #[.pointer (some ⟨pp, 0, none⟩)] u fun e v => e = .returned (.int .i64 0) ∧ ∃ A', Sk PS w pp q s' st' A' B v) := fun st st' s s' hh ea pp q A B u h => by
    have := C.sync pp q 2 2 s st A u h.sl.sto hh.ok (by have := hh.few; omega)
    rw [ea] at this
    refine this.mono ?_
    rintro e v ⟨rfl, A', hd, hl⟩
    exact ⟨rfl, A', h.step hd hl⟩
  have KT : ∀ (st st' : St) (s s' : Sto) (t : ByteArray), G8 st → t.size ≤ 65536 → s.gen < 18446744073709551616 → stoTrim st 2 2 s t = (0, s', st') →
      Hid (∀ pp q A B u, Sk PS w pp q s st A B u → Calls Tryz.prog 24 #[.pointer (some ⟨pp, 0, none⟩), .string t] u fun e v => e = .returned (.int .i64 0) ∧ ∃ A', Sk PS w pp q s' st' A' B v) := fun st st' s s' t hh ht hg ea pp q A B u h => by
    have := C.trim pp q 2 2 s t st A u h.sl.sto hh.ok (by have := hh.few; omega) (by rw [hh.long]; exact conf82) (by decide) ht hg
    rw [ea] at this
    refine this.mono ?_
    rintro e v ⟨rfl, A', hd, hl⟩
    exact ⟨rfl, A', h.step hd hl⟩
  have KC : ∀ (st : St), G8 st →
      Hid (∀ q F B u, Ak w q st F B u → Calls Tryz.prog 26 #[.pointer (some ⟨q, 0, none⟩), .slice none 0 0] u fun e v => e = .returned (.int .i64 0) ∧ ∃ F', Ak w q (st.crash []) F' B v) := fun st hh q F B u h => by
    refine (con.crash q st F none 0 [] u h.al.disk hh.ok (by have := hh.few; omega) (Or.inl rfl) (fun h => absurd rfl h) (by decide) (by simp)).mono ?_
    rintro e v ⟨rfl, F', hd, hl⟩
    exact ⟨rfl, F', h.step hd hl⟩
  have KA1 : Hid (∀ pp q A B u, Sk PS w pp q ⟨1, cat [], false⟩ st2 A B u → Calls Tryz.prog 22 #[.pointer (some ⟨pp, 0, none⟩), .string ⟨#[97]⟩] u fun e v => e = .returned (.int .i64 0) ∧ ∃ A', Sk PS w pp q ⟨1, cat [aT], false⟩ st3 A' B v) := KA st2 st3 _ _ aT H.g2 (by decide) H.a1
  have KY1 : Hid (∀ pp q A B u, Sk PS w pp q ⟨1, cat [aT], false⟩ st3 A B u → Calls Tryz.prog 23 #[.pointer (some ⟨pp, 0, none⟩)] u fun e v => e = .returned (.int .i64 0) ∧ ∃ A', Sk PS w pp q ⟨1, cat [aT], false⟩ st4 A' B v) := KY st3 st4 _ _ H.g3 H.y1
  have KA2 : Hid (∀ pp q A B u, Sk PS w pp q ⟨1, cat [aT], false⟩ st4 A B u → Calls Tryz.prog 22 #[.pointer (some ⟨pp, 0, none⟩), .string ⟨#[98]⟩] u fun e v => e = .returned (.int .i64 0) ∧ ∃ A', Sk PS w pp q ⟨1, cat [aT, bT8], false⟩ st5 A' B v) := KA st4 st5 _ _ bT8 H.g4 (by decide) H.a2
  have KC1 := KC st5 H.g5
  have KT1 : Hid (∀ pp q A B u, Sk PS w pp q ⟨1, cat [aT], false⟩ st6 A B u → Calls Tryz.prog 24 #[.pointer (some ⟨pp, 0, none⟩), .string ⟨#[120, 121]⟩] u fun e v => e = .returned (.int .i64 0) ∧ ∃ A', Sk PS w pp q ⟨2, cat [], false⟩ st7 A' B v) := KT st6 st7 _ _ xyT H.g6 (by decide) (by decide) H.t1
  have KA3 : Hid (∀ pp q A B u, Sk PS w pp q ⟨2, cat [], false⟩ st7 A B u → Calls Tryz.prog 22 #[.pointer (some ⟨pp, 0, none⟩), .string ⟨#[99]⟩] u fun e v => e = .returned (.int .i64 0) ∧ ∃ A', Sk PS w pp q ⟨2, cat [cT8], false⟩ st8 A' B v) := KA st7 st8 _ _ cT8 H.g7 (by decide) H.a3
  have KY2 : Hid (∀ pp q A B u, Sk PS w pp q ⟨2, cat [cT8], false⟩ st8 A B u → Calls Tryz.prog 23 #[.pointer (some ⟨pp, 0, none⟩)] u fun e v => e = .returned (.int .i64 0) ∧ ∃ A', Sk PS w pp q ⟨2, cat [cT8], false⟩ st9 A' B v) := KY st8 st9 _ _ H.g8 H.y2
  have KC2 := KC st9 H.g9
  clear KO KOk KA KY KT KC H
  go_enter Tryz.func9, Tryz.ntmps9
  go_wp2_with fail
  refine K1.out.mono ?_
  rintro e w1 ⟨q, F1, rfl, hd1, hF1, hb1⟩
  have A1 := hide (Al8.mk (st := St.new 8) hd1 hb1 hF1)
  clear hd1 hF1 hb1
  go_wp2_with fail
  refine (KS.out _ _ _ _ A1.out).mono ?_
  rintro e w2 ⟨rfl, hA2⟩
  have A2 := hide hA2
  clear hA2
  go_wp2_with fail
  refine (KB.out _ _ _ _ A2.out).mono ?_
  rintro e w3 ⟨rfl, hA3⟩
  have A3 := hide hA3
  clear hA3
  go_wp2_with fail
  refine (KS.out _ _ _ _ A3.out).mono ?_
  rintro e w4 ⟨rfl, hA4⟩
  have A4 := hide hA4
  clear hA4
  go_wp2_with fail
  refine (KM1.out _ _ _ A4.out).mono ?_
  rintro e w5 ⟨rfl, F5, hA5⟩
  have A5 := hide hA5
  clear hA5
  go_wp2_with fail
  refine (KS.out _ _ _ _ A5.out).mono ?_
  rintro e w6 ⟨rfl, hA6⟩
  have A6 := hide hA6
  clear hA6
  go_wp2_with fail
  refine (KM2.out _ _ _ A6.out).mono ?_
  rintro e w7 ⟨rfl, F7, hA7⟩
  have A7 := hide hA7
  clear hA7
  go_wp2_with fail
  refine (KS.out _ _ _ _ A7.out).mono ?_
  rintro e w8 ⟨rfl, hA8⟩
  have A8 := hide hA8
  clear hA8
  go_wp2_with fail
  refine (KO1.out _ _ _ A8.out).mono ?_
  rintro e w9 ⟨p1, a1, c1, G9, rfl, hA9, -⟩
  have A9 := hide (Sk.start C hA9 (.int .u64 1) (.string ⟨#[]⟩) (.slice a1 0 c1))
  clear hA9
  go_wp2_with fail
  refine (KA1.out _ _ _ _ _ A9.out).mono ?_
  rintro e w10 ⟨rfl, G10, hA10⟩
  have A10 := hide hA10
  clear hA10
  go_wp2_with fail
  refine (KY1.out _ _ _ _ _ A10.out).mono ?_
  rintro e w11 ⟨rfl, G11, hA11⟩
  have A11 := hide hA11
  clear hA11
  go_wp2_with fail
  refine (KA2.out _ _ _ _ _ A11.out).mono ?_
  rintro e w12 ⟨rfl, G12, hA12⟩
  have A12 := hide hA12
  clear hA12
  go_wp2_with fail
  obtain ⟨F13, hD13⟩ := A12.out.disk C
  refine (KC1.out _ _ _ _ hD13).mono ?_
  clear hD13
  rintro e w13 ⟨rfl, G13, hA13⟩
  have A13 := hide hA13
  clear hA13
  go_wp2_with fail
  refine (KS2.out _ _ _ _ _ A13.out).mono ?_
  rintro e w14 ⟨rfl, hA14⟩
  have A14 := hide hA14
  clear hA14
  go_wp2_with fail
  refine (KO2.out _ _ _ _ A14.out).mono ?_
  rintro e w15 ⟨p15, a15, c15, G15, rfl, hA15, hs15, hn15⟩
  have A15 := hide (fun x y z => hA15.set C x y z)
  obtain ⟨u15, u151, u152, ⟨k150, k151, k152⟩, f15⟩ := hA15.bx.cells
  have f150 := f15 0
  have f151 := f15 1
  have f152 := f15 2
  clear hA15 f15
  rcases hs15 with h0 | ⟨b15, o15, rfl, hc15⟩
  · exact absurd h0 (by simp)
  have x15 : w15.cell? ⟨b15, o15, none⟩ = some (.string ⟨#[97]⟩) := hc15 0 (by decide)
  have n15 : ¬ w9.heap.size = b15 := by have := hn15 _ _ rfl; omega
  have m15 : ¬ b15 = w9.heap.size := by have := hn15 _ _ rfl; omega
  clear hc15 hn15
  go_wp2_with fail
  refine (KT1.out _ _ _ _ _ (A15.out _ _ _)).mono ?_
  rintro e w16 ⟨rfl, G16, hA16⟩
  have A16 := hide hA16
  clear hA16
  go_wp2_with fail
  refine (KA3.out _ _ _ _ _ A16.out).mono ?_
  rintro e w17 ⟨rfl, G17, hA17⟩
  have A17 := hide hA17
  clear hA17
  go_wp2_with fail
  refine (KY2.out _ _ _ _ _ A17.out).mono ?_
  rintro e w18 ⟨rfl, G18, hA18⟩
  have A18 := hide hA18
  clear hA18
  go_wp2_with fail
  obtain ⟨F19, hD19⟩ := A18.out.disk C
  refine (KC2.out _ _ _ _ hD19).mono ?_
  clear hD19
  rintro e w19 ⟨rfl, G19, hA19⟩
  have A19 := hide hA19
  clear hA19
  go_wp2_with fail
  refine (KS2.out _ _ _ _ _ A19.out).mono ?_
  rintro e w20 ⟨rfl, hA20⟩
  have A20 := hide hA20
  clear hA20
  go_wp2_with fail
  refine (KO3.out _ _ _ _ A20.out).mono ?_
  rintro e w21 ⟨p21, a21, c21, G21, rfl, hA21, hs21, hn21⟩
  have A21 := hide (fun x y z => hA21.set C x y z)
  obtain ⟨u21, u211, u212, ⟨k210, k211, k212⟩, f21⟩ := hA21.bx.cells
  have f210 := f21 0
  have f211 := f21 1
  have f212 := f21 2
  clear hA21 f21
  rcases hs21 with h0 | ⟨b21, o21, rfl, hc21⟩
  · exact absurd h0 (by simp)
  have x21 : w21.cell? ⟨b21, o21, none⟩ = some (.string ⟨#[99]⟩) := hc21 0 (by decide)
  have n21 : ¬ w9.heap.size = b21 := by have := hn21 _ _ rfl; omega
  have m21 : ¬ b21 = w9.heap.size := by have := hn21 _ _ rfl; omega
  clear hc21 hn21
  go_wp2
  go_ret
  exact ⟨rfl, (A21.out _ _ _).sl.below⟩
end Go.Proofs.YtchhojkhfdkhfaaGreatDoor
namespace Go.Proofs.YtchhojkhfdkhfaaGreatDoor
open Go Go.RowKit Frm
theorem alive_any8 (w : World) : Calls Tryz.prog 9 #[] w fun e w' => e = .returned (.bool true) ∧ Below w.heap.size w w' := alive8_any con8 w
set_option maxRecDepth 10000 in
set_option maxHeartbeats 4000000 in
theorem StoreNil_any (ck lg : Int) (t : ByteArray) (w : World) (h1 : I64 ck) (h2 : I64 lg) : Calls Tryz.prog 5 #[confV ck lg, .string t] w fun e w' => e = .returned (.bool true) ∧ Below w.heap.size w w' := by
  have KA := hide alive_any8
  have KO := hide (fun u => con8.nopen ck lg u h1 h2)
  have KM := hide (fun u => con8.nmake ck lg u h1 h2)
  have HB := hide (one_below w (.cells #[.int .i64 ck, .int .i64 lg] 23))
  have HC : Hid (∀ z, Below (w.alloc (.cells #[.int .i64 ck, .int .i64 lg] 23)).heap.size (w.alloc (.cells #[.int .i64 ck, .int .i64 lg] 23)) z → _) := conf_cells w ck lg
  obtain ⟨c0, c1⟩ := conf_cells w ck lg _ (Below.refl _ _)
  unfold confV at *
  clear h1 h2
  by_cases h : 4096 < t.size
  · go_enter Tryz.func5, Tryz.ntmps5
    go_wp2_with fail
    refine (KA.out _).mono ?_
    rintro e w1 ⟨rfl, hb1⟩
    have HB1 := hide (bnext HB.out hb1)
    clear hb1
    go_wp2
    go_ret
    exact ⟨rfl, HB1.out⟩
  · go_enter Tryz.func5, Tryz.ntmps5
    go_wp2_with fail
    generalize w.alloc (.cells #[.int .i64 ck, .int .i64 lg] 23) = W at *
    refine (KO.out _).mono ?_
    rintro e w1 ⟨rfl, hb1⟩
    have HB1 := hide hb1
    clear hb1 c0 c1
    go_wp2_with fail
    have hs2 := one_below w1 (.cells #[.int .u64 0, .string ⟨#[]⟩, .slice none 0 0] 61)
    have k0 : (w1.alloc (.cells #[.int .u64 0, .string ⟨#[]⟩, .slice none 0 0] 61)).cell? ⟨w1.heap.size, 0, none⟩ = some (.int .u64 0) := (cell_of_row _ _ 0 _ _ _ (heap_alloc_last w1 _)).trans rfl
    have HB2 := hide (bnext HB1.out hs2)
    generalize w1.alloc (.cells #[.int .u64 0, .string ⟨#[]⟩, .slice none 0 0] 61) = w2 at *
    generalize w1.heap.size = n1 at *
    have HK := hide k0
    clear hs2 k0 HB1
    refine (con8.nappend t w2).mono ?_
    rintro e w3 ⟨rfl, hb3⟩
    have HB3 := hide (bnext HB2.out hb3)
    have HK3 := hide (cellB9 hb3 HK.out)
    clear hb3
    go_wp2_with fail
    refine (con8.nsync w3).mono ?_
    rintro e w4 ⟨rfl, hb4⟩
    have HB4 := hide (bnext HB3.out hb4)
    have HK4 := hide (cellB9 hb4 HK3.out)
    clear hb4
    go_wp2_with fail
    refine (con8.ntrim t w4).mono ?_
    rintro e w5 ⟨rfl, hb5⟩
    have HB5 := hide (bnext HB4.out hb5)
    have HK5 := hide (cellB9 hb5 HK4.out)
    clear hb5
    go_wp2_with fail
    refine (con8.ngen w5).mono ?_
    rintro e w6 ⟨rfl, hb6⟩
    have HB6 := hide (bnext HB5.out hb6)
    have HK6 := hide (cellB9 hb6 HK5.out)
    clear hb6
    go_wp2_with fail
    refine (con8.nroom w6).mono ?_
    rintro e w7 ⟨rfl, hb7⟩
    have HB7 := hide (bnext HB6.out hb7)
    have k7 := cellB9 hb7 HK6.out
    obtain ⟨c0, c1⟩ := HC.out _ HB7.out
    clear hb7
    go_wp2_with fail
    refine (KM.out _).mono ?_
    rintro e w8 ⟨rfl, hb8⟩
    have HB8 := hide (bnext HB7.out hb8)
    clear hb8 k7 c0 c1
    go_wp2_with fail
    refine (KA.out _).mono ?_
    rintro e w9 ⟨rfl, hb9⟩
    have HB9 := hide (HB.out.trans ((bnext HB8.out hb9).mono HB.out.size))
    clear hb9
    go_wp2
    go_ret
    exact ⟨rfl, HB9.out⟩
end Go.Proofs.YtchhojkhfdkhfaaGreatDoor
