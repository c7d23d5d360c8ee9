/- The program's net: Ready. -/
import Derived.Test.YtdfioggeiagihaaMe13
import Derived.Test.YtdfioggeiagihaaMe3
import Derived.Deep.OwnRows
namespace Go.Proofs.Ytdfioggeiagihaa
open Go Go.RowKit

/-- What the first loop has pushed: of the first j letters those that are ready. -/
structure Pushed (st : Nt) (j : Nat) (f : Nat → Lt) (n : Nat) : Prop where
  heap : IsHeap aheadB f n
  once : Once1 f n
  all : ∀ x, Stands f n x ↔ x ∈ st.l.take j ∧ st.p x.a x.b = false
  few : n ≤ j
theorem Pushed.zero (st : Nt) (f : Nat → Lt) : Pushed st 0 f 0 :=
  ⟨fun i h0 hn => by omega, fun i j hi => by omega, fun x => ⟨fun ⟨i, hi, _⟩ => by omega, fun h => by have := h.1; rw [List.take_zero] at this; cases this⟩, Nat.le_refl _⟩
theorem take_more {l : List Lt} {j : Nat} (h : j < l.length) (x : Lt) : x ∈ l.take (j + 1) ↔ x ∈ l.take j ∨ x = l[j] := by
  rw [List.take_succ_eq_append_getElem h, List.mem_append, List.mem_singleton]
theorem Pushed.skip {st : Nt} {j : Nat} {f : Nat → Lt} {n : Nat} (h : Pushed st j f n) (hj : j < st.l.length) (hp : st.p st.l[j].a st.l[j].b = true) : Pushed st (j + 1) f n :=
  ⟨h.heap, h.once, fun x => by
    rw [h.all x, take_more hj]
    exact ⟨fun ⟨h1, h2⟩ => ⟨Or.inl h1, h2⟩, fun ⟨h1, h2⟩ => by
      rcases h1 with h3 | h3
      · exact ⟨h3, h2⟩
      · rw [h3, hp] at h2; cases h2⟩, Nat.le_succ_of_le h.few⟩
theorem stands_put {f : Nat → Lt} {n : Nat} {x : Lt} (y : Lt) : Stands (putAt f n x) (n + 1) y ↔ Stands f n y ∨ y = x := by
  unfold putAt
  constructor
  · rintro ⟨i, hi, e⟩
    dsimp only at e
    by_cases h : i = n
    · rw [if_pos h] at e; exact Or.inr e.symm
    · rw [if_neg h] at e; exact Or.inl ⟨i, by omega, e⟩
  · rintro (⟨i, hi, e⟩ | e)
    · exact ⟨i, by omega, (if_neg (by omega)).trans e⟩
    · exact ⟨n, by omega, (if_pos rfl).trans e.symm⟩
theorem once_put {f : Nat → Lt} {n : Nat} {x : Lt} (h : Once1 f n) (hx : ∀ y, Stands f n y → y.id ≠ x.id) : Once1 (putAt f n x) (n + 1) := fun i j hi hj e => by
  unfold putAt at e
  by_cases h1 : i = n
  · by_cases h2 : j = n
    · omega
    · rw [if_pos h1, if_neg h2] at e
      exact absurd e.symm (hx _ ⟨j, by omega, rfl⟩)
  · by_cases h2 : j = n
    · rw [if_neg h1, if_pos h2] at e
      exact absurd e (hx _ ⟨i, by omega, rfl⟩)
    · rw [if_neg h1, if_neg h2] at e
      exact h i j (by omega) (by omega) e
theorem Pushed.push {st : Nt} {m j : Nat} {f f' : Nat → Lt} {n : Nat} (h : Pushed st j f n) (hok : st.Ok m) (hj : j < st.l.length) (hp : st.p st.l[j].a st.l[j].b = false) (hm : Mixed (putAt f n st.l[j]) f' (n + 1)) (hh : IsHeap aheadB f' (n + 1)) : Pushed st (j + 1) f' (n + 1) := by
  refine ⟨hh, hm.on (once_put h.once (fun y hy => ?_)), fun x => ?_, Nat.succ_le_succ h.few⟩
  · have h1 := ((h.all y).1 hy).1
    obtain ⟨i, hi, e⟩ := List.mem_iff_getElem.1 h1
    rw [List.length_take] at hi
    rw [List.getElem_take] at e
    have h2 := List.pairwise_iff_getElem.1 hok.rise i j (by omega) hj (by omega)
    rw [e] at h2
    omega
  · rw [hm.st x, stands_put, h.all x, take_more hj]
    constructor
    · rintro (⟨h1, h2⟩ | h1)
      · exact ⟨Or.inl h1, h2⟩
      · rw [h1]; exact ⟨Or.inr rfl, hp⟩
    · rintro ⟨h1 | h1, h2⟩
      · exact Or.inl ⟨h1, h2⟩
      · exact Or.inr h1
theorem Pushed.end_ {st : Nt} {f : Nat → Lt} {n : Nat} (h : Pushed st st.l.length f n) : Emptied st f n [] :=
  ⟨h.heap, h.once, List.Pairwise.nil, fun _ hx => (by cases hx), fun x => by
    have := h.all x
    rw [List.take_length] at this
    rw [← this]
    exact ⟨fun h1 => h1.elim (fun h2 => by cases h2) id, Or.inr⟩⟩
theorem qField (a b c d e : Value) (w : World) : (Instr.field 41 (.agg #[a, b, c, d, e]) 0).run Try.prog w = .ok a w := by kernel_rfl
/-- The row of numbers that is handed out: those that are out, then room. -/
def idCells (out : List Lt) (k : Nat) : List Value := out.map (fun x => Value.int .u64 (x.id : Int)) ++ List.replicate k (.int .u64 0)
theorem idCells_len (out : List Lt) (k : Nat) : (idCells out k).length = out.length + k := by unfold idCells; rw [List.length_append, List.length_map, List.length_replicate]
def IdRow (u : World) (D : Nat) (out : List Lt) (k : Nat) : Prop := u.heap[D]? = some (.cells (idCells out k).toArray 29 (0, 0))
theorem made_ids (n : Nat) : madeCells #[Value.int .u64 0] n = (idCells [] n).toArray := by
  apply Array.ext
  · rw [size_madeCells]
    simp [idCells_len]
  · intro i h1 h2
    simp [madeCells, idCells, Nat.mod_one]
theorem IdRow.made (u : World) (n : Nat) : IdRow (u.alloc (.cells (madeCells #[Value.int .u64 0] n) 29)) u.heap.size [] n := by
  have := heap_alloc_last u (.cells (madeCells #[Value.int .u64 0] n) 29)
  unfold IdRow
  rw [this, made_ids]
theorem IdRow.lt {u : World} {D : Nat} {out : List Lt} {k : Nat} (h : IdRow u D out k) : D < u.heap.size := (Array.getElem?_eq_some_iff.1 h).1
theorem IdRow.same {u v : World} {D : Nat} {out : List Lt} {k : Nat} (h : IdRow u D out k) (hb : v.heap[D]? = u.heap[D]?) : IdRow v D out k := hb.trans h
theorem IdRow.free {u : World} {D : Nat} {out : List Lt} {k : Nat} (h : IdRow u D out k) (i : Nat) : u.frozen? ⟨D, i, none⟩ = false := by
  have h' : u.heap[D]? = some (.cells (idCells out k).toArray 29 (0, 0)) := h
  simp [World.frozen?, h']
theorem IdRow.cell {u : World} {D : Nat} {out : List Lt} {k : Nat} (h : IdRow u D out k) (i : Nat) : u.cell? ⟨D, i, none⟩ = (idCells out k)[i]? := by
  have h' : u.heap[D]? = some (.cells (idCells out k).toArray 29 (0, 0)) := h
  simp [World.cell?, h']
theorem IdRow.next {u : World} {D : Nat} {out : List Lt} {k : Nat} (h : IdRow u D out (k + 1)) : u.cell? ⟨D, out.length, none⟩ = some (.int .u64 0) := by
  rw [h.cell]
  unfold idCells
  rw [List.getElem?_append_right (by rw [List.length_map]; exact Nat.le_refl _), List.length_map, Nat.sub_self]
  rfl
theorem IdRow.at_ {u : World} {D : Nat} {out : List Lt} {k : Nat} (h : IdRow u D out k) (i : Nat) (hi : i < out.length) : u.cell? ⟨D, i, none⟩ = some (.int .u64 (out[i].id : Int)) := by
  rw [h.cell]
  unfold idCells
  rw [List.getElem?_append_left (by rw [List.length_map]; exact hi), List.getElem?_map, List.getElem?_eq_getElem hi]
  rfl
theorem IdRow.put {u : World} {D : Nat} {out : List Lt} {k : Nat} (h : IdRow u D out (k + 1)) (x : Lt) : IdRow (u.setCell ⟨D, out.length, none⟩ (.int .u64 (x.id : Int))) D (out ++ [x]) k := by
  unfold IdRow
  rw [heap_setAt h]
  congr 2
  have e : (idCells out (k + 1)).set out.length (.int .u64 (x.id : Int)) = idCells (out ++ [x]) k := by
    unfold idCells
    rw [List.set_append_right _ _ (by rw [List.length_map]; exact Nat.le_refl _), List.length_map, Nat.sub_self, List.replicate_succ, List.set_cons_zero, List.map_append, List.append_assoc]
    rfl
  rw [← e]
  simp
set_option maxRecDepth 10000 in
set_option maxHeartbeats 4000000 in
theorem pReady (p b : Nat) (vL : Value) (st : Nt) (m : Nat) (w : World) (h : PAt w p b vL st) (hok : st.Ok m) :
    Calls Try.prog 30 #[.pointer (some ⟨p, 0, none⟩)] w fun e w' => ∃ a c, e = .returned (.slice a st.ready.length c) ∧ IdsAt w' a st.ready ∧ Below w.heap.size w w' := by
  have H := hide h
  have HO := hide hok
  have hfew := hok.few
  obtain ⟨aL, cL, rfl, -, -, -⟩ := h.ls.slice
  obtain ⟨c0, -, -⟩ := h.cells
  have hby := hide (one_below w (.cells #[.slice none 0 0] 74))
  obtain ⟨d0, -, -⟩ := (h.below hby.out).cells
  have HB0 := hide (heap_alloc_last w (.cells #[.slice none 0 0] 74))
  clear h hok
  go_enter Try.func30, Try.ntmps30
  go_wp2_with fail
  have HH0 : Hid (HAt (w.alloc (.cells #[.slice none 0 0] 74)) w.heap.size (.slice none 0 0) (rowL (fun _ => noLt) 0)) := ⟨HB0.out, Recs.nil _ _ _ _⟩
  clear HB0 d0 c0
  generalize w.alloc (.cells #[.slice none 0 0] 74) = w0 at *
  generalize hR : w.heap.size = R at *
  have HRe := hide hR
  clear hR
  have HO0 : Hid (∀ k, HF R (.slice none 0 0) k → R ≤ k) := fun k hk => by
    rcases hk with rfl | hk
    · exact Nat.le_refl _
    · cases hk
  go_loopw [5, 15] (fun _ iv u => ∃ (j n : Nat) (f : Nat → Lt) (v : Value), iv = .int .i64 (j : Int) ∧ j ≤ st.l.length ∧ HAt u R v (rowL f n) ∧ Pushed st j f n ∧ (∀ k, HF R v k → R ≤ k) ∧ Below R w u) (fun _ iv _ => st.l.length - (intOf iv).toNat)
  case atStart => exact ⟨0, 0, fun _ => noLt, .slice none 0 0, rfl, Nat.zero_le _, HH0.out, Pushed.zero st _, HO0.out, hby.out⟩
  case round =>
    obtain ⟨j, n, f, v, rfl, hj, ha, hpu, hown, hb⟩ := hrel
    have HA := hide (And.intro ha (And.intro hpu (And.intro hown hb)))
    clear ha hpu hown hb
    have HP1 : Hid (PAt wr p b (.slice aL st.l.length cL) st) := H.out.below (by rw [HRe.out]; exact HA.out.2.2.2)
    by_cases hlt : j < st.l.length
    · obtain ⟨g, c', e', -, -, h4, -⟩ := HP1.out.letter (by omega)
      cases e'
      obtain ⟨g0, g1, g2, g3, g4⟩ := h4 j hlt
      have hjz : (j : Int) < (st.l.length : Int) := by omega
      have HKR : Hid (∀ V : World, PAt V p b (.slice (some ⟨g, 0, none⟩) st.l.length cL) st → Calls Try.prog 39 #[.pointer (some ⟨p, 0, none⟩), st.l[j].val] V fun e w' => e = .returned (.bool (!st.p st.l[j].a st.l[j].b)) ∧ Below V.heap.size V w') := fun V hV => pIsReady p b _ st m st.l[j] V hV HO.out (List.getElem_mem hlt)
      have HSk : Hid (st.p st.l[j].a st.l[j].b = true → Pushed st (j + 1) f n) := fun hp => HA.out.2.1.skip hlt hp
      have HPu : Hid (∀ f' : Nat → Lt, st.p st.l[j].a st.l[j].b = false → Mixed (putAt f n st.l[j]) f' (n + 1) → IsHeap aheadB f' (n + 1) → Pushed st (j + 1) f' (n + 1)) := fun f' hp hm hh => HA.out.2.1.push HO.out hlt hp hm hh
      have Hlt := hide hlt
      clear h4
      generalize st.l[j] = y at *
      clear hlt
      obtain ⟨yi, ya, yb, ys, yg⟩ := y
      dsimp only at *
      go_upto_region 7 with fail
      clear g0 g1 g2 g3 g4
      have hby1 := one_below wr (.cells #[.int .u64 (yi : Int), .int .i64 ya, .int .i64 yb, .string ys, .int .i64 (yg : Int)] 41)
      have HX := hide (Box.new wr #[.int .u64 (yi : Int), .int .i64 ya, .int .i64 yb, .string ys, .int .i64 (yg : Int)] 41)
      have H2 := hide (HP1.out.below hby1)
      have HA2 := hide (HA.out.1.below hby1)
      have HB2 : Hid (Below R w (wr.alloc (.cells #[.int .u64 (yi : Int), .int .i64 ya, .int .i64 yb, .string ys, .int .i64 (yg : Int)] 41))) := HA.out.2.2.2.trans (hby1.mono (by have := HA.out.1.lt R (Or.inl rfl); omega))
      clear hby1
      generalize wr.alloc (.cells #[.int .u64 (yi : Int), .int .i64 ya, .int .i64 yb, .string ys, .int .i64 (yg : Int)] 41) = V at *
      generalize wr.heap.size = X at *
      obtain ⟨x0, x1, x2, x3, x4⟩ := HX.out.five
      have KR := hide (HKR.out V H2.out)
      go_wp2_with fail
      refine KR.out.mono ?_
      rintro e V2 ⟨rfl, hbv⟩
      have HA3 := hide (HA2.out.below hbv)
      have HX3 := hide (HX.out.below hbv)
      have HB3 : Hid (Below R w V2) := HB2.out.trans (hbv.mono (by have := HA2.out.lt R (Or.inl rfl); omega))
      clear hbv KR HKR x0 x1 x2 x3 x4 H2 HA2 HB2 HX
      cases hp : st.p ya yb with
      | true =>
        have HS := hide (HSk.out hp)
        clear hp HSk HPu
        go_wp2_with fail
        exact ⟨⟨j + 1, n, f, v, by go_num, Hlt.out, HA3.out, HS.out, HA.out.2.2.1, HB3.out⟩, by have := Hlt.out; simp [intOf]; omega⟩
      | false =>
        have HS := hide (fun f' => HPu.out f' hp)
        clear hp HSk HPu
        obtain ⟨x0, x1, x2, x3, x4⟩ := HX3.out.five
        have KP := hide (pHeapPush R v f n ⟨yi, ya, yb, ys, yg⟩ V2 HA3.out HA.out.2.1.heap (by have := HA.out.2.1.few; have := Hlt.out; omega))
        go_wp2_with fail
        refine KP.out.mono ?_
        rintro e V3 ⟨rfl, v', f', ha4, hh4, hm4, hl4⟩
        have HA4 := hide (And.intro ha4 (HS.out f' hm4 hh4))
        have HO4 : Hid (∀ k, HF R v' k → R ≤ k) := hl4.beyond HA.out.2.2.1 (by have := HA3.out.lt R (Or.inl rfl); omega)
        have HB4 : Hid (Below R w V3) := HB3.out.trans (hl4.below HA.out.2.2.1 (by have := HA3.out.lt R (Or.inl rfl); omega))
        clear ha4 hh4 hm4 hl4 KP HS HA3 HX3 HB3 x0 x1 x2 x3 x4
        go_wp2_with fail
        exact ⟨⟨j + 1, n + 1, f', v', by go_num, Hlt.out, HA4.out.1, HA4.out.2, HO4.out, HB4.out⟩, by have := Hlt.out; simp [intOf]; omega⟩
    · have hje : j = st.l.length := by omega
      subst hje
      have hjz : ¬ (st.l.length : Int) < (st.l.length : Int) := by omega
      have HE := hide HA.out.2.1.end_
      have hnb : n ≤ 4096 := by have := HA.out.2.1.few; omega
      have c0 := HA.out.1.cell
      obtain ⟨a1, k1, rfl, -⟩ := HA.out.1.slice
      have KL : ∀ a : World, Hid (Calls Try.prog 47 #[.slice a1 n k1] a fun e w' => e = .returned (.int .i64 (n : Int)) ∧ w' = a) := fun a => pRowLen a1 n k1 a
      have hmk := run_make_row' (P := Try.prog) 38 29 (.int .u64 0) 8 Try.underlying38 infoU rfl .i64 .i64 n (by omega) (by omega)
      clear hlt hj
      go_wp2_with fail
      refine (KL _).out.mono ?_
      rintro e w2 ⟨rfl, hw⟩
      obtain rfl := hw.symm
      clear hw
      go_wp2_with fail
      have HD := hide (IdRow.made wr n)
      have HA5 := hide (HA.out.1.below (one_below wr (.cells (madeCells #[Value.int .u64 0] n) 29)))
      have HB5 : Hid (Below R w (wr.alloc (.cells (madeCells #[Value.int .u64 0] n) 29))) := HA.out.2.2.2.trans ((one_below wr _).mono (by have := HA.out.1.lt R (Or.inl rfl); omega))
      have HF5 : Hid (¬ HF R (.slice a1 n k1) wr.heap.size) := fun hf => by have := HA.out.1.lt _ hf; omega
      have HR5 : Hid (R ≤ wr.heap.size) := by have := HA.out.1.lt R (Or.inl rfl); unfold Hid; omega
      have HOw := hide HA.out.2.2.1
      clear c0 KL HA HP1
      generalize wr.alloc (.cells (madeCells #[Value.int .u64 0] n) 29) = w2 at *
      generalize wr.heap.size = D at *
      have qA := qAssert
      have qF := qField
      go_loopw [7, 32] (fun _ iv u => ∃ (k : Nat) (f' : Nat → Lt) (v : Value) (out : List Lt), iv = .int .i64 (out.length : Int) ∧ out.length + k = n ∧ HAt u R v (rowL f' k) ∧ Emptied st f' k out ∧ (∀ q, HF R v q → R ≤ q) ∧ IdRow u D out k ∧ ¬ HF R v D ∧ Below R w u) (fun _ iv _ => n - (intOf iv).toNat)
      case atStart => exact ⟨n, f, .slice a1 n k1, [], rfl, by simp, HA5.out, HE.out, HOw.out, HD.out, HF5.out, HB5.out⟩
      case round =>
        obtain ⟨k, f', v, out, rfl, hk, ha, hem, hown, hid, hnd, hb⟩ := hrel
        cases k with
        | zero =>
          have hon : out.length = n := hk
          have HA6 := hide (And.intro hem (And.intro hid hb))
          have hjz : ¬ (out.length : Int) < (n : Int) := by omega
          have HFin : Hid (st.ready.length = n ∧ IdsAt wr (some ⟨D, 0, none⟩) st.ready) := by
            have e := HA6.out.1.end_ HO.out.rise
            refine ⟨by unfold Nt.ready; rw [List.length_map, ← e, hon], Or.inr ⟨D, 0, rfl, fun q hq => ?_⟩⟩
            rw [Nat.zero_add]
            unfold Nt.ready at hq
            rw [List.length_map, ← e] at hq
            rw [HA6.out.2.1.at_ q hq]
            simp only [Nt.ready, List.getElem_map, ← e]
          clear hk ha hem hown hid hnd hb
          go_wp2_with fail
          go_ret
          exact ⟨some ⟨D, 0, none⟩, ⟨n, by rw [HFin.out.1]; rfl⟩, HFin.out.2, by rw [HRe.out]; exact HA6.out.2.2⟩
        | succ k =>
          have hjz : (out.length : Int) < (n : Int) := by omega
          have KP := hide (pHeapPop R v f' k wr ha hem.heap (by omega))
          have HPop : Hid (∀ g : Nat → Lt, IsHeap aheadB g k → Mixed (swp f' 0 k) g k → Emptied st g k (out ++ [f' 0])) := fun g hg hm => hem.pop hg (hm.on (fun i j hi hj e => hem.once.swp (a := 0) (b := k) (by omega) (by omega) i j (by omega) (by omega) e)) hm.st
          have HPut : Hid (∀ u : World, IdRow u D out (k + 1) → IdRow (u.setCell ⟨D, out.length, none⟩ (.int .u64 ((f' 0).id : Int))) D (out ++ [f' 0]) k) := fun u hu => hu.put _
          have H6 := hide (And.intro hk (And.intro hown (And.intro hid (And.intro hnd (And.intro hb (ha.lt R (Or.inl rfl)))))))
          clear hk ha hem hown hid hnd hb
          generalize f' 0 = y at *
          obtain ⟨yi, ya, yb, ys, yg⟩ := y
          simp only [Lt.val, Lt.cells] at KP
          dsimp only at HPut
          go_wp2_with fail
          refine KP.out.mono ?_
          rintro e w4 ⟨rfl, v', g', ha4, hh4, hm4, hl4⟩
          have HA7 := hide ha4
          have HE7 := hide (HPop.out g' hh4 hm4)
          have HO7 : Hid (∀ q, HF R v' q → R ≤ q) := hl4.beyond H6.out.2.1 (by have := H6.out.2.2.2.2.2; omega)
          have HB7 : Hid (Below R w w4) := H6.out.2.2.2.2.1.trans (hl4.below H6.out.2.1 (by have := H6.out.2.2.2.2.2; omega))
          have HI7 : Hid (IdRow w4 D out (k + 1)) := H6.out.2.2.1.same (hl4.block D H6.out.2.2.1.lt H6.out.2.2.2.1)
          have HN7 : Hid (¬ HF R v' D) := fun hf => by
            rcases hl4.own D hf with h1 | h1
            · exact H6.out.2.2.2.1 h1
            · have := H6.out.2.2.1.lt; omega
          have c4 := HI7.out.next
          have f4 := HI7.out.free out.length
          have HP7 := hide (HPut.out w4 HI7.out)
          clear ha4 hh4 hm4 hl4 KP HPop HPut
          go_wp2_with fail
          have hk6 := H6.out.1
          exact ⟨⟨k, g', v', out ++ [⟨yi, ya, yb, ys, yg⟩], by simp, by rw [List.length_append]; show out.length + 1 + k = n; omega, HA7.out.same (fun q hq => Below.heap_setCell w4 ⟨D, out.length, none⟩ _ q (fun e => HN7.out ((show q = D from e) ▸ hq))), HE7.out, HO7.out, HP7.out, HN7.out, HB7.out.setCell (p := ⟨D, out.length, none⟩) HR5.out _⟩, by simp [intOf]; omega⟩
end Go.Proofs.Ytdfioggeiagihaa
