/- The program's checkpoints: steps one by one. The program's checkpoints: the steps that write a text. The program's checkpoints: each step does what it says. -/
import Derived.Test.YtchhojkhfdkhfaaGreatDoorK07
import Derived.Test.YtchhojkhfdkhfaaGreatDoorK04
namespace Go.Proofs.YtchhojkhfdkhfaaGreatDoor
open Go Go.RowKit Frm
/-- Steps one by one, up to the first error. -/
def runs : List (St → Nat × St) → St → Nat × St
  | [], st => (0, st)
  | f :: l, st => andT (f st) (runs l)
theorem runs_drop (l : List (St → Nat × St)) (k : Nat) (hk : k < l.length) (st : St) : runs (l.drop k) st = andT (l[k] st) (runs (l.drop (k + 1))) := by
  rw [List.drop_eq_getElem_cons hk]
  rfl
/-- A step's value: which function it calls, with what. -/
def fnOf : Value → Option (Nat × Array Value)
  | .func (.func n) r c => some (n, r ++ c)
  | _ => none
/-- The forms that a step has here. -/
def StepForm (v : Value) : Prop := (∃ B, v = .func (.func 130) #[] #[.pointer (some ⟨B, 0, none⟩), .pointer (some ⟨B + 1, 0, none⟩), .pointer (some ⟨B + 1 + 1, 0, none⟩)]) ∨ (∃ q, v = .func (.func 54) #[.pointer (some ⟨q, 0, none⟩)] #[]) ∨ (∃ B, v = .func (.func 131) #[] #[.pointer (some ⟨B, 0, none⟩)])
/-- What a call of a step does. -/
def Does (v : Value) (w : World) (P : Ending → World → Prop) : Prop := ∀ n a, fnOf v = some (n, a) → Calls Tryz.prog n a w P
/-- A step of the disk q, of which the blocks K are: it does f, where no more than m writes are made. -/
structure ActAt (u : World) (q : Nat) (K : Nat → Prop) (v : Value) (f : St → Nat × St) (m : Nat) : Prop where
  form : StepForm v
  calls : ∀ st F w, u.heap.size ≤ w.heap.size → (∀ k, K k → w.heap[k]? = u.heap[k]?) → DAt w q st F → (∀ k, K k → ¬ F k) → st.Ok → st.loose.length + m ≤ 10000 →
    Does v w fun e w' => e = .returned (.int .i64 (((f st).1 : Nat) : Int)) ∧ ∃ F', DAt w' q (f st).2 F' ∧ Loc F F' w w'
  ok : ∀ st, st.Ok → (f st).2.Ok ∧ (f st).2.loose.length ≤ st.loose.length + m
theorem ActAt.old {u v : World} {q m : Nat} {K : Nat → Prop} {x : Value} {f : St → Nat × St} (h : ActAt u q K x f m) (hb : Below u.heap.size u v) (hK : ∀ k, K k → k < u.heap.size) : ActAt v q K x f m :=
  ⟨h.form, fun st F w hs hk => h.calls st F w (Nat.le_trans hb.size hs) (fun k kk => (hk k kk).trans (hb.block k (hK k kk))), h.ok⟩
/-- Behind k steps. -/
structure Upto (q : Nat) (fs : List (St → Nat × St)) (m : Nat) (st : St) (F : Nat → Prop) (w : World) (k : Nat) (st' : St) (F' : Nat → Prop) (wr : World) : Prop where
  same : runs fs st = runs (fs.drop k) st'
  disk : DAt wr q st' F'
  loc : Loc F F' w wr
  ok : st'.Ok
  few : st'.loose.length ≤ st.loose.length + k * m
theorem Upto.next {q m k : Nat} {fs : List (St → Nat × St)} {st st' : St} {F F' F2 : Nat → Prop} {w wr w1 : World} {f : St → Nat × St} (h : Upto q fs m st F w k st' F' wr) (hs : runs fs st = andT (f st') (runs (fs.drop (k + 1)))) (he : (f st').1 = 0)
    (hd : DAt w1 q (f st').2 F2) (hl : Loc F' F2 wr w1) (ho : (f st').2.Ok ∧ (f st').2.loose.length ≤ st'.loose.length + m) : Upto q fs m st F w (k + 1) (f st').2 F2 w1 :=
  ⟨by rw [hs]; unfold andT; rw [if_pos he], hd, h.loc.trans hl, ho.1, by have := h.few; rw [Nat.add_mul, Nat.one_mul]; omega⟩
theorem Upto.stop {q m k : Nat} {fs : List (St → Nat × St)} {st st' : St} {F F' F2 : Nat → Prop} {w wr w1 : World} {f : St → Nat × St} (h : Upto q fs m st F w k st' F' wr) (hs : runs fs st = andT (f st') (runs (fs.drop (k + 1)))) (he : ¬ (f st').1 = 0)
    (hd : DAt w1 q (f st').2 F2) (hl : Loc F' F2 wr w1) : Ending.returned (.int .i64 (((f st').1 : Nat) : Int)) = .returned (.int .i64 (((runs fs st).1 : Nat) : Int)) ∧ ∃ G, DAt w1 q (runs fs st).2 G ∧ Loc F G w w1 := by
  have e : runs fs st = f st' := by rw [hs]; unfold andT; rw [if_neg he]
  rw [e]
  exact ⟨rfl, F2, hd, h.loc.trans hl⟩
set_option maxRecDepth 10000 in
set_option maxHeartbeats 2000000 in
theorem inOrder_any (q b off c m : Nat) (vs : List Value) (fs : List (St → Nat × St)) (K : Nat → Prop) (st : St) (F : Nat → Prop) (w : World) (hlen : fs.length = vs.length) (hn : vs.length ≤ 5000)
    (hcells : ∀ j (hj : j < vs.length), w.cell? ⟨b, off + j, none⟩ = some vs[j]) (hb : b < w.heap.size) (hbF : ¬ F b)
    (hacts : ∀ j (hj : j < vs.length) (hf : j < fs.length), ActAt w q K vs[j] fs[j] m) (hD : DAt w q st F) (hok : st.Ok) (hK : ∀ k, K k → k < w.heap.size ∧ ¬ F k) (hm : st.loose.length + vs.length * m ≤ 10000) :
    Calls Tryz.prog 108 #[.slice (some ⟨b, off, none⟩) vs.length c] w fun e v => e = .returned (.int .i64 (((runs fs st).1 : Nat) : Int)) ∧ ∃ F', DAt v q (runs fs st).2 F' ∧ Loc F F' w v := by
  have HC := hide hcells
  have HA := hide hacts
  have HK := hide hK
  have HM := hide hm
  have HLen := hide hlen
  have HN := hide hn
  have HBF := hide hbF
  have HBl := hide hb
  have H0 : Hid (Upto q fs m st F w 0 st F w) := ⟨by rw [List.drop_zero], hD, Loc.refl _ _, hok, by omega⟩
  clear hcells hacts hD hok hK hm hlen hbF hb
  go_enter Tryz.func108, Tryz.ntmps108
  go_wp2_with fail
  go_loopw [4, 5, 8] (fun d e i wr => ∃ (k : Nat) (st' : St) (F' : Nat → Prop), k ≤ vs.length ∧ i = .int .i64 (k : Int) ∧ Upto q fs m st F w k st' F' wr) (fun _ _ i _ => vs.length - (intOf i).toNat)
  case atStart => exact ⟨0, st, F, Nat.zero_le _, rfl, H0.out⟩
  case round =>
    obtain ⟨k, st', F', hk, rfl, hU⟩ := hrel
    have HU := hide hU
    clear hU
    by_cases hlt : k < vs.length
    · have hkl : k < fs.length := by rw [HLen.out]; exact hlt
      have hc := (HU.out.loc.block b HBl.out HBF.out)
      have hcell : wr.cell? ⟨b, off + k, none⟩ = some vs[k] := by rw [World.cell?_of_block (a := ⟨b, off + k, none⟩) hc]; exact HC.out k hlt
      have hact := HA.out k hlt hkl
      have hfew := HU.out.few
      have hm2 : k * m + m ≤ vs.length * m := by
        have := Nat.mul_le_mul_right m (show k + 1 ≤ vs.length from hlt)
        rw [Nat.add_mul, Nat.one_mul] at this
        exact this
      have hM := HM.out
      have hcall := hact.calls st' F' wr HU.out.loc.size (fun j hj => HU.out.loc.block j (HK.out j hj).1 (HK.out j hj).2) HU.out.disk (fun j hj => by
        have := HK.out j hj
        intro hf
        rcases HU.out.loc.own j hf with h1 | h1
        · exact this.2 h1
        · omega) HU.out.ok (by omega)
      have hform := hact.form
      have HS := hide ((HU.out.same).trans (runs_drop fs k hkl st'))
      have HOk := hide (hact.ok st' HU.out.ok)
      clear hc hact hfew hm2 hM
      generalize vs[k] = x at *
      generalize fs[k] = f at *
      have HCl := hide hcall
      clear hcall
      rcases hform with ⟨B, rfl⟩ | ⟨B, rfl⟩ | ⟨B, rfl⟩
      · have KC := hide (HCl.out 130 #[.pointer (some ⟨B, 0, none⟩), .pointer (some ⟨B + 1, 0, none⟩), .pointer (some ⟨B + 1 + 1, 0, none⟩)] rfl)
        clear HCl
        go_wp2_with fail
        refine KC.out.mono ?_
        clear KC
        rintro e w1 ⟨rfl, F2, hd2, hl2⟩
        have HD2 := hide hd2
        have HL2 := hide hl2
        clear hd2 hl2 hcell
        by_cases he : (f st').1 = 0
        · have HE := hide he
          have hez : ((((f st').1 : Nat) : Int) == 0) = true := by rw [he]; rfl
          have hez2 : (((f st').1 : Nat) : Int) = 0 := by rw [he]; rfl
          clear he
          go_wp2
          go_roundw
          case rel => exact ⟨k + 1, (f st').2, F2, hlt, by go_num, HU.out.next HS.out HE.out HD2.out HL2.out HOk.out⟩
          case measure => simp [intOf]; omega
        · have HE := hide he
          have hez : ¬ (((f st').1 : Nat) : Int) = 0 := by omega
          clear he
          go_wp2
          go_ret
          exact HU.out.stop HS.out HE.out HD2.out HL2.out
      · have KC := hide (HCl.out 54 #[.pointer (some ⟨B, 0, none⟩)] rfl)
        clear HCl
        go_wp2_with fail
        refine KC.out.mono ?_
        clear KC
        rintro e w1 ⟨rfl, F2, hd2, hl2⟩
        have HD2 := hide hd2
        have HL2 := hide hl2
        clear hd2 hl2 hcell
        by_cases he : (f st').1 = 0
        · have HE := hide he
          have hez : ((((f st').1 : Nat) : Int) == 0) = true := by rw [he]; rfl
          have hez2 : (((f st').1 : Nat) : Int) = 0 := by rw [he]; rfl
          clear he
          go_wp2
          go_roundw
          case rel => exact ⟨k + 1, (f st').2, F2, hlt, by go_num, HU.out.next HS.out HE.out HD2.out HL2.out HOk.out⟩
          case measure => simp [intOf]; omega
        · have HE := hide he
          have hez : ¬ (((f st').1 : Nat) : Int) = 0 := by omega
          clear he
          go_wp2
          go_ret
          exact HU.out.stop HS.out HE.out HD2.out HL2.out
      · have KC := hide (HCl.out 131 #[.pointer (some ⟨B, 0, none⟩)] rfl)
        clear HCl
        go_wp2_with fail
        refine KC.out.mono ?_
        clear KC
        rintro e w1 ⟨rfl, F2, hd2, hl2⟩
        have HD2 := hide hd2
        have HL2 := hide hl2
        clear hd2 hl2 hcell
        by_cases he : (f st').1 = 0
        · have HE := hide he
          have hez : ((((f st').1 : Nat) : Int) == 0) = true := by rw [he]; rfl
          have hez2 : (((f st').1 : Nat) : Int) = 0 := by rw [he]; rfl
          clear he
          go_wp2
          go_roundw
          case rel => exact ⟨k + 1, (f st').2, F2, hlt, by go_num, HU.out.next HS.out HE.out HD2.out HL2.out HOk.out⟩
          case measure => simp [intOf]; omega
        · have HE := hide he
          have hez : ¬ (((f st').1 : Nat) : Int) = 0 := by omega
          clear he
          go_wp2
          go_ret
          exact HU.out.stop HS.out HE.out HD2.out HL2.out
    · have hke : k = vs.length := by omega
      have HS : Hid (runs fs st = (0, st')) := by
        have := HU.out.same
        rw [List.drop_of_length_le (by rw [HLen.out]; omega)] at this
        exact this
      have hz : ¬ ((k : Int) < (vs.length : Int)) := by omega
      clear hlt hk
      go_wp2
      go_ret
      rw [HS.out]
      exact ⟨rfl, F', HU.out.disk, HU.out.loc⟩
end Go.Proofs.YtchhojkhfdkhfaaGreatDoor
namespace Go.Proofs.YtchhojkhfdkhfaaGreatDoor
open Go Go.RowKit Frm
/-- Behind k rounds: the slot's box, the steps' box, the row of the steps. -/
structure WT (q a : Nat) (kk g : Int) (t : ByteArray) (w : World) (k : Nat) (vS : Value) (Bs : List Nat) (u : World) : Prop where
  len : Bs.length = k
  slot : u.heap[w.heap.size]? = some (.cells #[.pointer (some ⟨q, 0, none⟩), .int .i64 (a : Int), .int .i64 kk, .int .u64 g] 138 (0, 0))
  box : u.heap[w.heap.size + 1]? = some (.cells #[vS] 195 (0, 0))
  row : u.ownsRow 0 169 1 vS k (Bs.map wrV)
  new : ∀ j, vS.ownBlock = some j → w.heap.size ≤ j
  acts : ∀ j (hj : j < Bs.length), WrAt u Bs[j] q (((a + 1 + j : Nat) : Nat) : Int) (blkT t j) ∧ w.heap.size ≤ Bs[j]
  below : Below w.heap.size w u
theorem WT.lt {q a : Nat} {kk g : Int} {t : ByteArray} {w : World} {k : Nat} {vS : Value} {Bs : List Nat} {u : World} (h : WT q a kk g t w k vS Bs u) : w.heap.size + 1 < u.heap.size := (Array.getElem?_eq_some_iff.1 h.box).1
theorem WT.keep {q a : Nat} {kk g : Int} {t : ByteArray} {w : World} {k : Nat} {vS : Value} {Bs : List Nat} {u v : World} (h : WT q a kk g t w k vS Bs u) (hb : Below u.heap.size u v) : WT q a kk g t w k vS Bs v := by
  have hl := h.lt
  exact ⟨h.len, (hb.block _ (by omega)).trans h.slot, (hb.block _ (by omega)).trans h.box, own_same h.row (fun j hj => hb.block j (own_lt h.row hj)), h.new, fun j hj => ⟨(h.acts j hj).1.below hb, (h.acts j hj).2⟩, h.below.trans (hb.mono (by omega))⟩
theorem WT.apart {q a : Nat} {kk g : Int} {t : ByteArray} {w : World} {k : Nat} {vS : Value} {Bs : List Nat} {u : World} (h : WT q a kk g t w k vS Bs u) {j : Nat} {cs : Array Value} {ty : TypeId} (hj : u.heap[j]? = some (.cells cs ty (0, 0))) (hne : ty ≠ 169) : vS.ownBlock ≠ some j := fun e => by
  obtain ⟨cur, hc⟩ := row_type h.row e
  rw [hj] at hc
  cases hc
  exact hne rfl
/-- One step more. -/
theorem WT.next {q a : Nat} {kk g : Int} {t : ByteArray} {w : World} {k B : Nat} {vS v1 : Value} {Bs : List Nat} {z1 w1 : World} (h : WT q a kk g t w k vS Bs z1) (hW : WrAt z1 B q (((a + 1 + k : Nat) : Nat) : Int) (blkT t k)) (hB : w.heap.size + 2 ≤ B)
    (hown : w1.ownsRow 0 169 1 v1 (k + 1) (Bs.map wrV ++ [wrV B])) (hg : (z1.alloc (.cells #[wrV B] 169)).grownBy w1 vS.ownBlock) (hat : ∀ j, v1.ownBlock = some j → vS.ownBlock = some j ∨ z1.heap.size ≤ j) :
    WT q a kk g t w (k + 1) v1 (Bs ++ [B]) (w1.setCell ⟨w.heap.size + 1, 0, none⟩ v1) := by
  have hl := h.lt
  have hsz : z1.heap.size + 1 = (z1.alloc (.cells #[wrV B] 169)).heap.size := by simp
  have keep : ∀ j, j < z1.heap.size → vS.ownBlock ≠ some j → w1.heap[j]? = z1.heap[j]? := fun j hj hne => (hg.block j (by omega) (fun e => hne e.symm)).trans (Below.heap_alloc z1 _ j hj)
  have keep2 : ∀ j, j < z1.heap.size → vS.ownBlock ≠ some j → j ≠ w.heap.size + 1 → (w1.setCell ⟨w.heap.size + 1, 0, none⟩ v1).heap[j]? = z1.heap[j]? := fun j hj hne hn => (Below.heap_setCell w1 ⟨w.heap.size + 1, 0, none⟩ v1 j hn).trans (keep j hj hne)
  have hbox : w1.heap[w.heap.size + 1]? = some (.cells #[vS] 195 (0, 0)) := (keep _ hl (h.apart h.box (by decide))).trans h.box
  have wr : ∀ {C : Nat} {b : Int} {d : ByteArray}, WrAt z1 C q b d → (C ≠ w.heap.size + 1 ∧ C + 1 ≠ w.heap.size + 1 ∧ C + 1 + 1 ≠ w.heap.size + 1) → WrAt (w1.setCell ⟨w.heap.size + 1, 0, none⟩ v1) C q b d := fun {C b d} hC hn => by
    have hlt := hC.lt
    obtain ⟨_, _, _, _, e0, e1, _⟩ := hC.ex
    exact hC.same (keep2 _ (by omega) (h.apart e0 (by decide)) hn.1) (keep2 _ (by omega) (h.apart e1 (by decide)) hn.2.1) (keep2 _ hlt (h.apart hC.data (by decide)) hn.2.2)
  have hbelow : Below w.heap.size w (w1.setCell ⟨w.heap.size + 1, 0, none⟩ v1) := by
    have h1 : Below w.heap.size w (z1.alloc (.cells #[wrV B] 169)) := h.below.alloc (by omega) _
    exact (h1.grown hg (by omega) (fun j e => h.new j e)).setCell (p := ⟨w.heap.size + 1, 0, none⟩) (Nat.le_succ _) _
  refine ⟨by rw [List.length_append, h.len]; rfl, (keep2 _ (by omega) (h.apart h.slot (by decide)) (by omega)).trans h.slot, by rw [heap_set3 hbox]; rfl, ?_, fun j hj => ?_, fun j hj => ?_, hbelow⟩
  · rw [List.map_append]
    refine own_same hown (fun j hj => Below.heap_setCell w1 ⟨w.heap.size + 1, 0, none⟩ v1 j (fun e => ?_))
    obtain ⟨cur, hc⟩ := row_type hown hj
    rw [e, hbox] at hc
    cases hc
  · rcases hat j hj with h1 | h1
    · exact h.new j h1
    · omega
  · by_cases e : j < Bs.length
    · rw [List.getElem_append_left e]
      have := h.acts j e
      refine ⟨wr this.1 ?_, this.2⟩
      obtain ⟨_, _, _, _, e0, e1, _⟩ := this.1.ex
      have e2 := this.1.data
      have hb0 := h.box
      refine ⟨fun x => ?_, fun x => ?_, fun x => ?_⟩
      · rw [x, hb0] at e0; cases e0
      · rw [x, hb0] at e1; cases e1
      · rw [x, hb0] at e2; simp at e2
    · rw [List.length_append, List.length_singleton] at hj
      have hj2 : j = Bs.length := by omega
      subst hj2
      rw [List.getElem_concat_length (by rfl)]
      rw [h.len]
      exact ⟨wr hW (by omega), by omega⟩

theorem WT.boxAfter {q a : Nat} {kk g : Int} {t : ByteArray} {w : World} {k B : Nat} {vS : Value} {Bs : List Nat} {z1 w1 : World} (h : WT q a kk g t w k vS Bs z1) (hg : (z1.alloc (.cells #[wrV B] 169)).grownBy w1 vS.ownBlock) :
    w1.cell? ⟨w.heap.size + 1, 0, none⟩ = some vS ∧ w1.frozen? ⟨w.heap.size + 1, 0, none⟩ = false := by
  have hl := h.lt
  have hsz : z1.heap.size + 1 = (z1.alloc (.cells #[wrV B] 169)).heap.size := by simp
  have e : w1.heap[w.heap.size + 1]? = some (.cells #[vS] 195 (0, 0)) := ((hg.block _ (by omega) (fun e => h.apart h.box (by decide) e.symm)).trans (Below.heap_alloc z1 _ _ hl)).trans h.box
  exact ⟨by simp [World.cell?, e], by simp [World.frozen?, e]⟩
theorem WT.cells {q a : Nat} {kk g : Int} {t : ByteArray} {w : World} {k : Nat} {vS : Value} {Bs : List Nat} {u : World} (h : WT q a kk g t w k vS Bs u) :
    u.cell? ⟨w.heap.size + 1, 0, none⟩ = some vS ∧ u.cell? ⟨w.heap.size, 0, none⟩ = some (.pointer (some ⟨q, 0, none⟩)) ∧ u.cell? ⟨w.heap.size, 1, none⟩ = some (.int .i64 (a : Int)) ∧ u.cell? ⟨w.heap.size, 2, none⟩ = some (.int .i64 kk) ∧ u.cell? ⟨w.heap.size, 3, none⟩ = some (.int .u64 g) := by
  have e0 := h.box
  have e1 := h.slot
  exact ⟨by simp [World.cell?, e0], by simp [World.cell?, e1], by simp [World.cell?, e1], by simp [World.cell?, e1], by simp [World.cell?, e1]⟩
theorem WT.still {q a : Nat} {kk g : Int} {t : ByteArray} {w : World} {k B gd : Nat} {vS : Value} {Bs : List Nat} {D : Array Value} {z1 w1 : World} (h : WT q a kk g t w k vS Bs z1) (hD : z1.heap[gd]? = some (.cells D 89 (0, 0))) (hg : (z1.alloc (.cells #[wrV B] 169)).grownBy w1 vS.ownBlock) (v1 : Value) :
    w1.heap[w.heap.size]? = z1.heap[w.heap.size]? ∧ w1.heap[gd]? = z1.heap[gd]? ∧ (w1.setCell ⟨w.heap.size + 1, 0, none⟩ v1).heap[w.heap.size]? = z1.heap[w.heap.size]? ∧ (w1.setCell ⟨w.heap.size + 1, 0, none⟩ v1).heap[gd]? = z1.heap[gd]? := by
  have hl := h.lt
  have hgd : gd < z1.heap.size := (Array.getElem?_eq_some_iff.1 hD).1
  have hsz : z1.heap.size + 1 = (z1.alloc (.cells #[wrV B] 169)).heap.size := by simp
  have e0 := (hg.block _ (by omega) (fun e => h.apart h.slot (by decide) e.symm)).trans (Below.heap_alloc z1 _ w.heap.size (by omega))
  have e1 := (hg.block _ (by omega) (fun e => h.apart hD (by decide) e.symm)).trans (Below.heap_alloc z1 _ gd hgd)
  have hne : gd ≠ w.heap.size + 1 := fun e => by
    subst e
    have hb := h.box
    rw [hD] at hb
    simp at hb
  exact ⟨e0, e1, (Below.heap_setCell w1 ⟨w.heap.size + 1, 0, none⟩ v1 w.heap.size (by show w.heap.size ≠ w.heap.size + 1; omega)).trans e0, (Below.heap_setCell w1 ⟨w.heap.size + 1, 0, none⟩ v1 gd hne).trans e1⟩
theorem held_of {B gd q : Nat} {a kk g : Int} {D : Array Value} {u v : World} (h : u.cell? ⟨B, 0, none⟩ = some (.pointer (some ⟨q, 0, none⟩)) ∧ u.cell? ⟨B, 1, none⟩ = some (.int .i64 a) ∧ u.cell? ⟨B, 2, none⟩ = some (.int .i64 kk) ∧ u.cell? ⟨B, 3, none⟩ = some (.int .u64 g) ∧ u.heap[gd]? = some (.cells D 89 (0, 0)))
    (h0 : v.heap[B]? = u.heap[B]?) (h1 : v.heap[gd]? = u.heap[gd]?) : v.cell? ⟨B, 0, none⟩ = some (.pointer (some ⟨q, 0, none⟩)) ∧ v.cell? ⟨B, 1, none⟩ = some (.int .i64 a) ∧ v.cell? ⟨B, 2, none⟩ = some (.int .i64 kk) ∧ v.cell? ⟨B, 3, none⟩ = some (.int .u64 g) ∧ v.heap[gd]? = some (.cells D 89 (0, 0)) := by
  have c : ∀ j, v.cell? ⟨B, j, none⟩ = u.cell? ⟨B, j, none⟩ := fun j => World.cell?_of_block (a := ⟨B, j, none⟩) h0
  exact ⟨(c 0).trans h.1, (c 1).trans h.2.1, (c 2).trans h.2.2.1, (c 3).trans h.2.2.2.1, h1.trans h.2.2.2.2⟩
theorem held_below {B gd q : Nat} {a kk g : Int} {D : Array Value} {u v : World} (h : u.cell? ⟨B, 0, none⟩ = some (.pointer (some ⟨q, 0, none⟩)) ∧ u.cell? ⟨B, 1, none⟩ = some (.int .i64 a) ∧ u.cell? ⟨B, 2, none⟩ = some (.int .i64 kk) ∧ u.cell? ⟨B, 3, none⟩ = some (.int .u64 g) ∧ u.heap[gd]? = some (.cells D 89 (0, 0)))
    (hb : Below u.heap.size u v) : v.cell? ⟨B, 0, none⟩ = some (.pointer (some ⟨q, 0, none⟩)) ∧ v.cell? ⟨B, 1, none⟩ = some (.int .i64 a) ∧ v.cell? ⟨B, 2, none⟩ = some (.int .i64 kk) ∧ v.cell? ⟨B, 3, none⟩ = some (.int .u64 g) ∧ v.heap[gd]? = some (.cells D 89 (0, 0)) :=
  held_of h (hb.block _ (World.block_lt_of_cell? u _ h.1)) (hb.block _ (Array.getElem?_eq_some_iff.1 h.2.2.2.2).1)
theorem info87 : (Tryz.prog.info? 169).map (fun i => (i.zero, i.size, i.bytes)) = some (some (.nilFunc), 1, 8) := by kernel_rfl
theorem newsW (z : World) (B : Nat) : ∀ (j : Nat) (u : Value), ([wrV B] : List Value)[j]? = some u → (z.alloc (.cells #[wrV B] 169)).cell? ((⟨z.heap.size, 0, none⟩ : Addr).add j) = some u := fun j u hj => by
  match j, hj with
  | 0, hj =>
    rw [List.getElem?_cons_zero] at hj
    cases hj
    rw [add_at]
    exact new_cell z #[wrV B] 169 0 rfl
theorem oneW (B : Nat) : ∀ u ∈ ([wrV B] : List Value), u.oneCell' = true := fun u hu => by rw [List.mem_singleton.1 hu]; rfl
set_option maxRecDepth 20000 in
set_option maxHeartbeats 4000000 in
theorem writingText_any (q a : Nat) (kk g : Int) (t : ByteArray) (w : World) (ha : a ≤ 8192) (ht : t.size ≤ 1000000) :
    Calls Tryz.prog 110 #[.agg #[.pointer (some ⟨q, 0, none⟩), .int .i64 (a : Int), .int .i64 kk, .int .u64 g], .string t] w fun e v =>
      ∃ vS Bs, e = .returned (.func (.func 131) #[] #[.pointer (some ⟨w.heap.size + 1, 0, none⟩)]) ∧ WT q a kk g t w (nb t.size) vS Bs v := by
  obtain ⟨i0, hi, hz0, hz1, hz2⟩ := info_parts info87
  have HI := hide (And.intro hi (And.intro hz0 (And.intro hz1 hz2)))
  clear hi hz0 hz1 hz2
  have hn : nb t.size ≤ 4000 := by unfold nb; omega
  have HB := hide (fun u => blocksFor_any t.size u (by omega))
  have HNb : Hid (∀ k, k < nb t.size → k * 256 ≤ t.size) := fun k hk => by unfold nb at hk; omega
  have H0 : Hid (WT q a kk g t w 0 (.slice none 0 0) [] ((w.alloc (.cells #[.pointer (some ⟨q, 0, none⟩), .int .i64 (a : Int), .int .i64 kk, .int .u64 g] 138)).alloc (.cells #[.slice none 0 0] 195))) := by
    have e1 := heap_alloc_last (w.alloc (.cells #[.pointer (some ⟨q, 0, none⟩), .int .i64 (a : Int), .int .i64 kk, .int .u64 g] 138)) (.cells #[.slice none 0 0] 195)
    have s1 : (w.alloc (.cells #[.pointer (some ⟨q, 0, none⟩), .int .i64 (a : Int), .int .i64 kk, .int .u64 g] 138)).heap.size = w.heap.size + 1 := by simp
    rw [s1] at e1
    exact ⟨rfl, (Below.heap_alloc _ _ _ (by rw [s1]; omega)).trans (heap_alloc_last w _), e1, World.ownsRow_nil _ _ _ _, fun j hj => (by cases hj), fun j hj => absurd hj (by simp), two_below w _ _⟩
  generalize nb t.size = n at *
  go_enter Tryz.func110, Tryz.ntmps110
  go_wp2_with (go_at_call 115; refine (HB.out _).mono ?_; rintro e w2 ⟨rfl, rfl⟩)
  go_loopw [6, 7, 11] (fun _ _ i wr => ∃ (k : Nat) (vS : Value) (Bs : List Nat), k ≤ n ∧ i = .int .i64 (k : Int) ∧ WT q a kk g t w k vS Bs wr) (fun _ _ i _ => n - (intOf i).toNat)
  case atStart => exact ⟨0, _, _, Nat.zero_le _, rfl, H0.out⟩
  case round =>
    obtain ⟨k, vS, Bs, hk, rfl, hT⟩ := hrel
    have HT := hide hT
    clear hT
    by_cases hlt : k < n
    · have hk2 := HNb.out k hlt
      obtain ⟨lo, hlo⟩ : ∃ lo, lo = k * 256 := ⟨_, rfl⟩
      have hi1 : IntKind.i64.wrap ((k : Int) * 256) = (lo : Int) := by rw [IntKind.wrap_i64]; omega
      have hi2 : IntKind.i64.wrap (1 + (k : Int)) = 1 + (k : Int) := by rw [IntKind.wrap_i64]; omega
      have hj1 : (0 : Int) ≤ (lo : Int) := by omega
      have hj2 : (lo : Int) ≤ (t.size : Int) := by omega
      have hcp := copyBlk wr t k
      rw [← hlo] at hcp
      have hsz := blkT_size t k
      have hU : Below wr.heap.size wr (wr.alloc (.cells (tc (blkT t k)).toArray 89)).drew := (one_below wr _).drew
      have HT1 := hide (HT.out.keep hU)
      have HD : Hid ((wr.alloc (.cells (tc (blkT t k)).toArray 89)).drew.heap[wr.heap.size]? = some (.cells (tc (blkT t k)).toArray 89 (0, 0))) := heap_alloc_last wr _
      have HDs : Hid ((Tryz.prog.info? 89).map (·.size) = some (tc (blkT t k)).toArray.size) := by rw [tsize _ hsz]; exact size71b
      have HWr := hide (fun u => writing_any q (a : Int) kk g (1 + (k : Int)) (blkT t k) u hsz (by unfold wrap64; omega))
      have HU := hide hU
      have HSz := hide hsz
      clear hk2 hlo hU hsz
      have hzv := Tryz.zeroValue89
      generalize Tryz.zeroCells89 = Z at *
      go_wp2_with fail
      go_region_law (fail)
      clear hcp hzv
      generalize (wr.alloc (.cells (tc (blkT t k)).toArray 89)).drew = U at *
      have HGe : Hid (w.heap.size + 2 ≤ U.heap.size) := HT1.out.lt
      generalize hgd : wr.heap.size = gd at *
      have HT2 := hide (HT1.out.keep ((Below.refl _ _).drew))
      obtain ⟨c0, c1, c2, c3, c4⟩ := HT2.out.cells
      have HD2 : Hid (U.drew.heap[gd]? = some (.cells (tc (blkT t k)).toArray 89 (0, 0))) := HD.out
      have hkn : k ≤ 4000 := by omega
      clear hn hgd
      generalize hDD : (tc (blkT t k)).toArray = D at *
      clear hDD
      go_wp2_with fail
      refine wp_region_held_drew (S := fun z => z.cell? ⟨w.heap.size, 0, none⟩ = some (.pointer (some ⟨q, 0, none⟩)) ∧ z.cell? ⟨w.heap.size, 1, none⟩ = some (.int .i64 (a : Int)) ∧ z.cell? ⟨w.heap.size, 2, none⟩ = some (.int .i64 kk) ∧ z.cell? ⟨w.heap.size, 3, none⟩ = some (.int .u64 g) ∧ z.heap[gd]? = some (.cells D 89 (0, 0))) (by kernel_rfl) ⟨c1, c2, c3, c4, HD2.out⟩ (fun hHeld => ?_)
      refine takeAt7 1 21 (v := ?v1) rfl rfl (by kernel_rfl) (by kernel_rfl) (by kernel_rfl) (fun _ _ _ h => h) (Or.inl ⟨by rfl, ?hy1⟩) (by assumption) ?rest1
      case hy1 => (intro w hSw; (try dsimp only at hSw); go_simp; first | done | with_reducible rfl)
      simp only [List.setIfInBounds_toArray, List.set_cons_succ, List.set_cons_zero]
      refine takeAt7 2 22 (v := ?v2) rfl rfl (by kernel_rfl) (by kernel_rfl) (by kernel_rfl) (fun _ _ _ h => h) (Or.inl ⟨by rfl, ?hy2⟩) (by assumption) ?rest2
      case hy2 => (intro w hSw; (try dsimp only at hSw); go_simp; first | done | with_reducible rfl)
      simp only [List.setIfInBounds_toArray, List.set_cons_succ, List.set_cons_zero]
      refine takeAt7 3 23 (v := ?v3) rfl rfl (by kernel_rfl) (by kernel_rfl) (by kernel_rfl) (fun _ _ _ h => h) (Or.inl ⟨by rfl, ?hy3⟩) (by assumption) ?rest3
      case hy3 => (intro w hSw; (try dsimp only at hSw); go_simp; first | done | with_reducible rfl)
      simp only [List.setIfInBounds_toArray, List.set_cons_succ, List.set_cons_zero]
      refine takeAt7 4 24 (v := ?v4) rfl rfl (by kernel_rfl) (by kernel_rfl) (by kernel_rfl) (fun _ _ _ h => h) (Or.inl ⟨by rfl, ?hy4⟩) (by assumption) ?rest4
      case hy4 => (intro w hSw; (try dsimp only at hSw); refine exec_load_row 89 (.tmp 7) ?_ gd ?_ 89 D (0, 0) _ hSw.2.2.2.2 Tryz.underlying89 ?_ HDs.out <;> rfl)
      simp only [List.setIfInBounds_toArray, List.set_cons_succ, List.set_cons_zero]
      refine wpAnyH_ready (rs := [0, 5]) (by kernel_rfl) (by simp) ?_
      refine AllReadyH.cons (o := { dst := some 20, op := Op.load 195 (Operand.tmp 5), type := 195, pos := "ckpt.go:134", after := #[], guard := none }) rfl (fun K hK => ?_) (AllReadyH.cons (o := { dst := some 25, op := Op.call { callee := Callee.value (Operand.func 109), args := #[Operand.tmp 21, Operand.tmp 23, Operand.tmp 24], argTypes := #[138, 3, 89] }, type := 169, pos := "ckpt.go:134", after := #[{ on := 1, ground := Ground.data }, { on := 3, ground := Ground.data }, { on := 4, ground := Ground.data }], guard := none }) rfl (fun K hK => ?_) AllReadyH.nil)
      · go_simp
        refine hK.out _ _ hHeld (fun _ => ?_)
        clear hK K
        (try go_frame)
        refine wpAnyH_ready (rs := [5]) (by kernel_rfl) (by simp) ?_
        refine AllReadyH.cons (o := { dst := some 25, op := Op.call { callee := Callee.value (Operand.func 109), args := #[Operand.tmp 21, Operand.tmp 23, Operand.tmp 24], argTypes := #[138, 3, 89] }, type := 169, pos := "ckpt.go:134", after := #[{ on := 1, ground := Ground.data }, { on := 3, ground := Ground.data }, { on := 4, ground := Ground.data }], guard := none }) rfl (fun K hK => ?_) AllReadyH.nil
        go_simp
        refine (HWr.out _).mono ?_
        rintro e z1 ⟨rfl, hwr, hbz, hsz⟩
        have hHeld1 := held_below hHeld hbz
        have HT3 := hide (HT2.out.keep hbz)
        have c01 := HT3.out.cells.1
        have HZ := hide (And.intro hwr (And.intro hbz hsz))
        clear hwr hbz hsz
        go_wp2_with fail
        refine hK.out _ _ hHeld1 (fun _ => ?_)
        clear hK K
        (try go_frame)
        refine wpAnyH_ready (rs := [6]) (by kernel_rfl) (by simp) ?_
        refine AllReadyH.cons (o := { dst := some 26, op := Op.buildSlice 195 1 #[(0, Operand.tmp 25)], type := 195, pos := "ckpt.go:134", after := #[{ on := 5, ground := Ground.data }], guard := none }) rfl (fun K hK => ?_) AllReadyH.nil
        have hHeld2 := held_below hHeld1 (one_below z1 (.cells #[wrV U.heap.size] 169))
        have HT4 := hide (HT3.out.keep (one_below z1 (.cells #[wrV U.heap.size] 169)))
        have c02 := HT4.out.cells.1
        unfold wrV
        go_simp
        change K _ (z1.alloc (.cells #[wrV U.heap.size] 169))
        refine hK.out _ _ hHeld2 (fun _ => ?_)
        clear hK K
        (try go_frame)
        refine wpAnyH_ready (rs := [7]) (by kernel_rfl) (by simp) ?_
        refine AllReadyH.cons (o := { dst := some 27, op := Op.call { callee := Callee.builtin Builtin.append, args := #[Operand.tmp 20, Operand.tmp 26], argTypes := #[195, 195] }, type := 195, pos := "ckpt.go:134", after := #[{ on := 0, ground := Ground.data }, { on := 6, ground := Ground.data }, { on := 5, ground := Ground.chain }], guard := none }) rfl (fun K hK => ?_) AllReadyH.nil
        refine step_append_lies _ (by rfl) _ _ _ (by rfl) 0 169 i0 (.nilFunc) 1 8 Tryz.underlying195 HI.out.1 HI.out.2.1 HI.out.2.2.1 HI.out.2.2.2 rfl (by decide) vS k _ (by rfl) HT4.out.row ⟨z1.heap.size, 0, none⟩ 1 1 [wrV U.heap.size] (by rfl) rfl (newsW _ _) (oneW _) (by decide) (by unfold maxLen; omega) (by omega) (by omega) _ rfl ?_
        intro g2 cap w1 hown hgrow hat hlt1
        obtain ⟨hcw, hfw⟩ := HT3.out.boxAfter hgrow
        obtain ⟨s0, s1, s2, s3⟩ := HT3.out.still hHeld1.2.2.2.2 hgrow (.slice (some ⟨g2, 0, none⟩) (k + 1) cap)
        have hHeld3 := held_of hHeld1 s0 s1
        have hHeld4 := held_of hHeld1 s2 s3
        refine K_put (K := K) 27 rfl ?_
        refine hK.out _ _ hHeld3 (fun _ => ?_)
        clear hK K s0 s1 s2 s3
        simp only [List.setIfInBounds_toArray, List.set_cons_succ, List.set_cons_zero]
        refine wpAnyH_ready (rs := [8]) (by kernel_rfl) (by simp) ?_
        refine AllReadyH.cons (o := { dst := none, op := Op.store 195 (Operand.tmp 5) (Operand.tmp 27), type := 0, pos := "ckpt.go:134", after := #[{ on := 7, ground := Ground.data }, { on := 7, ground := Ground.chain }, { on := 0, ground := Ground.phase }, { on := 1, ground := Ground.phase }, { on := 2, ground := Ground.phase }, { on := 3, ground := Ground.phase }, { on := 4, ground := Ground.phase }, { on := 5, ground := Ground.phase }, { on := 6, ground := Ground.phase }, { on := 7, ground := Ground.phase }], guard := none }) rfl (fun K hK => ?_) AllReadyH.nil
        go_simp
        refine hK.out _ _ hHeld4 (fun _ => ?_)
        clear hK K
        refine wpAnyH_done (by kernel_rfl) ?_ _
        obtain ⟨hwr, hbz, hsz⟩ := HZ.out
        have hBd : w.heap.size + 2 ≤ U.heap.size := HGe.out
        have hcast : (a : Int) + (1 + (k : Int)) = (((a + 1 + k : Nat) : Nat) : Int) := by omega
        rw [hcast] at hwr
        have HN := hide (HT3.out.next hwr hBd hown hgrow (fun j e => by
          cases e
          rcases hat with h1 | h1
          · exact Or.inl h1
          · exact Or.inr (by rw [h1]; simp)))
        clear hwr hbz hsz hBd hcast hown hgrow hat hlt1 hcw hfw hHeld hHeld1 hHeld2 hHeld3 hHeld4 c0 c1 c2 c3 c4 c01 c02
        generalize w1.setCell ⟨w.heap.size + 1, 0, none⟩ (.slice (some ⟨g2, 0, none⟩) (k + 1) cap) = W9 at *
        go_wp2
        go_roundw
        case rel => exact ⟨k + 1, _, _, hlt, by go_num, HN.out⟩
        case measure => simp [intOf]; omega
      · go_simp
        refine (HWr.out _).mono ?_
        rintro e z1 ⟨rfl, hwr, hbz, hsz⟩
        have hHeld1 := held_below hHeld hbz
        have HT3 := hide (HT2.out.keep hbz)
        have c01 := HT3.out.cells.1
        have HZ := hide (And.intro hwr (And.intro hbz hsz))
        clear hwr hbz hsz
        go_wp2_with fail
        refine hK.out _ _ hHeld1 (fun _ => ?_)
        clear hK K
        (try go_frame)
        refine wpAnyH_ready (rs := [0, 6]) (by kernel_rfl) (by simp) ?_
        refine AllReadyH.cons (o := { dst := some 20, op := Op.load 195 (Operand.tmp 5), type := 195, pos := "ckpt.go:134", after := #[], guard := none }) rfl (fun K hK => ?_) (AllReadyH.cons (o := { dst := some 26, op := Op.buildSlice 195 1 #[(0, Operand.tmp 25)], type := 195, pos := "ckpt.go:134", after := #[{ on := 5, ground := Ground.data }], guard := none }) rfl (fun K hK => ?_) AllReadyH.nil)
        · go_simp
          refine hK.out _ _ hHeld1 (fun _ => ?_)
          clear hK K
          (try go_frame)
          refine wpAnyH_ready (rs := [6]) (by kernel_rfl) (by simp) ?_
          refine AllReadyH.cons (o := { dst := some 26, op := Op.buildSlice 195 1 #[(0, Operand.tmp 25)], type := 195, pos := "ckpt.go:134", after := #[{ on := 5, ground := Ground.data }], guard := none }) rfl (fun K hK => ?_) AllReadyH.nil
          have hHeld2 := held_below hHeld1 (one_below z1 (.cells #[wrV U.heap.size] 169))
          have HT4 := hide (HT3.out.keep (one_below z1 (.cells #[wrV U.heap.size] 169)))
          have c02 := HT4.out.cells.1
          unfold wrV
          go_simp
          change K _ (z1.alloc (.cells #[wrV U.heap.size] 169))
          refine hK.out _ _ hHeld2 (fun _ => ?_)
          clear hK K
          (try go_frame)
          refine wpAnyH_ready (rs := [7]) (by kernel_rfl) (by simp) ?_
          refine AllReadyH.cons (o := { dst := some 27, op := Op.call { callee := Callee.builtin Builtin.append, args := #[Operand.tmp 20, Operand.tmp 26], argTypes := #[195, 195] }, type := 195, pos := "ckpt.go:134", after := #[{ on := 0, ground := Ground.data }, { on := 6, ground := Ground.data }, { on := 5, ground := Ground.chain }], guard := none }) rfl (fun K hK => ?_) AllReadyH.nil
          refine step_append_lies _ (by rfl) _ _ _ (by rfl) 0 169 i0 (.nilFunc) 1 8 Tryz.underlying195 HI.out.1 HI.out.2.1 HI.out.2.2.1 HI.out.2.2.2 rfl (by decide) vS k _ (by rfl) HT4.out.row ⟨z1.heap.size, 0, none⟩ 1 1 [wrV U.heap.size] (by rfl) rfl (newsW _ _) (oneW _) (by decide) (by unfold maxLen; omega) (by omega) (by omega) _ rfl ?_
          intro g2 cap w1 hown hgrow hat hlt1
          obtain ⟨hcw, hfw⟩ := HT3.out.boxAfter hgrow
          obtain ⟨s0, s1, s2, s3⟩ := HT3.out.still hHeld1.2.2.2.2 hgrow (.slice (some ⟨g2, 0, none⟩) (k + 1) cap)
          have hHeld3 := held_of hHeld1 s0 s1
          have hHeld4 := held_of hHeld1 s2 s3
          refine K_put (K := K) 27 rfl ?_
          refine hK.out _ _ hHeld3 (fun _ => ?_)
          clear hK K s0 s1 s2 s3
          simp only [List.setIfInBounds_toArray, List.set_cons_succ, List.set_cons_zero]
          refine wpAnyH_ready (rs := [8]) (by kernel_rfl) (by simp) ?_
          refine AllReadyH.cons (o := { dst := none, op := Op.store 195 (Operand.tmp 5) (Operand.tmp 27), type := 0, pos := "ckpt.go:134", after := #[{ on := 7, ground := Ground.data }, { on := 7, ground := Ground.chain }, { on := 0, ground := Ground.phase }, { on := 1, ground := Ground.phase }, { on := 2, ground := Ground.phase }, { on := 3, ground := Ground.phase }, { on := 4, ground := Ground.phase }, { on := 5, ground := Ground.phase }, { on := 6, ground := Ground.phase }, { on := 7, ground := Ground.phase }], guard := none }) rfl (fun K hK => ?_) AllReadyH.nil
          go_simp
          refine hK.out _ _ hHeld4 (fun _ => ?_)
          clear hK K
          refine wpAnyH_done (by kernel_rfl) ?_ _
          obtain ⟨hwr, hbz, hsz⟩ := HZ.out
          have hBd : w.heap.size + 2 ≤ U.heap.size := HGe.out
          have hcast : (a : Int) + (1 + (k : Int)) = (((a + 1 + k : Nat) : Nat) : Int) := by omega
          rw [hcast] at hwr
          have HN := hide (HT3.out.next hwr hBd hown hgrow (fun j e => by
            cases e
            rcases hat with h1 | h1
            · exact Or.inl h1
            · exact Or.inr (by rw [h1]; simp)))
          clear hwr hbz hsz hBd hcast hown hgrow hat hlt1 hcw hfw hHeld hHeld1 hHeld2 hHeld3 hHeld4 c0 c1 c2 c3 c4 c01 c02
          generalize w1.setCell ⟨w.heap.size + 1, 0, none⟩ (.slice (some ⟨g2, 0, none⟩) (k + 1) cap) = W9 at *
          go_wp2
          go_roundw
          case rel => exact ⟨k + 1, _, _, hlt, by go_num, HN.out⟩
          case measure => simp [intOf]; omega
        · have hHeld2 := held_below hHeld1 (one_below z1 (.cells #[wrV U.heap.size] 169))
          have HT4 := hide (HT3.out.keep (one_below z1 (.cells #[wrV U.heap.size] 169)))
          have c02 := HT4.out.cells.1
          unfold wrV
          go_simp
          change K _ (z1.alloc (.cells #[wrV U.heap.size] 169))
          refine hK.out _ _ hHeld2 (fun _ => ?_)
          clear hK K
          (try go_frame)
          refine wpAnyH_ready (rs := [0]) (by kernel_rfl) (by simp) ?_
          refine AllReadyH.cons (o := { dst := some 20, op := Op.load 195 (Operand.tmp 5), type := 195, pos := "ckpt.go:134", after := #[], guard := none }) rfl (fun K hK => ?_) AllReadyH.nil
          go_simp
          refine hK.out _ _ hHeld2 (fun _ => ?_)
          clear hK K
          (try go_frame)
          refine wpAnyH_ready (rs := [7]) (by kernel_rfl) (by simp) ?_
          refine AllReadyH.cons (o := { dst := some 27, op := Op.call { callee := Callee.builtin Builtin.append, args := #[Operand.tmp 20, Operand.tmp 26], argTypes := #[195, 195] }, type := 195, pos := "ckpt.go:134", after := #[{ on := 0, ground := Ground.data }, { on := 6, ground := Ground.data }, { on := 5, ground := Ground.chain }], guard := none }) rfl (fun K hK => ?_) AllReadyH.nil
          refine step_append_lies _ (by rfl) _ _ _ (by rfl) 0 169 i0 (.nilFunc) 1 8 Tryz.underlying195 HI.out.1 HI.out.2.1 HI.out.2.2.1 HI.out.2.2.2 rfl (by decide) vS k _ (by rfl) HT4.out.row ⟨z1.heap.size, 0, none⟩ 1 1 [wrV U.heap.size] (by rfl) rfl (newsW _ _) (oneW _) (by decide) (by unfold maxLen; omega) (by omega) (by omega) _ rfl ?_
          intro g2 cap w1 hown hgrow hat hlt1
          obtain ⟨hcw, hfw⟩ := HT3.out.boxAfter hgrow
          obtain ⟨s0, s1, s2, s3⟩ := HT3.out.still hHeld1.2.2.2.2 hgrow (.slice (some ⟨g2, 0, none⟩) (k + 1) cap)
          have hHeld3 := held_of hHeld1 s0 s1
          have hHeld4 := held_of hHeld1 s2 s3
          refine K_put (K := K) 27 rfl ?_
          refine hK.out _ _ hHeld3 (fun _ => ?_)
          clear hK K s0 s1 s2 s3
          simp only [List.setIfInBounds_toArray, List.set_cons_succ, List.set_cons_zero]
          refine wpAnyH_ready (rs := [8]) (by kernel_rfl) (by simp) ?_
          refine AllReadyH.cons (o := { dst := none, op := Op.store 195 (Operand.tmp 5) (Operand.tmp 27), type := 0, pos := "ckpt.go:134", after := #[{ on := 7, ground := Ground.data }, { on := 7, ground := Ground.chain }, { on := 0, ground := Ground.phase }, { on := 1, ground := Ground.phase }, { on := 2, ground := Ground.phase }, { on := 3, ground := Ground.phase }, { on := 4, ground := Ground.phase }, { on := 5, ground := Ground.phase }, { on := 6, ground := Ground.phase }, { on := 7, ground := Ground.phase }], guard := none }) rfl (fun K hK => ?_) AllReadyH.nil
          go_simp
          refine hK.out _ _ hHeld4 (fun _ => ?_)
          clear hK K
          refine wpAnyH_done (by kernel_rfl) ?_ _
          obtain ⟨hwr, hbz, hsz⟩ := HZ.out
          have hBd : w.heap.size + 2 ≤ U.heap.size := HGe.out
          have hcast : (a : Int) + (1 + (k : Int)) = (((a + 1 + k : Nat) : Nat) : Int) := by omega
          rw [hcast] at hwr
          have HN := hide (HT3.out.next hwr hBd hown hgrow (fun j e => by
            cases e
            rcases hat with h1 | h1
            · exact Or.inl h1
            · exact Or.inr (by rw [h1]; simp)))
          clear hwr hbz hsz hBd hcast hown hgrow hat hlt1 hcw hfw hHeld hHeld1 hHeld2 hHeld3 hHeld4 c0 c1 c2 c3 c4 c01 c02
          generalize w1.setCell ⟨w.heap.size + 1, 0, none⟩ (.slice (some ⟨g2, 0, none⟩) (k + 1) cap) = W9 at *
          go_wp2
          go_roundw
          case rel => exact ⟨k + 1, _, _, hlt, by go_num, HN.out⟩
          case measure => simp [intOf]; omega
    · have hke : k = n := by omega
      subst hke
      have hz : ¬ ((k : Int) < (k : Int)) := by omega
      clear hlt hk hn
      go_wp2
      go_ret
      exact ⟨rfl, vS, Bs, HT.out⟩
end Go.Proofs.YtchhojkhfdkhfaaGreatDoor
namespace Go.Proofs.YtchhojkhfdkhfaaGreatDoor
open Go Go.RowKit Frm
theorem act_sync (u : World) (q m : Nat) (K : Nat → Prop) : ActAt u q K (.func (.func 54) #[.pointer (some ⟨q, 0, none⟩)] #[]) St.sync m := by
  refine ⟨Or.inr (Or.inl ⟨q, rfl⟩), fun st F w _ _ hD _ hok hm n a e => ?_, fun st hok => ⟨hok.sync, ?_⟩⟩
  · cases e
    exact con.sync q st F w hD hok (by omega)
  · unfold St.sync
    split
    · show st.loose.length ≤ _; omega
    · show 0 ≤ _; omega
theorem write_few (st : St) (b : Int) (d : ByteArray) : (st.write b d).2.loose.length ≤ st.loose.length + 1 := by
  unfold St.write
  split
  · show st.loose.length ≤ _; omega
  · split
    · show st.loose.length ≤ _; omega
    · split
      · show st.loose.length ≤ _; omega
      · show (st.loose ++ [_]).length ≤ _; simp
theorem act_write (u : World) (q B m : Nat) (K : Nat → Prop) (b : Int) (d : ByteArray) (h : WrAt u B q b d) (hK : K B ∧ K (B + 1) ∧ K (B + 1 + 1)) (hm : 1 ≤ m) (hb : -9223372036854775808 ≤ b ∧ b ≤ 9223372036854775807) : ActAt u q K (wrV B) (fun s => s.write b d) m := by
  refine ⟨Or.inl ⟨B, rfl⟩, fun st F w _ hk hD _ hok hl n a e => ?_, fun st hok => ⟨hok.write b d, Nat.le_trans (write_few st b d) (by omega)⟩⟩
  cases e
  exact writing1_any B q b d st F w (h.same (hk _ hK.1) (hk _ hK.2.1) (hk _ hK.2.2)) hD hok (by omega) hb
theorem ActAt.more {u : World} {q m m' : Nat} {K K' : Nat → Prop} {v : Value} {f : St → Nat × St} (h : ActAt u q K v f m) (hK : ∀ k, K k → K' k) (hm : m ≤ m') : ActAt u q K' v f m' :=
  ⟨h.form, fun st F w hs hk hD hF hok hl => h.calls st F w hs (fun k kk => hk k (hK k kk)) hD (fun k kk => hF k (hK k kk)) hok (by omega), fun st hok => ⟨(h.ok st hok).1, Nat.le_trans (h.ok st hok).2 (by omega)⟩⟩
/-- The writes of a text's blocks. -/
def wrs (o : Nat) (t : ByteArray) (i n : Nat) : List (St → Nat × St) := (List.range' i n).map fun j => fun s => s.write ((o + j : Nat) : Int) (blkT t j)
theorem runs_wrs (o : Nat) (t : ByteArray) : ∀ (n i : Nat) (st : St), runs (wrs o t i n) st = putsT o t n i st
  | 0, _, _ => rfl
  | n + 1, i, st => by
    unfold wrs
    rw [List.range'_succ, List.map_cons]
    show andT _ (runs _) = andT _ _
    congr 1
    funext s
    exact runs_wrs o t n (i + 1) s
theorem putsT_ok (o : Nat) (t : ByteArray) : ∀ (n i : Nat) (st : St), st.Ok → (putsT o t n i st).2.Ok ∧ (putsT o t n i st).2.loose.length ≤ st.loose.length + n
  | 0, _, st, h => ⟨h, Nat.le_refl _⟩
  | n + 1, i, st, h => by
    have h1 := h.write ((o + i : Nat) : Int) (blkT t i)
    have h2 := write_few st ((o + i : Nat) : Int) (blkT t i)
    show (andT (st.write ((o + i : Nat) : Int) (blkT t i)) (putsT o t n (i + 1))).2.Ok ∧ (andT (st.write ((o + i : Nat) : Int) (blkT t i)) (putsT o t n (i + 1))).2.loose.length ≤ _
    unfold andT
    split
    · have h3 := putsT_ok o t n (i + 1) _ h1
      exact ⟨h3.1, by omega⟩
    · exact ⟨h1, by omega⟩
set_option maxRecDepth 10000 in
set_option maxHeartbeats 1000000 in
theorem inOrder_none (w : World) : Calls Tryz.prog 108 #[.slice none 0 0] w fun e v => e = .returned (.int .i64 0) ∧ v = w := by
  go_enter Tryz.func108, Tryz.ntmps108
  go_wp2_with fail
  go_loopw [4, 5, 8] (fun d e i wr => i = .int .i64 0 ∧ wr = w) (fun _ _ i _ => 0)
  case atStart => exact ⟨rfl, rfl⟩
  case round =>
    obtain ⟨rfl, hw⟩ := hrel
    obtain rfl := hw.symm
    go_wp2
    go_ret
    exact ⟨rfl, rfl⟩
set_option maxRecDepth 10000 in
set_option maxHeartbeats 1000000 in
/-- The step that writes a text. -/
theorem text1_any (p q o : Nat) (t : ByteArray) (vS : Value) (Bs : List Nat) (st : St) (F : Nat → Prop) (w : World) (hn : Bs.length ≤ 4000) (ho : o ≤ 9000) (hbox : w.cell? ⟨p, 0, none⟩ = some vS) (hrow : w.ownsRow 0 169 1 vS Bs.length (Bs.map wrV)) (hvF : ∀ j, vS.ownBlock = some j → ¬ F j)
    (hacts : ∀ j (hj : j < Bs.length), WrAt w Bs[j] q (((o + j : Nat) : Nat) : Int) (blkT t j) ∧ ¬ F Bs[j] ∧ ¬ F (Bs[j] + 1) ∧ ¬ F (Bs[j] + 1 + 1)) (hD : DAt w q st F) (hok : st.Ok) (hm : st.loose.length + Bs.length ≤ 10000) :
    Calls Tryz.prog 131 #[.pointer (some ⟨p, 0, none⟩)] w fun e v => e = .returned (.int .i64 (((putsT o t Bs.length 0 st).1 : Nat) : Int)) ∧ ∃ F', DAt v q (putsT o t Bs.length 0 st).2 F' ∧ Loc F F' w v := by
  have KC : Hid (Calls Tryz.prog 108 #[vS] w fun e v => e = .returned (.int .i64 (((putsT o t Bs.length 0 st).1 : Nat) : Int)) ∧ ∃ F', DAt v q (putsT o t Bs.length 0 st).2 F' ∧ Loc F F' w v) := by
    rcases hrow.2 with ⟨rfl, h0⟩ | ⟨g, cap, cur, rfl, hg, hh, hc, hx⟩
    · rw [h0]
      refine (inOrder_none w).mono ?_
      rintro e v ⟨rfl, rfl⟩
      exact ⟨rfl, F, hD, Loc.refl _ _⟩
    · rw [← runs_wrs]
      have hlen : (Bs.map wrV).length = Bs.length := List.length_map ..
      have hK : ∀ k, (∃ j, ∃ hj : j < Bs.length, k = Bs[j] ∨ k = Bs[j] + 1 ∨ k = Bs[j] + 1 + 1) → k < w.heap.size ∧ ¬ F k := by
        rintro k ⟨j, hj, hk⟩
        obtain ⟨h1, h2, h3, h4⟩ := hacts j hj
        have := h1.lt
        rcases hk with rfl | rfl | rfl
        · exact ⟨by omega, h2⟩
        · exact ⟨by omega, h3⟩
        · exact ⟨by omega, h4⟩
      have := inOrder_any q g 0 cap 1 (Bs.map wrV) (wrs o t 0 Bs.length) (fun k => ∃ j, ∃ hj : j < Bs.length, k = Bs[j] ∨ k = Bs[j] + 1 ∨ k = Bs[j] + 1 + 1) st F w (by unfold wrs; simp) (by rw [hlen]; omega)
        (fun j hj => by
          have hx := World.ownsRow.cells hrow (g := g) rfl j (Bs.map wrV)[j] (List.getElem?_eq_getElem hj)
          rw [add_at] at hx
          rw [Nat.zero_add]
          exact hx) (own_lt hrow rfl) (hvF g rfl)
        (fun j hj hf => by
          have hj2 : j < Bs.length := by rw [hlen] at hj; exact hj
          have e1 : (Bs.map wrV)[j] = wrV Bs[j] := List.getElem_map ..
          have e2 : (wrs o t 0 Bs.length)[j] = fun s => s.write ((o + j : Nat) : Int) (blkT t j) := by unfold wrs; simp
          rw [e1, e2]
          exact act_write w q Bs[j] 1 _ _ _ (hacts j hj2).1 ⟨⟨j, hj2, Or.inl rfl⟩, ⟨j, hj2, Or.inr (Or.inl rfl)⟩, ⟨j, hj2, Or.inr (Or.inr rfl)⟩⟩ (Nat.le_refl _) (by omega)) hD hok hK (by rw [hlen]; omega)
      rw [hlen] at this
      exact this
  clear hrow hacts hvF
  go_enter Tryz.func131, Tryz.ntmps131
  go_wp2_with fail
  refine KC.out.mono ?_
  rintro e w1 ⟨rfl, F1, h1, l1⟩
  go_wp2
  go_ret
  exact ⟨rfl, F1, h1, l1⟩
/-- The step that writes a text, as a step. -/
theorem act_text (u : World) (p q o m : Nat) (t : ByteArray) (vS : Value) (Bs : List Nat) (K : Nat → Prop) (hn : Bs.length ≤ 4000) (ho : o ≤ 9000) (hbox : u.cell? ⟨p, 0, none⟩ = some vS) (hrow : u.ownsRow 0 169 1 vS Bs.length (Bs.map wrV))
    (hK : K p ∧ (∀ j, vS.ownBlock = some j → K j) ∧ ∀ j (hj : j < Bs.length), K Bs[j] ∧ K (Bs[j] + 1) ∧ K (Bs[j] + 1 + 1)) (hacts : ∀ j (hj : j < Bs.length), WrAt u Bs[j] q (((o + j : Nat) : Nat) : Int) (blkT t j)) (hm : Bs.length ≤ m) :
    ActAt u q K (.func (.func 131) #[] #[.pointer (some ⟨p, 0, none⟩)]) (putsT o t Bs.length 0) m := by
  refine ⟨Or.inr (Or.inr ⟨p, rfl⟩), fun st F w _ hk hD hKF hok hl n a e => ?_, fun st hok => ⟨(putsT_ok o t _ 0 st hok).1, Nat.le_trans (putsT_ok o t _ 0 st hok).2 (by omega)⟩⟩
  cases e
  refine text1_any p q o t vS Bs st F w hn ho ((World.cell?_of_block (a := ⟨p, 0, none⟩) (hk _ hK.1)).trans hbox) (own_same hrow (fun j hj => hk j (hK.2.1 j hj))) (fun j hj => hKF j (hK.2.1 j hj)) (fun j hj => ?_) hD hok (by omega)
  obtain ⟨k1, k2, k3⟩ := hK.2.2 j hj
  exact ⟨(hacts j hj).same (hk _ k1) (hk _ k2) (hk _ k3), hKF _ k1, hKF _ k2, hKF _ k3⟩
end Go.Proofs.YtchhojkhfdkhfaaGreatDoor
