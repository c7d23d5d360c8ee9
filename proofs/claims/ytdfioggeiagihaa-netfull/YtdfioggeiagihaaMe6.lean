/- The program's net: Send, Double. -/
import Derived.Test.YtdfioggeiagihaaMe5
import Derived.Test.YtdfioggeiagihaaMe2
import Derived.Test.YtdfioggeiagihaaClo
namespace Go.Proofs.Ytdfioggeiagihaa
open Go Go.RowKit

theorem sendN_is (st : Nt) (a b : Int) (s : ByteArray) : (⟨st.l ++ [(⟨0, a, b, s, 0⟩ : Lt).as (st.n + 1)], st.n + 1, st.p⟩ : Nt) = sendN st a b s := rfl
theorem doubleN_is (st : Nt) (x : Lt) : (⟨st.l ++ [x.as (st.n + 1)], st.n + 1, st.p⟩ : Nt) = doubleN st x := rfl
theorem Nt.send_a {st : Nt} {a b : Int} {s : ByteArray} (h : (adr a && adr b) = false) : st.send a b s = (0, 2, st) := by unfold Nt.send; rw [if_pos h]
theorem Nt.send_l {st : Nt} {a b : Int} {s : ByteArray} (ha : adr a = true) (hb : adr b = true) (hs : 131072 < s.size) : st.send a b s = (0, 4, st) := by
  unfold Nt.send; rw [ha, hb]; simp [hs]
theorem Nt.send_f {st : Nt} {a b : Int} {s : ByteArray} (ha : adr a = true) (hb : adr b = true) (hs : ¬ 131072 < s.size) (hl : 4096 ≤ st.l.length) : st.send a b s = (0, 6, st) := by
  unfold Nt.send; rw [ha, hb]; simp [hs, hl]
set_option maxRecDepth 10000 in
set_option maxHeartbeats 2000000 in
theorem pSend (p b : Nat) (vL : Value) (st : Nt) (m : Nat) (x y : Int) (s : ByteArray) (w : World) (h : PAt w p b vL st) (hok : st.Ok m) (hm : m ≤ 1099511627776) (hs : s.size ≤ 140737488351232) :
    Calls Try.prog 11 #[.pointer (some ⟨p, 0, none⟩), .int .i64 x, .int .i64 y, .string s] w fun e w' => e = .returned (.tuple #[.int .u64 (((st.send x y s).1 : Nat) : Int), .int .i64 (((st.send x y s).2.1 : Nat) : Int)]) ∧ ∃ vL', PAt w' p b vL' (st.send x y s).2.2 ∧ Loc (PF p b vL) (PF p b vL') w w' := by
  have KM := hide (pMade p b vL st w h)
  have KA := hide (pAddr x w)
  have KB := hide (pAddr y w)
  have KC := hide (clone_any s w (by omega))
  have H := hide h
  have KP : Hid (∀ z : World, PAt z p b vL st → Calls Try.prog 35 #[.pointer (some ⟨p, 0, none⟩), .agg #[.int .u64 0, .int .i64 x, .int .i64 y, .string s, .int .i64 0]] z fun e w' => (4096 ≤ st.l.length ∧ e = .returned (.tuple #[.int .u64 0, .int .i64 6]) ∧ Below z.heap.size z w') ∨
      (st.l.length < 4096 ∧ e = .returned (.tuple #[.int .u64 ((st.n + 1 : Nat) : Int), .int .i64 0]) ∧ ∃ vL', PAt w' p b vL' (sendN st x y s) ∧ Loc (PF p b vL) (PF p b vL') z w')) := fun z hz => pPut p b vL st m ⟨0, x, y, s, 0⟩ z hz hok hm
  clear h hok hm
  cases hx : adr x with
  | false =>
    have HE := hide (Nt.send_a (st := st) (a := x) (b := y) (s := s) (by rw [hx]; rfl))
    rw [hx] at KA
    clear hx hs
    go_enter Try.func11, Try.ntmps11
    go_wp2_with fail
    refine KM.out.mono ?_
    rintro e w1 ⟨rfl, hw⟩
    obtain rfl := hw.symm
    clear hw
    go_wp2_with fail
    refine KA.out.mono ?_
    rintro e w1 ⟨rfl, hw⟩
    obtain rfl := hw.symm
    clear hw
    go_wp2
    go_ret2
    exact ⟨by rw [HE.out]; rfl, vL, by rw [HE.out]; exact H.out, Loc.refl _ _⟩
  | true =>
    cases hy : adr y with
    | false =>
      have HE := hide (Nt.send_a (st := st) (a := x) (b := y) (s := s) (by rw [hx, hy]; rfl))
      rw [hx] at KA
      rw [hy] at KB
      clear hx hy hs
      go_enter Try.func11, Try.ntmps11
      go_wp2_with fail
      refine KM.out.mono ?_
      rintro e w1 ⟨rfl, hw⟩
      obtain rfl := hw.symm
      clear hw
      go_wp2_with fail
      refine KA.out.mono ?_
      rintro e w1 ⟨rfl, hw⟩
      obtain rfl := hw.symm
      clear hw
      go_wp2_with fail
      refine KB.out.mono ?_
      rintro e w1 ⟨rfl, hw⟩
      obtain rfl := hw.symm
      clear hw
      go_wp2
      go_ret2
      exact ⟨by rw [HE.out]; rfl, vL, by rw [HE.out]; exact H.out, Loc.refl _ _⟩
    | true =>
      by_cases hsz : 131072 < s.size
      · have HE := hide (Nt.send_l (st := st) hx hy hsz)
        rw [hx] at KA
        rw [hy] at KB
        have hz : (131072 : Int) < (s.size : Int) := by omega
        clear hx hy
        go_enter Try.func11, Try.ntmps11
        go_wp2_with fail
        refine KM.out.mono ?_
        rintro e w1 ⟨rfl, hw⟩
        obtain rfl := hw.symm
        clear hw
        go_wp2_with fail
        refine KA.out.mono ?_
        rintro e w1 ⟨rfl, hw⟩
        obtain rfl := hw.symm
        clear hw
        go_wp2_with fail
        refine KB.out.mono ?_
        rintro e w1 ⟨rfl, hw⟩
        obtain rfl := hw.symm
        clear hw
        go_wp2
        go_ret2
        exact ⟨by rw [HE.out]; rfl, vL, by rw [HE.out]; exact H.out, Loc.refl _ _⟩
      · have hz : ¬ (131072 : Int) < (s.size : Int) := by omega
        have HEf : Hid (4096 ≤ st.l.length → st.send x y s = (0, 6, st)) := fun hl => Nt.send_f hx hy hsz hl
        have HEo : Hid (st.l.length < 4096 → st.send x y s = (st.n + 1, 0, sendN st x y s)) := fun hl => Nt.send_ok hx hy hsz (by omega)
        rw [hx] at KA
        rw [hy] at KB
        clear hx hy
        go_enter Try.func11, Try.ntmps11
        go_wp2_with fail
        refine KM.out.mono ?_
        rintro e w1 ⟨rfl, hw⟩
        obtain rfl := hw.symm
        clear hw
        go_wp2_with fail
        refine KA.out.mono ?_
        rintro e w1 ⟨rfl, hw⟩
        obtain rfl := hw.symm
        clear hw
        go_wp2_with fail
        refine KB.out.mono ?_
        rintro e w1 ⟨rfl, hw⟩
        obtain rfl := hw.symm
        clear hw
        go_wp2_with fail
        refine KC.out.mono ?_
        rintro e w2 ⟨rfl, hb2⟩
        have HB2 := hide hb2
        have H2 := hide (H.out.below hb2)
        clear hb2 KM KA KB KC
        go_wp2_with fail
        refine (KP.out _ H2.out).mono ?_
        rintro e w3 (⟨hl, rfl, hb⟩ | ⟨hl, rfl, vL', hp, hlc⟩)
        · have HE := hide (HEf.out hl)
          have H3 := hide (H2.out.below hb)
          have HL3 := hide (Loc.of_below (PF p b vL) (bnext HB2.out hb))
          clear hl hb
          go_wp2
          go_ret2
          exact ⟨by rw [HE.out]; rfl, vL, by rw [HE.out]; exact H3.out, HL3.out⟩
        · have HE := hide (HEo.out hl)
          have H3 := hide hp
          have HL3 := hide ((Loc.of_below (PF p b vL) HB2.out).trans hlc)
          clear hl hp hlc
          go_wp2
          go_ret2
          exact ⟨by rw [HE.out]; rfl, vL', by rw [HE.out]; exact H3.out, HL3.out⟩
theorem nSend (x y : Int) (w : World) : Calls Try.prog 11 #[.pointer none, .int .i64 x, .int .i64 y, .string ⟨#[]⟩] w fun e w' => e = .returned (.tuple #[.int .u64 0, .int .i64 1]) ∧ w' = w := by
  have KM := hide (nMade w)
  go_enter Try.func11, Try.ntmps11
  go_wp2_with fail
  refine KM.out.mono ?_
  rintro e w1 ⟨rfl, hw⟩
  obtain rfl := hw.symm
  clear hw
  go_wp2
  go_ret2
  exact ⟨rfl, rfl⟩
theorem Nt.double_f {st : Nt} {id : Nat} {x : Lt} (h : st.find id = some x) (hl : 4096 ≤ st.l.length) : st.double id = (0, 6, st) := by
  unfold Nt.double; rw [h]; simp [hl]
theorem Nt.double_o {st : Nt} {id : Nat} {x : Lt} (h : st.find id = some x) (hl : st.l.length < 4096) : st.double id = (st.n + 1, 0, doubleN st x) := by
  unfold Nt.double; rw [h]; simp; omega
theorem Nt.double_n {st : Nt} {id : Nat} (h : st.find id = none) : st.double id = (0, 5, st) := by
  unfold Nt.double; rw [h]
set_option maxRecDepth 10000 in
set_option maxHeartbeats 2000000 in
theorem pDouble (p b : Nat) (vL : Value) (st : Nt) (m : Nat) (id : Nat) (w : World) (h : PAt w p b vL st) (hok : st.Ok m) (hm : m ≤ 1099511627776) :
    Calls Try.prog 16 #[.pointer (some ⟨p, 0, none⟩), .int .u64 (id : Int)] w fun e w' => e = .returned (.tuple #[.int .u64 (((st.double id).1 : Nat) : Int), .int .i64 (((st.double id).2.1 : Nat) : Int)]) ∧ ∃ vL', PAt w' p b vL' (st.double id).2.2 ∧ Loc (PF p b vL) (PF p b vL') w w' := by
  have KF := hide (pFind p b vL st m id w h hok)
  have H := hide h
  have HOk := hide hok
  clear h hok
  go_enter Try.func16, Try.ntmps16
  go_wp2_with fail
  refine KF.out.mono ?_
  rintro e w1 ⟨hb1, ⟨hf, rfl⟩ | ⟨k, hk, hf, hid, rfl⟩⟩
  · have HE := hide (Nt.double_n hf)
    have H1 := hide (H.out.below hb1)
    have HB1 := hide (Loc.of_below (PF p b vL) hb1)
    clear hf hb1
    go_wp2
    go_ret2
    exact ⟨by rw [HE.out]; rfl, vL, by rw [HE.out]; exact H1.out, HB1.out⟩
  · have H1 := hide (H.out.below hb1)
    have HB1 := hide (Loc.of_below (PF p b vL) hb1)
    have KP : Hid (∀ z : World, PAt z p b vL st → Calls Try.prog 35 #[.pointer (some ⟨p, 0, none⟩), st.l[k].val] z fun e w' => (4096 ≤ st.l.length ∧ e = .returned (.tuple #[.int .u64 0, .int .i64 6]) ∧ Below z.heap.size z w') ∨
      (st.l.length < 4096 ∧ e = .returned (.tuple #[.int .u64 ((st.n + 1 : Nat) : Int), .int .i64 0]) ∧ ∃ vL', PAt w' p b vL' (doubleN st st.l[k]) ∧ Loc (PF p b vL) (PF p b vL') z w')) := fun z hz => pPut p b vL st m st.l[k] z hz HOk.out hm
    have HEf : Hid (4096 ≤ st.l.length → st.double id = (0, 6, st)) := fun hl => Nt.double_f hf hl
    have HEo : Hid (st.l.length < 4096 → st.double id = (st.n + 1, 0, doubleN st st.l[k])) := fun hl => Nt.double_o hf hl
    obtain ⟨g, c', rfl, -, -, h4, -⟩ := H1.out.letter (by omega)
    obtain ⟨g0, g1, g2, g3, g4⟩ := h4 k hk
    obtain ⟨c0, c1, c2⟩ := H1.out.cells
    have hkz : (k : Int) < (st.l.length : Int) := by omega
    clear hf hid hb1 h4 KF hm
    generalize st.l[k] = y at *
    obtain ⟨yi, ya, yb, ys, yg⟩ := y
    dsimp only at *
    go_wp2_with fail
    refine (KP.out _ H1.out).mono ?_
    rintro e w3 (⟨hl, rfl, hb⟩ | ⟨hl, rfl, vL', hp, hlc⟩)
    · have HE := hide (HEf.out hl)
      have H3 := hide (H1.out.below hb)
      have HL3 := hide (HB1.out.trans (Loc.of_below _ hb))
      clear hl hb g0 g1 g2 g3 g4 c0 c1 c2
      go_wp2
      go_ret2
      exact ⟨by rw [HE.out]; rfl, _, by rw [HE.out]; exact H3.out, HL3.out⟩
    · have HE := hide (HEo.out hl)
      have H3 := hide hp
      have HL3 := hide (HB1.out.trans hlc)
      clear hl hp hlc g0 g1 g2 g3 g4 c0 c1 c2
      go_wp2
      go_ret2
      exact ⟨by rw [HE.out]; rfl, vL', by rw [HE.out]; exact H3.out, HL3.out⟩
theorem nDouble (id : Nat) (w : World) : Calls Try.prog 16 #[.pointer none, .int .u64 (id : Int)] w fun e w' => e = .returned (.tuple #[.int .u64 0, .int .i64 1]) ∧ w' = w := by
  have KF := hide (nFind id w)
  go_enter Try.func16, Try.ntmps16
  go_wp2_with fail
  refine KF.out.mono ?_
  rintro e w1 ⟨hw, rfl⟩
  obtain rfl := hw.symm
  clear hw
  go_wp2
  go_ret2
  exact ⟨rfl, rfl⟩
end Go.Proofs.Ytdfioggeiagihaa
