/- The program's stores: goOn's steps. The program's stores: goOn. The program's stores: Trim's own step. The program's stores: what lies in memory, what is told. The program's stores: Append. The program's stores: Sync, Trim. The program's stores: Make's walk. The program's stores: Make. -/
import Derived.Test.YtchhojkhfdkhfaaGreatDoorM35
import Derived.Test.YtchhojkhfdkhfaaGreatDoorM02
import Derived.Test.YtchhojkhfdkhfaaGreatDoorM34
namespace Go.Proofs.YtchhojkhfdkhfaaGreatDoor
open Go Go.RowKit Frm
/-- What goOn's steps do to the disk: the first error, and the disk. -/
def goR (st : St) (ck lg g : Nat) (t : ByteArray) : Nat × St :=
  if (walClear st (lo ck lg g) lg).1 ≠ 0 then walClear st (lo ck lg g) lg
  else if ((walClear st (lo ck lg g) lg).2.save 0 (2 * (ck : Int)) g t).1 ≠ 0 then (walClear st (lo ck lg g) lg).2.save 0 (2 * (ck : Int)) g t
  else ((walOpen ((walClear st (lo ck lg g) lg).2.save 0 (2 * (ck : Int)) g t).2 (lo ck lg g) lg).1.1, (walOpen ((walClear st (lo ck lg g) lg).2.save 0 (2 * (ck : Int)) g t).2 (lo ck lg g) lg).2)
/-- .. and the stream of the log that was opened. -/
def goS (st : St) (ck lg g : Nat) (t : ByteArray) : ByteArray := (walOpen ((walClear st (lo ck lg g) lg).2.save 0 (2 * (ck : Int)) g t).2 (lo ck lg g) lg).1.2.1
/-- A disk, and a box of the caller's, since u0. -/
def Bs8 (q Bn : Nat) (F : Nat → Prop) (u0 : World) (st : St) (v : World) : Prop :=
  ∃ F', DAt v q st F' ∧ Loc (fun k => F k ∨ k = Bn) (fun k => F' k ∨ k = Bn) u0 v ∧ ¬ F' Bn ∧ ∃ x y, v.heap[Bn]? = some (.cells #[x, y] 100 (0, 0))
theorem Bs8.same {q Bn : Nat} {F : Nat → Prop} {u0 v : World} {st : St} (h : Bs8 q Bn F u0 st v) (k : Nat) (hk : k < u0.heap.size) (hF : ¬ F k) (hn : k ≠ Bn) : v.heap[k]? = u0.heap[k]? := by
  obtain ⟨F', _, hl, _⟩ := h
  exact hl.block k hk (fun hh => hh.elim hF hn)
/-- What is read at goOn's steps. -/
structure GIn (p q b B1 B2 B3 B4 B5 Bs Bg Bn ck lg g : Nat) (t : ByteArray) (F : Nat → Prop) (u : World) : Prop where
  row : ∀ k (hk : k < 3), u.cell? ⟨b, 0 + k, none⟩ = some [Value.func (.func 76) #[] #[.pointer (some ⟨B1, 0, none⟩), .pointer (some ⟨B2, 0, none⟩)], .func (.func 79) #[] #[.pointer (some ⟨B3, 0, none⟩), .pointer (some ⟨B4, 0, none⟩), .pointer (some ⟨B5, 0, none⟩)], .func (.func 88) #[] #[.pointer (some ⟨Bs, 0, none⟩), .pointer (some ⟨Bg, 0, none⟩), .pointer (some ⟨Bn, 0, none⟩)]][k]
  a1 : ABox B1 B2 q (ck : Int) (lg : Int) (g : Int) u
  a2 : ABox B3 B4 q (ck : Int) (lg : Int) (g : Int) u
  t5 : u.cell? ⟨B5, 0, none⟩ = some (.string t)
  gb : GBx p q Bs Bg (ck : Int) (lg : Int) (g : Int) u
  nx : ∃ x y, u.heap[Bn]? = some (.cells #[x, y] 100 (0, 0))
  apart : ∀ k, (k = b ∨ k = B1 ∨ k = B2 ∨ k = B3 ∨ k = B4 ∨ k = B5 ∨ k = Bs ∨ k = Bg ∨ k = p) → ¬ F k ∧ k ≠ Bn
  nF : ¬ F Bn
theorem ABox.lt {B1 B2 q : Nat} {ck lg g : Int} {u : World} (h : ABox B1 B2 q ck lg g u) : B1 < u.heap.size ∧ B2 < u.heap.size := ⟨World.block_lt_of_cell? u _ h.1, World.block_lt_of_cell? u _ h.2.2.2⟩
theorem ABox.same {B1 B2 q : Nat} {ck lg g : Int} {u v : World} (h : ABox B1 B2 q ck lg g u) (h1 : v.heap[B1]? = u.heap[B1]?) (h2 : v.heap[B2]? = u.heap[B2]?) : ABox B1 B2 q ck lg g v :=
  ⟨(cell_same8 h1 0).trans h.1, (cell_same8 h1 1).trans h.2.1, (cell_same8 h1 2).trans h.2.2.1, (cell_same8 h2 0).trans h.2.2.2⟩
theorem GIn.at {p q b B1 B2 B3 B4 B5 Bs Bg Bn ck lg g : Nat} {t : ByteArray} {F : Nat → Prop} {u0 v : World} {st : St} (h : GIn p q b B1 B2 B3 B4 B5 Bs Bg Bn ck lg g t F u0) (hb : Bs8 q Bn F u0 st v) :
    (∀ k (hk : k < 3), v.cell? ⟨b, 0 + k, none⟩ = some [Value.func (.func 76) #[] #[.pointer (some ⟨B1, 0, none⟩), .pointer (some ⟨B2, 0, none⟩)], .func (.func 79) #[] #[.pointer (some ⟨B3, 0, none⟩), .pointer (some ⟨B4, 0, none⟩), .pointer (some ⟨B5, 0, none⟩)], .func (.func 88) #[] #[.pointer (some ⟨Bs, 0, none⟩), .pointer (some ⟨Bg, 0, none⟩), .pointer (some ⟨Bn, 0, none⟩)]][k]) ∧
    ABox B1 B2 q (ck : Int) (lg : Int) (g : Int) v ∧ ABox B3 B4 q (ck : Int) (lg : Int) (g : Int) v ∧ v.cell? ⟨B5, 0, none⟩ = some (.string t) ∧ GBx p q Bs Bg (ck : Int) (lg : Int) (g : Int) v := by
  have hs : ∀ k, k < u0.heap.size → (k = b ∨ k = B1 ∨ k = B2 ∨ k = B3 ∨ k = B4 ∨ k = B5 ∨ k = Bs ∨ k = Bg ∨ k = p) → v.heap[k]? = u0.heap[k]? := fun k hk hh => hb.same k hk (h.apart k hh).1 (h.apart k hh).2
  have hbl : b < u0.heap.size := World.block_lt_of_cell? u0 _ (h.row 0 (by decide))
  refine ⟨fun k hk => (cell_same8 (hs b hbl (Or.inl rfl)) _).trans (h.row k hk), h.a1.same (hs _ h.a1.lt.1 (by simp)) (hs _ h.a1.lt.2 (by simp)), h.a2.same (hs _ h.a2.lt.1 (by simp)) (hs _ h.a2.lt.2 (by simp)), (cell_same8 (hs B5 (World.block_lt_of_cell? u0 _ h.t5) (by simp)) 0).trans h.t5, h.gb.same (hs _ h.gb.lt.1 (by simp)) (hs _ h.gb.lt.2.1 (by simp)) (hs _ h.gb.lt.2.2 (by simp))⟩
/-- A call on the disk. -/
theorem Bs8.step {q Bn : Nat} {F F1 F2 : Nat → Prop} {u0 v z : World} {st2 : St} (hl : Loc (fun k => F k ∨ k = Bn) (fun k => F1 k ∨ k = Bn) u0 v) (hn : ¬ F1 Bn) (hr : ∃ x y, v.heap[Bn]? = some (.cells #[x, y] 100 (0, 0))) (h1 : DAt z q st2 F2) (h2 : Loc F1 F2 v z) : Bs8 q Bn F u0 st2 z := by
  obtain ⟨x, y, hr⟩ := hr
  have hlt := (Array.getElem?_eq_some_iff.1 hr).1
  refine ⟨F2, h1, hl.trans (h2.wide (X := fun k => k = Bn)), own_new h2 hn hlt, x, y, (h2.block _ hlt hn).trans hr⟩
/-- All steps were done. -/
def GOk (q Bn ck lg g : Nat) (t : ByteArray) (st : St) (F : Nat → Prop) (u v : World) : Prop :=
  ∃ pl F', DAt v q (goR st ck lg g t).2 F' ∧ Loc (fun k => F k ∨ k = Bn) (fun k => F' k ∨ k = Bn) u v ∧ ¬ F' Bn ∧ v.heap[Bn]? = some (.cells #[.iface 143 (.pointer (some ⟨pl, 0, none⟩)), .int .u64 (g : Int)] 100 (0, 0)) ∧ LAt v pl q (lo ck lg g) lg (goS st ck lg g t) false ∧ u.heap.size ≤ pl ∧ ¬ F' pl
theorem calls_eq {n : Nat} {a b : Array Value} {w : World} {P : Ending → World → Prop} (e : a = b) (h : Calls Tryz.prog n a w P) : Calls Tryz.prog n b w P := e ▸ h
set_option maxRecDepth 10000 in
set_option maxHeartbeats 1000000 in
theorem goSteps (p q b B1 B2 B3 B4 B5 Bs Bg Bn ck lg g : Nat) (t : ByteArray) (st : St) (F : Nat → Prop) (u : World) (c : Nat) (h : GIn p q b B1 B2 B3 B4 B5 Bs Bg Bn ck lg g t F u) (hD : DAt u q st F) (hok : st.Ok)
    (hl : st.loose.length + 3000 ≤ 8000) (hc : Conf ck lg st.sure.length) (hn : lg ≤ 200) (ht : t.size ≤ 65536) :
    Calls Tryz.prog 41 #[.slice (some ⟨b, 0, none⟩) 3 c] u fun e v => e = .returned (.int .i64 (((goR st ck lg g t).1 : Nat) : Int)) ∧ (((goR st ck lg g t).1 = 0 ∧ GOk q Bn ck lg g t st F u v) ∨ ((goR st ck lg g t).1 ≠ 0 ∧ Bs8 q Bn F u (goR st ck lg g t).2 v)) := by
  have hck := hc.ck256
  have hlf := lo_fit hc g
  have hlg1 := hc.lg1
  have hlg2 := hc.lg1024
  have hcl := clear_long (lo ck lg g) lg st (by omega)
  have hclf := clear_few st (lo ck lg g) lg
  have hokC := clear_ok hok (lo ck lg g) lg
  have hsl := save_long (walClear st (lo ck lg g) lg).2 0 (2 * (ck : Int)) g t
  have hsf := save_few (walClear st (lo ck lg g) lg).2 0 (2 * (ck : Int)) g t
  have hokS := save_ok8 hokC 0 (2 * (ck : Int)) g t
  have hnb : nb t.size ≤ 257 := by unfold nb; omega
  have key := inOrder8 b 0 c [Value.func (.func 76) #[] #[.pointer (some ⟨B1, 0, none⟩), .pointer (some ⟨B2, 0, none⟩)], .func (.func 79) #[] #[.pointer (some ⟨B3, 0, none⟩), .pointer (some ⟨B4, 0, none⟩), .pointer (some ⟨B5, 0, none⟩)], .func (.func 88) #[] #[.pointer (some ⟨Bs, 0, none⟩), .pointer (some ⟨Bg, 0, none⟩), .pointer (some ⟨Bn, 0, none⟩)]]
    (fun k v => (k = 0 ∧ Bs8 q Bn F u st v) ∨ (k = 1 ∧ (walClear st (lo ck lg g) lg).1 = 0 ∧ Bs8 q Bn F u (walClear st (lo ck lg g) lg).2 v) ∨ (k = 2 ∧ (walClear st (lo ck lg g) lg).1 = 0 ∧ ((walClear st (lo ck lg g) lg).2.save 0 (2 * (ck : Int)) g t).1 = 0 ∧ Bs8 q Bn F u ((walClear st (lo ck lg g) lg).2.save 0 (2 * (ck : Int)) g t).2 v) ∨ (k = 3 ∧ (goR st ck lg g t).1 = 0 ∧ GOk q Bn ck lg g t st F u v))
    (fun x v => x = (((goR st ck lg g t).1 : Nat) : Int) ∧ (goR st ck lg g t).1 ≠ 0 ∧ Bs8 q Bn F u (goR st ck lg g t).2 v) u (show (3 : Nat) ≤ 5000 by decide) ?_ ?_ ?_ ?_
  · refine key.mono ?_
    rintro e v ⟨x, rfl, ⟨rfl, hr⟩ | ⟨hx, rfl, h0, hb⟩⟩
    · rcases hr with ⟨hk, _⟩ | ⟨hk, _⟩ | ⟨hk, _⟩ | ⟨_, h0, hg⟩
      · exact absurd (show (3 : Nat) = 0 from hk) (by decide)
      · exact absurd (show (3 : Nat) = 1 from hk) (by decide)
      · exact absurd (show (3 : Nat) = 2 from hk) (by decide)
      · exact ⟨by rw [h0]; rfl, Or.inl ⟨h0, hg⟩⟩
    · exact ⟨rfl, Or.inr ⟨h0, hb⟩⟩
  · intro k hk v hr
    rcases hr with ⟨rfl, hb⟩ | ⟨rfl, _, hb⟩ | ⟨rfl, _, _, hb⟩ | ⟨rfl, _⟩
    · exact (h.at hb).1 _ hk
    · exact (h.at hb).1 _ hk
    · exact (h.at hb).1 _ hk
    · exact absurd (show (3 : Nat) < 3 from hk) (by decide)
  · intro k hk
    match k, hk with
    | 0, _ => exact Or.inr (Or.inr (Or.inl ⟨_, _, rfl⟩))
    | 1, _ => exact Or.inr (Or.inr (Or.inr (Or.inl ⟨_, _, _, rfl⟩)))
    | 2, _ => exact Or.inr (Or.inr (Or.inr (Or.inr (Or.inr (Or.inr ⟨_, _, _, rfl⟩)))))
  · intro k hk v hr
    rcases hr with ⟨rfl, hb⟩ | ⟨rfl, x1, hb⟩ | ⟨rfl, x1, x2, hb⟩ | ⟨rfl, _⟩
    · obtain ⟨-, ha1, -, -, -⟩ := h.at hb
      obtain ⟨F1, hd, hlc, hnB, hrow⟩ := hb
      intro n a he
      cases he
      refine calls_eq (a := #[.pointer (some ⟨B1, 0, none⟩), .pointer (some ⟨B2, 0, none⟩)]) rfl (((clear1_any B1 B2 q (ck : Int) (lg : Int) (g : Int) ((lo ck lg g : Nat) : Int) v (fun e z => e = .returned (.int .i64 (((walClear st (lo ck lg g) lg).1 : Nat) : Int)) ∧ Bs8 q Bn F u (walClear st (lo ck lg g) lg).2 z) ha1 ?_ ?_ ?_)).mono ?_)
      · rintro e z ⟨rfl, hz⟩
        exact ⟨_, rfl, (h.at hz).2.1⟩
      · exact fun v => logOf_any (some ⟨q, 0, none⟩) ck lg g v hck hlg2
      · intro z hb
        refine (clear_any q (lo ck lg g) lg st F1 z (con.below hd hb) hok (by omega) (by omega) hlg1).mono ?_
        rintro e z2 ⟨rfl, F2, hd2, hl2⟩
        exact ⟨rfl, Bs8.step hlc hnB hrow hd2 ((Loc.of_below F1 hb).trans hl2)⟩
      · rintro e z ⟨rfl, hz⟩
        refine ⟨_, rfl, ?_⟩
        by_cases h0 : (walClear st (lo ck lg g) lg).1 = 0
        · exact Or.inl ⟨by rw [h0]; rfl, Or.inr (Or.inl ⟨rfl, h0, hz⟩)⟩
        · have e : goR st ck lg g t = walClear st (lo ck lg g) lg := by unfold goR; rw [if_pos h0]
          rw [e]
          exact Or.inr ⟨by omega, rfl, h0, hz⟩
    · obtain ⟨-, -, ha2, h5, -⟩ := h.at hb
      obtain ⟨F1, hd, hlc, hnB, hrow⟩ := hb
      intro n a he
      cases he
      refine calls_eq (a := #[.pointer (some ⟨B3, 0, none⟩), .pointer (some ⟨B4, 0, none⟩), .pointer (some ⟨B5, 0, none⟩)]) rfl (((save1_any B3 B4 B5 q (ck : Int) (lg : Int) (g : Int) (2 * (ck : Int)) t v (fun e z => e = .returned (.int .i64 ((((walClear st (lo ck lg g) lg).2.save 0 (2 * (ck : Int)) g t).1 : Nat) : Int)) ∧ Bs8 q Bn F u ((walClear st (lo ck lg g) lg).2.save 0 (2 * (ck : Int)) g t).2 z) ha2 h5 ?_ ?_ ?_)).mono ?_)
      · rintro e z ⟨rfl, hz⟩
        exact ⟨_, rfl, (h.at hz).2.2.1, (h.at hz).2.2.2.1⟩
      · exact fun v => ckb_any (some ⟨q, 0, none⟩) (ck : Int) (lg : Int) v (by omega)
      · intro z hb
        refine (pSave q 0 (2 * (ck : Int)) g t (walClear st (lo ck lg g) lg).2 F1 z (con.below hd hb) hokC (by omega) (by omega) (by omega)).mono ?_
        rintro e z2 ⟨rfl, F2, hd2, hl2⟩
        exact ⟨rfl, Bs8.step hlc hnB hrow hd2 ((Loc.of_below F1 hb).trans hl2)⟩
      · rintro e z ⟨rfl, hz⟩
        refine ⟨_, rfl, ?_⟩
        by_cases h0 : ((walClear st (lo ck lg g) lg).2.save 0 (2 * (ck : Int)) g t).1 = 0
        · exact Or.inl ⟨by rw [h0]; rfl, Or.inr (Or.inr (Or.inl ⟨rfl, x1, h0, hz⟩))⟩
        · have e : goR st ck lg g t = (walClear st (lo ck lg g) lg).2.save 0 (2 * (ck : Int)) g t := by unfold goR; rw [if_neg (fun x => x x1), if_pos h0]
          rw [e]
          exact Or.inr ⟨by omega, rfl, h0, hz⟩
    · obtain ⟨-, -, -, -, hgb⟩ := h.at hb
      obtain ⟨F1, hd, hlc, hnB, x0, y0, hrow⟩ := hb
      have hlt := (Array.getElem?_eq_some_iff.1 hrow).1
      have e3 : goR st ck lg g t = ((walOpen ((walClear st (lo ck lg g) lg).2.save 0 (2 * (ck : Int)) g t).2 (lo ck lg g) lg).1.1, (walOpen ((walClear st (lo ck lg g) lg).2.save 0 (2 * (ck : Int)) g t).2 (lo ck lg g) lg).2) := by unfold goR; rw [if_neg (fun x => x x1), if_neg (fun x => x x2)]
      have hap : ¬ F1 Bs ∧ ¬ F1 Bg ∧ ¬ F1 p ∧ ¬ F1 Bn := by
        have q1 : ∀ k, k < u.heap.size → (k = b ∨ k = B1 ∨ k = B2 ∨ k = B3 ∨ k = B4 ∨ k = B5 ∨ k = Bs ∨ k = Bg ∨ k = p) → ¬ F1 k := fun k hk hh hf => by
          rcases hlc.own k (Or.inl hf) with (h1 | h1) | h1
          · exact (h.apart k hh).1 h1
          · exact (h.apart k hh).2 h1
          · omega
        exact ⟨q1 _ h.gb.lt.1 (by simp), q1 _ h.gb.lt.2.1 (by simp), q1 _ h.gb.lt.2.2 (by simp), hnB⟩
      have hne : Bn ≠ Bs ∧ Bn ≠ Bg ∧ Bn ≠ p := ⟨fun e => (h.apart Bs (by simp)).2 e.symm, fun e => (h.apart Bg (by simp)).2 e.symm, fun e => (h.apart p (by simp)).2 e.symm⟩
      have hop : ∀ z, Below v.heap.size v z → Calls Tryz.prog 85 #[.pointer (some ⟨q, 0, none⟩), .int .i64 ((lo ck lg g : Nat) : Int), .int .i64 (lg : Int)] z (Opened q (lo ck lg g) lg (walOpen ((walClear st (lo ck lg g) lg).2.save 0 (2 * (ck : Int)) g t).2 (lo ck lg g) lg) F1 z) := fun z hz =>
        pOpen q (lo ck lg g) lg ((walClear st (lo ck lg g) lg).2.save 0 (2 * (ck : Int)) g t).2 F1 z (con.below hd hz) hokS (by omega) (by omega) hlg1 hn
      have hF1 := con.lt hd
      intro n a he
      cases he
      by_cases h0 : (walOpen ((walClear st (lo ck lg g) lg).2.save 0 (2 * (ck : Int)) g t).2 (lo ck lg g) lg).1.1 = 0
      · refine calls_eq (a := #[.pointer (some ⟨Bs, 0, none⟩), .pointer (some ⟨Bg, 0, none⟩), .pointer (some ⟨Bn, 0, none⟩)]) rfl ((goOn1_ok p q (lo ck lg g) Bs Bg Bn (ck : Int) (lg : Int) (g : Int) g lg rfl (walOpen ((walClear st (lo ck lg g) lg).2.save 0 (2 * (ck : Int)) g t).2 (lo ck lg g) lg).1.2.1 (walOpen ((walClear st (lo ck lg g) lg).2.save 0 (2 * (ck : Int)) g t).2 (lo ck lg g) lg).1.2.2 (walOpen ((walClear st (lo ck lg g) lg).2.save 0 (2 * (ck : Int)) g t).2 (lo ck lg g) lg).2 F1 v x0 y0 hgb hrow hap hne ?_).mono ?_)
        · intro z hz
          refine aopen_ok q (lo ck lg g) g (ck : Int) lg _ _ _ F1 z (fun k hk => Nat.lt_of_lt_of_le (hF1 k hk) hz.size) (fun y => logOf_any (some ⟨q, 0, none⟩) ck lg g y hck hlg2) (fun y hy => ?_)
          refine (hop y (bnext hz hy)).mono ?_
          rintro e z2 (⟨_, hh⟩ | ⟨hh, _⟩)
          · exact hh
          · exact absurd h0 hh
        · rintro e z2 ⟨rfl, pl, vR, F2, z, hz, rfl⟩
          obtain ⟨k1, k2, k3, k4, k5, k6, k7, k8⟩ := hz
          have hnB2 := own_new k5 hnB hlt
          refine ⟨0, rfl, Or.inl ⟨rfl, Or.inr (Or.inr (Or.inr ⟨rfl, by rw [e3]; exact h0, pl, F2, ?_, ?_, hnB2, ?_, ?_, ?_, k6⟩))⟩⟩
          · rw [e3]; exact disk_set2 k4 hnB2 _ _
          · exact (((hlc.trans (k5.wide (X := fun k => k = Bn))).trans (Loc.setCell _ ⟨Bn, 0, none⟩ _ (Or.inr rfl))).trans (Loc.setCell _ ⟨Bn, 1, none⟩ _ (Or.inr rfl)))
          · exact row_set2 ((k5.block Bn hlt hnB).trans hrow) _ _
          · exact k1.same (set2_other z Bn _ _ pl (fun e => by omega))
          · have := hlc.size; omega
      · refine calls_eq (a := #[.pointer (some ⟨Bs, 0, none⟩), .pointer (some ⟨Bg, 0, none⟩), .pointer (some ⟨Bn, 0, none⟩)]) rfl ((goOn1_no p q Bs Bg Bn (ck : Int) lg g (((walOpen ((walClear st (lo ck lg g) lg).2.save 0 (2 * (ck : Int)) g t).2 (lo ck lg g) lg).1.1 : Nat) : Int) (walOpen ((walClear st (lo ck lg g) lg).2.save 0 (2 * (ck : Int)) g t).2 (lo ck lg g) lg).2 F1 v x0 y0 hgb hrow hap hne ?_).mono ?_)
        · intro z hz
          refine aopen_no q (lo ck lg g) g (ck : Int) lg _ (by omega) _ F1 z (fun k hk => Nat.lt_of_lt_of_le (hF1 k hk) hz.size) (fun y => logOf_any (some ⟨q, 0, none⟩) ck lg g y hck hlg2) (fun y hy => ?_)
          refine (hop y (bnext hz hy)).mono ?_
          rintro e z2 (⟨hh, _⟩ | ⟨_, hh⟩)
          · exact absurd hh h0
          · exact hh
        · rintro e z2 ⟨rfl, F2, z, ⟨k4, k5⟩, rfl⟩
          have hnB2 := own_new k5 hnB hlt
          refine ⟨_, rfl, Or.inr ⟨by omega, ?_⟩⟩
          rw [e3]
          exact ⟨rfl, h0, F2, disk_set2 k4 hnB2 _ _, (((hlc.trans (k5.wide (X := fun k => k = Bn))).trans (Loc.setCell _ ⟨Bn, 0, none⟩ _ (Or.inr rfl))).trans (Loc.setCell _ ⟨Bn, 1, none⟩ _ (Or.inr rfl))), hnB2, _, _, row_set2 ((k5.block Bn hlt hnB).trans hrow) _ _⟩
    · exact absurd (show (3 : Nat) < 3 from hk) (by decide)
  · exact Or.inl ⟨rfl, F, hD, Loc.refl _ _, h.nF, h.nx⟩
end Go.Proofs.YtchhojkhfdkhfaaGreatDoor
namespace Go.Proofs.YtchhojkhfdkhfaaGreatDoor
open Go Go.RowKit Frm
theorem Loc.unbox {F F' : Nat → Prop} {w u v : World} {B : Nat} (hb : Below w.heap.size w u) (hB : w.heap.size ≤ B) (hl : Loc (fun k => F k ∨ k = B) (fun k => F' k ∨ k = B) u v) : Loc F F' w v :=
  ⟨hl.os.trans hb.os, hl.tape.trans hb.tape, hl.output.trans hb.output, Nat.le_trans hb.size hl.size, fun k hk hf => (hl.block k (Nat.lt_of_lt_of_le hk hb.size) (fun hh => hh.elim hf (fun e => by omega))).trans (hb.block k hk), fun k hk => by
    rcases hl.own k (Or.inl hk) with (h | h) | h
    · exact Or.inl h
    · exact Or.inr (by omega)
    · have := hb.size; exact Or.inr (by omega)⟩
/-- What stands in goOn's own boxes. -/
structure GK (w : World) (p q : Nat) (ck lg g : Int) (z : World) : Prop where
  below : Below w.heap.size w z
  gb : GBx p q w.heap.size (w.heap.size + 1) ck lg g z
  row : z.heap[w.heap.size + 2]? = some (.cells #[.nilIface, .int .u64 0] 100 (0, 0))
theorem GK.keep {w : World} {p q : Nat} {ck lg g : Int} {z v : World} (h : GK w p q ck lg g z) (hb : Below z.heap.size z v) : GK w p q ck lg g v := ⟨bnext h.below hb, h.gb.below hb, (hb.block _ (Array.getElem?_eq_some_iff.1 h.row).1).trans h.row⟩
theorem GK.start (w : World) (p q : Nat) (ck lg g : Int) (h2 : w.cell? ⟨p, 2, none⟩ = some (.pointer (some ⟨q, 0, none⟩))) (h3 : w.cell? ⟨p, 3, none⟩ = some (.int .i64 ck)) (h4 : w.cell? ⟨p, 4, none⟩ = some (.int .i64 lg)) :
    GK w p q ck lg g (((w.alloc (.cells #[.pointer (some ⟨p, 0, none⟩)] 36)).alloc (.cells #[.int .u64 g] 50)).alloc (.cells #[.nilIface, .int .u64 0] 100)) := by
  have hb := grow3 w (.cells #[.pointer (some ⟨p, 0, none⟩)] 36) (.cells #[.int .u64 g] 50) (.cells #[.nilIface, .int .u64 0] 100)
  have s1 : (w.alloc (.cells #[.pointer (some ⟨p, 0, none⟩)] 36)).heap.size = w.heap.size + 1 := by simp
  have s2 : ((w.alloc (.cells #[.pointer (some ⟨p, 0, none⟩)] 36)).alloc (.cells #[.int .u64 g] 50)).heap.size = w.heap.size + 2 := by simp
  refine ⟨hb, ⟨?_, ?_, cellB9 hb h2, cellB9 hb h3, cellB9 hb h4⟩, ?_⟩
  · exact cellB9 (grow2 (w.alloc (.cells #[.pointer (some ⟨p, 0, none⟩)] 36)) _ _) ((cell_of_row _ _ 0 _ _ _ (heap_alloc_last w _)).trans rfl)
  · refine cellB9 (grow1 ((w.alloc (.cells #[.pointer (some ⟨p, 0, none⟩)] 36)).alloc (.cells #[.int .u64 g] 50)) _) ?_
    have := heap_alloc_last (w.alloc (.cells #[.pointer (some ⟨p, 0, none⟩)] 36)) (.cells #[.int .u64 g] 50)
    rw [s1] at this
    exact (cell_of_row _ _ 0 _ _ _ this).trans rfl
  · have := heap_alloc_last ((w.alloc (.cells #[.pointer (some ⟨p, 0, none⟩)] 36)).alloc (.cells #[.int .u64 g] 50)) (.cells #[.nilIface, .int .u64 0] 100)
    rw [s2] at this
    exact this
/-- A step's boxes. -/
def GA (w : World) (q : Nat) (ck lg g : Int) (B1 B2 : Nat) (z : World) : Prop := ABox B1 B2 q ck lg g z ∧ w.heap.size + 3 ≤ B1 ∧ w.heap.size + 3 ≤ B2
def GT (w : World) (t : ByteArray) (B : Nat) (z : World) : Prop := z.cell? ⟨B, 0, none⟩ = some (.string t) ∧ w.heap.size + 3 ≤ B
theorem GA.keep {w : World} {q : Nat} {ck lg g : Int} {B1 B2 : Nat} {z v : World} (h : GA w q ck lg g B1 B2 z) (hb : Below z.heap.size z v) : GA w q ck lg g B1 B2 v := ⟨h.1.below hb, h.2⟩
theorem GA.new {w z : World} {q : Nat} {ck lg g : Int} (hz : w.heap.size + 3 ≤ z.heap.size) : GA w q ck lg g z.heap.size (z.heap.size + 1) ((z.alloc (.cells #[.pointer (some ⟨q, 0, none⟩), .int .i64 ck, .int .i64 lg] 102)).alloc (.cells #[.int .u64 g] 50)) := by
  obtain ⟨c0, c1, c2⟩ := area_cells z (some ⟨q, 0, none⟩) ck lg _ (one_below (z.alloc (.cells #[.pointer (some ⟨q, 0, none⟩), .int .i64 ck, .int .i64 lg] 102)) (.cells #[.int .u64 g] 50))
  refine ⟨⟨c0, c1, c2, ?_⟩, hz, by omega⟩
  have := heap_alloc_last (z.alloc (.cells #[.pointer (some ⟨q, 0, none⟩), .int .i64 ck, .int .i64 lg] 102)) (.cells #[.int .u64 g] 50)
  rw [show (z.alloc (.cells #[.pointer (some ⟨q, 0, none⟩), .int .i64 ck, .int .i64 lg] 102)).heap.size = z.heap.size + 1 from by simp] at this
  exact (cell_of_row _ _ 0 _ _ _ this).trans rfl
theorem GT.new {w z : World} {pd : Option Addr} {ck lg g : Int} {t : ByteArray} (hz : w.heap.size + 3 ≤ z.heap.size) : GT w t (z.heap.size + 1 + 1) (((z.alloc (.cells #[.pointer pd, .int .i64 ck, .int .i64 lg] 102)).alloc (.cells #[.int .u64 g] 50)).alloc (.cells #[.string t] 9)) := by
  refine ⟨?_, by omega⟩
  have := heap_alloc_last ((z.alloc (.cells #[.pointer pd, .int .i64 ck, .int .i64 lg] 102)).alloc (.cells #[.int .u64 g] 50)) (.cells #[.string t] 9)
  rw [show ((z.alloc (.cells #[.pointer pd, .int .i64 ck, .int .i64 lg] 102)).alloc (.cells #[.int .u64 g] 50)).heap.size = z.heap.size + 1 + 1 from by simp] at this
  exact (cell_of_row _ _ 0 _ _ _ this).trans rfl
theorem GT.keep {w : World} {t : ByteArray} {B : Nat} {z v : World} (h : GT w t B z) (hb : Below z.heap.size z v) : GT w t B v := ⟨cellB9 hb h.1, h.2⟩
theorem GK.size {w : World} {p q : Nat} {ck lg g : Int} {z : World} (h : GK w p q ck lg g z) : w.heap.size + 3 ≤ z.heap.size := (Array.getElem?_eq_some_iff.1 h.row).1
theorem GK.inp {w z : World} {p q B1 B2 B3 B4 B5 ck lg g : Nat} {t : ByteArray} {F : Nat → Prop} (h : GK w p q (ck : Int) (lg : Int) (g : Int) z) (h1 : GA w q (ck : Int) (lg : Int) (g : Int) B1 B2 z) (h2 : GA w q (ck : Int) (lg : Int) (g : Int) B3 B4 z) (h3 : GT w t B5 z)
    (hF : ∀ k, F k → k < w.heap.size) (hp : p < w.heap.size) (hFp : ¬ F p) (T : TypeId) : GIn p q z.heap.size B1 B2 B3 B4 B5 w.heap.size (w.heap.size + 1) (w.heap.size + 2) ck lg g t F
      (z.alloc (.cells #[Value.func (.func 76) #[] #[.pointer (some ⟨B1, 0, none⟩), .pointer (some ⟨B2, 0, none⟩)], .func (.func 79) #[] #[.pointer (some ⟨B3, 0, none⟩), .pointer (some ⟨B4, 0, none⟩), .pointer (some ⟨B5, 0, none⟩)], .func (.func 88) #[] #[.pointer (some ⟨w.heap.size, 0, none⟩), .pointer (some ⟨w.heap.size + 1, 0, none⟩), .pointer (some ⟨w.heap.size + 2, 0, none⟩)]] T)) := by
  have hb := one_below z (.cells #[Value.func (.func 76) #[] #[.pointer (some ⟨B1, 0, none⟩), .pointer (some ⟨B2, 0, none⟩)], .func (.func 79) #[] #[.pointer (some ⟨B3, 0, none⟩), .pointer (some ⟨B4, 0, none⟩), .pointer (some ⟨B5, 0, none⟩)], .func (.func 88) #[] #[.pointer (some ⟨w.heap.size, 0, none⟩), .pointer (some ⟨w.heap.size + 1, 0, none⟩), .pointer (some ⟨w.heap.size + 2, 0, none⟩)]] T)
  have hz := h.size
  refine ⟨fun k hk => ?_, h1.1.below hb, h2.1.below hb, cellB9 hb h3.1, h.gb.below hb, ⟨_, _, (hb.block _ (Array.getElem?_eq_some_iff.1 h.row).1).trans h.row⟩, fun k hk => ?_, fun hf => by have := hF _ hf; omega⟩
  · match k, hk with
    | 0, _ => exact (cell_of_row _ _ 0 _ _ _ (heap_alloc_last z _)).trans rfl
    | 1, _ => exact (cell_of_row _ _ 1 _ _ _ (heap_alloc_last z _)).trans rfl
    | 2, _ => exact (cell_of_row _ _ 2 _ _ _ (heap_alloc_last z _)).trans rfl
  · have q1 := h1.2
    have q2 := h2.2
    have q3 := h3.2
    rcases hk with e | e | e | e | e | e | e | e | e
    all_goals
      subst e
      exact ⟨fun hf => by first | exact hFp hf | (have := hF _ hf; omega), by omega⟩
theorem GOk.bs {q Bn ck lg g : Nat} {t : ByteArray} {st : St} {F : Nat → Prop} {u v : World} (h : GOk q Bn ck lg g t st F u v) : Bs8 q Bn F u (goR st ck lg g t).2 v := by
  obtain ⟨pl, F', h1, h2, h3, h4, _⟩ := h
  exact ⟨F', h1, h2, h3, _, _, h4⟩
/-- What goOn leaves. -/
def PGo (p q ck lg g : Nat) (t : ByteArray) (st : St) (F : Nat → Prop) (w : World) (e : Ending) (v : World) : Prop :=
  e = .returned (.int .i64 (((goR st ck lg g t).1 : Nat) : Int)) ∧
    (((goR st ck lg g t).1 = 0 ∧ ∃ pl F', StAt v p pl q ck lg g false ∧ LAt v pl q (lo ck lg g) lg (goS st ck lg g t) false ∧ DAt v q (goR st ck lg g t).2 F' ∧ Loc (fun k => F k ∨ k = p) (fun k => F' k ∨ k = p) w v ∧ ¬ F' p ∧ ¬ F' pl ∧ w.heap.size ≤ pl) ∨
     ((goR st ck lg g t).1 ≠ 0 ∧ ∃ F', DAt v q (goR st ck lg g t).2 F' ∧ Loc F F' w v))
theorem GOk.fin {q ck lg g p pl g0 : Nat} {t : ByteArray} {st : St} {F : Nat → Prop} {w u v : World} (h : GOk q (w.heap.size + 2) ck lg g t st F u v) (hb : Below w.heap.size w u) (hs : StAt w p pl q ck lg g0 false) (hp : ¬ F p) :
    ∃ (pl2 : Nat), v.cell? ⟨w.heap.size + 1 + 1, 0, none⟩ = some (.iface 143 (.pointer (some ⟨pl2, 0, none⟩))) ∧ v.cell? ⟨w.heap.size + 1 + 1, 1, none⟩ = some (.int .u64 (g : Int)) ∧ v.cell? ⟨p, 0, none⟩ = some (.iface 143 (.pointer (some ⟨pl, 0, none⟩))) ∧ v.cell? ⟨p, 1, none⟩ = some (.int .u64 (g0 : Int)) ∧ v.frozen? ⟨p, 0, none⟩ = false ∧ v.frozen? ⟨p, 1, none⟩ = false ∧
      ((goR st ck lg g t).1 = 0 → PGo p q ck lg g t st F w (.returned (.int .i64 (((goR st ck lg g t).1 : Nat) : Int))) ((v.setCell ⟨p, 0, none⟩ (.iface 143 (.pointer (some ⟨pl2, 0, none⟩)))).setCell ⟨p, 1, none⟩ (.int .u64 (g : Int)))) := by
  obtain ⟨pl2, F', d1, d2, d3, d4, d5, d6, d7⟩ := h
  have hlt := hs.lt
  have hbs := hb.size
  have hsame : v.heap[p]? = w.heap[p]? := (d2.block p (by omega) (fun hh => hh.elim hp (fun e => by omega))).trans (hb.block p hlt)
  have hs3 : StAt v p pl q ck lg g0 false := hs.same hsame
  obtain ⟨c0, c1, -, -, -, -⟩ := hs3.c
  obtain ⟨r0, r1, -, -⟩ := row_cells2 d4
  have hl := d2.unbox hb (B := w.heap.size + 2) (by omega)
  have hp' := own_new hl hp hlt
  refine ⟨pl2, r0, r1, c0, c1, hs3.free 0, hs3.free 1, fun h0 => ⟨rfl, Or.inl ⟨h0, pl2, F', ?_, d5.same (set2_other v p _ _ pl2 (by omega)), disk_set2 d1 hp' _ _, ?_, hp', d7, by omega⟩⟩⟩
  · exact heap_set3 (i := 1) (heap_set3 (i := 0) hs3 _) _
  · exact (((hl.wide (X := fun k => k = p)).trans (Loc.setCell _ ⟨p, 0, none⟩ _ (Or.inr rfl))).trans (Loc.setCell _ ⟨p, 1, none⟩ _ (Or.inr rfl)))
set_option maxRecDepth 10000 in
set_option maxHeartbeats 2000000 in
theorem goOn_any (p pl q ck lg g0 g : Nat) (t : ByteArray) (st : St) (F : Nat → Prop) (w : World) (hs : StAt w p pl q ck lg g0 false) (hD : DAt w q st F) (hp : ¬ F p) (hok : st.Ok)
    (hl : st.loose.length + 3000 ≤ 8000) (hc : Conf ck lg st.sure.length) (hn : lg ≤ 200) (ht : t.size ≤ 65536) :
    Calls Tryz.prog 57 #[.pointer (some ⟨p, 0, none⟩), .int .u64 (g : Int), .string t] w (PGo p q ck lg g t st F w) := by
  obtain ⟨-, -, c2, c3, c4, -⟩ := hs.c
  have hF := con.lt hD
  have HF := hide hF
  have HS := hide hs
  have HP := hide hp
  have HPl : Hid (p < w.heap.size) := hs.lt
  have HG : Hid (∀ z B1 B2 B3 B4 B5 c T, GK w p q (ck : Int) (lg : Int) (g : Int) z → GA w q (ck : Int) (lg : Int) (g : Int) B1 B2 z → GA w q (ck : Int) (lg : Int) (g : Int) B3 B4 z → GT w t B5 z →
      Calls Tryz.prog 41 #[.slice (some ⟨z.heap.size, 0, none⟩) 3 c] (z.alloc (.cells #[Value.func (.func 76) #[] #[.pointer (some ⟨B1, 0, none⟩), .pointer (some ⟨B2, 0, none⟩)], .func (.func 79) #[] #[.pointer (some ⟨B3, 0, none⟩), .pointer (some ⟨B4, 0, none⟩), .pointer (some ⟨B5, 0, none⟩)], .func (.func 88) #[] #[.pointer (some ⟨w.heap.size, 0, none⟩), .pointer (some ⟨w.heap.size + 1, 0, none⟩), .pointer (some ⟨w.heap.size + 2, 0, none⟩)]] T)) fun e v =>
        e = .returned (.int .i64 (((goR st ck lg g t).1 : Nat) : Int)) ∧ GBx p q w.heap.size (w.heap.size + 1) (ck : Int) (lg : Int) (g : Int) v ∧ ∃ u, Below w.heap.size w u ∧ (((goR st ck lg g t).1 = 0 ∧ GOk q (w.heap.size + 2) ck lg g t st F u v) ∨ ((goR st ck lg g t).1 ≠ 0 ∧ Bs8 q (w.heap.size + 2) F u (goR st ck lg g t).2 v))) := fun z B1 B2 B3 B4 B5 c T k1 k2 k3 k4 => by
    have hi := k1.inp k2 k3 k4 (F := F) hF hs.lt hp T
    refine (goSteps p q z.heap.size B1 B2 B3 B4 B5 w.heap.size (w.heap.size + 1) (w.heap.size + 2) ck lg g t st F _ c hi (con.below hD (bnext k1.below (one_below z _))) hok hl hc hn ht).mono ?_
    rintro e v ⟨rfl, h⟩
    have hb : Bs8 q (w.heap.size + 2) F _ (goR st ck lg g t).2 v := h.elim (fun x => x.2.bs) (fun x => x.2)
    exact ⟨rfl, (hi.at hb).2.2.2.2, _, bnext k1.below (one_below z _), h⟩
  have K := (GK.start w p q (ck : Int) (lg : Int) (g : Int) c2 c3 c4).keep ((Below.refl _ _).drew)
  have HK1 : Hid (∀ z, GK w p q (ck : Int) (lg : Int) (g : Int) z → Calls Tryz.prog 44 #[areaV (some ⟨q, 0, none⟩) (ck : Int) (lg : Int), .int .u64 (g : Int)] z fun e v => e = .returned (.func (.func 76) #[] #[.pointer (some ⟨z.heap.size, 0, none⟩), .pointer (some ⟨z.heap.size + 1, 0, none⟩)]) ∧ GK w p q (ck : Int) (lg : Int) (g : Int) v ∧ GA w q (ck : Int) (lg : Int) (g : Int) z.heap.size (z.heap.size + 1) v) := fun z hK => by
    refine (clearing_any (some ⟨q, 0, none⟩) (ck : Int) (lg : Int) (g : Int) z).mono ?_
    rintro e v ⟨rfl, rfl⟩
    exact ⟨rfl, hK.keep (grow2 z _ _), GA.new hK.size⟩
  have HK2 : Hid (∀ z B1 B2, GK w p q (ck : Int) (lg : Int) (g : Int) z → GA w q (ck : Int) (lg : Int) (g : Int) B1 B2 z → Calls Tryz.prog 45 #[areaV (some ⟨q, 0, none⟩) (ck : Int) (lg : Int), .int .u64 (g : Int), .string t] z fun e v => e = .returned (.func (.func 79) #[] #[.pointer (some ⟨z.heap.size, 0, none⟩), .pointer (some ⟨z.heap.size + 1, 0, none⟩), .pointer (some ⟨z.heap.size + 1 + 1, 0, none⟩)]) ∧ GK w p q (ck : Int) (lg : Int) (g : Int) v ∧ GA w q (ck : Int) (lg : Int) (g : Int) B1 B2 v ∧ GA w q (ck : Int) (lg : Int) (g : Int) z.heap.size (z.heap.size + 1) v ∧ GT w t (z.heap.size + 1 + 1) v) := fun z B1 B2 hK hA => by
    refine (saving_any (some ⟨q, 0, none⟩) (ck : Int) (lg : Int) (g : Int) t z).mono ?_
    rintro e v ⟨rfl, rfl⟩
    exact ⟨rfl, hK.keep (grow3 z _ _ _), hA.keep (grow3 z _ _ _), (GA.new hK.size).keep (grow1 _ _), GT.new hK.size⟩
  unfold areaV at HK1 HK2
  clear hs hD hp hok hl hc hn ht hF c2 c3 c4
  go_enter Tryz.func57, Tryz.ntmps57
  go_wp2_with fail
  generalize ((w.alloc (.cells #[.pointer (some ⟨p, 0, none⟩)] 36)).alloc (.cells #[.int .u64 (g : Int)] 50)).alloc (.cells #[.nilIface, .int .u64 0] 100) = W at *
  go_region_held3 (fun z => z.cell? ⟨w.heap.size, 0, none⟩ = some (.pointer (some ⟨p, 0, none⟩)) ∧ z.cell? ⟨w.heap.size + 1, 0, none⟩ = some (.int .u64 (g : Int)) ∧ z.cell? ⟨p, 2, none⟩ = some (.pointer (some ⟨q, 0, none⟩)) ∧ z.cell? ⟨p, 3, none⟩ = some (.int .i64 (ck : Int)) ∧ z.cell? ⟨p, 4, none⟩ = some (.int .i64 (lg : Int)))
    ((first | (with_reducible exact K.gb.all) | (with_reducible exact K.1.gb.all) | (with_reducible exact (K.1.keep (one_below _ _)).gb.all) | (with_reducible exact K.1.all)))
    (first
      | (go_at_call 44; refine (HK1.out _ K).mono ?_; rintro e z1 ⟨rfl, hk1⟩; have K := hk1)
      | (go_at_call 45; refine (HK2.out _ _ _ K.1 K.2).mono ?_; rintro e z2 ⟨rfl, hk2⟩; have K := hk2)
      | (go_at_call 41; refine (HG.out _ _ _ _ _ _ _ _ K.1 K.2.1 K.2.2.1 K.2.2.2).mono ?_; rintro e z3 ⟨rfl, hgb, hpo⟩; have K := And.intro hgb hpo))
  all_goals
    obtain ⟨-, u, hbu, hpo⟩ := K
    have HBu := hide hbu
    rcases hpo with ⟨h0, hg⟩ | ⟨h0, hb⟩
    · obtain ⟨pl2, r0, r1, c0, c1, f0, f1, hfin⟩ := hg.fin HBu.out HS.out HP.out
      have HFin := hide (hfin h0)
      have e0 : (((goR st ck lg g t).1 : Nat) : Int) = 0 := by rw [h0]; rfl
      clear hfin h0 hg hbu hgb hk1 hk2
      go_wp2
      go_ret
      exact HFin.out
    · have HFin : Hid (PGo p q ck lg g t st F w (.returned (.int .i64 (((goR st ck lg g t).1 : Nat) : Int))) z3) := by
        obtain ⟨F', d1, d2, _⟩ := hb
        exact ⟨rfl, Or.inr ⟨h0, F', d1, d2.unbox HBu.out (by omega)⟩⟩
      have e0 : ¬ (((goR st ck lg g t).1 : Nat) : Int) = 0 := by omega
      clear h0 hb hbu hgb hk1 hk2
      go_wp2
      go_ret
      exact HFin.out
end Go.Proofs.YtchhojkhfdkhfaaGreatDoor
namespace Go.Proofs.YtchhojkhfdkhfaaGreatDoor
open Go Go.RowKit Frm
set_option maxRecDepth 10000 in
set_option maxHeartbeats 4000000 in
/-- Trim's own step: a text that is too long. -/
theorem trim_long (B1 B2 p pl q ck lg g : Nat) (bb : Bool) (t : ByteArray) (r : Int) (u : World) (h1 : u.cell? ⟨B1, 0, none⟩ = some (.pointer (some ⟨p, 0, none⟩))) (h2 : u.cell? ⟨B2, 0, none⟩ = some (.string t)) (hs : StAt u p pl q ck lg g bb) (hg : g ≠ 4611686018427387904)
    (hR : ∀ v, Calls Tryz.prog 56 #[areaV (some ⟨q, 0, none⟩) (ck : Int) (lg : Int)] v fun e w' => e = .returned (.int .i64 r) ∧ Below v.heap.size v w') (hr : r < (t.size : Int)) :
    Calls Tryz.prog 55 #[.pointer (some ⟨B1, 0, none⟩), .pointer (some ⟨B2, 0, none⟩)] u fun e v => e = .returned (.int .i64 4) ∧ Below u.heap.size u v := by
  have HC : Hid (∀ v, Below u.heap.size u v → v.cell? ⟨B1, 0, none⟩ = some (.pointer (some ⟨p, 0, none⟩)) ∧ v.cell? ⟨B2, 0, none⟩ = some (.string t) ∧ v.cell? ⟨p, 2, none⟩ = some (.pointer (some ⟨q, 0, none⟩)) ∧ v.cell? ⟨p, 3, none⟩ = some (.int .i64 (ck : Int)) ∧ v.cell? ⟨p, 4, none⟩ = some (.int .i64 (lg : Int))) := fun v hb => ⟨cellB9 hb h1, cellB9 hb h2, cellB9 hb hs.c.2.2.1, cellB9 hb hs.c.2.2.2.1, cellB9 hb hs.c.2.2.2.2.1⟩
  obtain ⟨-, c1, -, -, -, -⟩ := hs.c
  have HR := hide hR
  have hgz : ¬ ((g : Int) = 4611686018427387904) := by omega
  have HT := hide hr
  have K : Below u.heap.size u u.drew := (Below.refl _ u).drew
  unfold areaV at HR
  clear h2 hs hR hg hr
  go_enter Tryz.func55, Tryz.ntmps55
  go_wp2_with fail
  clear h1 c1 hgz
  go_region_held3 (fun z => z.cell? ⟨B1, 0, none⟩ = some (.pointer (some ⟨p, 0, none⟩)) ∧ z.cell? ⟨B2, 0, none⟩ = some (.string t) ∧ z.cell? ⟨p, 2, none⟩ = some (.pointer (some ⟨q, 0, none⟩)) ∧ z.cell? ⟨p, 3, none⟩ = some (.int .i64 (ck : Int)) ∧ z.cell? ⟨p, 4, none⟩ = some (.int .i64 (lg : Int)))
    ((with_reducible exact HC.out _ K))
    (first
      | (go_at_call 56; refine (HR.out _).mono ?_; rintro e z0 ⟨rfl, hb0⟩; have K := bnext K hb0))
  all_goals
    have HE := hide K
    have hr := HT.out
    clear K
    go_wp2
    go_ret
    exact ⟨rfl, HE.out⟩
set_option maxRecDepth 10000 in
set_option maxHeartbeats 4000000 in
/-- Trim's own step: it goes on. -/
theorem trim_go (B1 B2 p pl q ck lg g : Nat) (bb : Bool) (t : ByteArray) (r : Int) (u : World) (P : Ending → World → Prop) (h1 : u.cell? ⟨B1, 0, none⟩ = some (.pointer (some ⟨p, 0, none⟩))) (h2 : u.cell? ⟨B2, 0, none⟩ = some (.string t)) (hs : StAt u p pl q ck lg g bb) (hg : g < 4611686018427387904)
    (hR : ∀ v, Calls Tryz.prog 56 #[areaV (some ⟨q, 0, none⟩) (ck : Int) (lg : Int)] v fun e w' => e = .returned (.int .i64 r) ∧ Below v.heap.size v w') (hr : ¬ r < (t.size : Int))
    (hP : ∀ e w', P e w' → ∃ x, e = .returned x) (hA : ∀ v, Below u.heap.size u v → Calls Tryz.prog 57 #[.pointer (some ⟨p, 0, none⟩), .int .u64 ((g + 1 : Nat) : Int), .string t] v P) :
    Calls Tryz.prog 55 #[.pointer (some ⟨B1, 0, none⟩), .pointer (some ⟨B2, 0, none⟩)] u P := by
  have HC : Hid (∀ v, Below u.heap.size u v → v.cell? ⟨B1, 0, none⟩ = some (.pointer (some ⟨p, 0, none⟩)) ∧ v.cell? ⟨B2, 0, none⟩ = some (.string t) ∧ v.cell? ⟨p, 2, none⟩ = some (.pointer (some ⟨q, 0, none⟩)) ∧ v.cell? ⟨p, 3, none⟩ = some (.int .i64 (ck : Int)) ∧ v.cell? ⟨p, 4, none⟩ = some (.int .i64 (lg : Int))) := fun v hb => ⟨cellB9 hb h1, cellB9 hb h2, cellB9 hb hs.c.2.2.1, cellB9 hb hs.c.2.2.2.1, cellB9 hb hs.c.2.2.2.2.1⟩
  have HC1 : Hid (∀ v, Below u.heap.size u v → v.cell? ⟨p, 1, none⟩ = some (.int .u64 (g : Int))) := fun v hb => cellB9 hb hs.c.2.1
  obtain ⟨-, c1, -, -, -, -⟩ := hs.c
  have HR := hide hR
  have HA := hide hA
  have HP := hide hP
  have hgz : ¬ ((g : Int) = 4611686018427387904) := by omega
  have HG : Hid (IntKind.u64.wrap ((g : Int) + 1) = ((g + 1 : Nat) : Int)) := by show _ = _; rw [IntKind.wrap_u64]; omega
  have HT := hide hr
  have K : Below u.heap.size u u.drew := (Below.refl _ u).drew
  unfold areaV at HR
  clear h2 hs hR hg hr hA hP
  go_enter Tryz.func55, Tryz.ntmps55
  go_wp2_with fail
  clear h1 c1 hgz
  go_region_held3 (fun z => z.cell? ⟨B1, 0, none⟩ = some (.pointer (some ⟨p, 0, none⟩)) ∧ z.cell? ⟨B2, 0, none⟩ = some (.string t) ∧ z.cell? ⟨p, 2, none⟩ = some (.pointer (some ⟨q, 0, none⟩)) ∧ z.cell? ⟨p, 3, none⟩ = some (.int .i64 (ck : Int)) ∧ z.cell? ⟨p, 4, none⟩ = some (.int .i64 (lg : Int)))
    ((with_reducible exact HC.out _ K))
    (first
      | (go_at_call 56; refine (HR.out _).mono ?_; rintro e z0 ⟨rfl, hb0⟩; have K := bnext K hb0))
  all_goals
    have HK := hide K
    have hr := HT.out
    have hgw := HG.out
    obtain ⟨b1, b2, -, -, -⟩ := HC.out _ K
    have b3 := HC1.out _ K
    clear K
    go_wp2_with fail
    go_region_with (go_at_call 57; refine (HA.out _ HK.out.drew).mono ?_; rintro e z2 hz2; obtain ⟨x, rfl⟩ := HP.out _ _ hz2)
    all_goals
      have HZ := hide hz2
      clear hz2
      go_wp2
      refine bodyPost_ret (v := x) ?_ ?_ HZ.out
      · exact (results_tmp (t := 2) rfl _ _ _).trans rfl
      · rfl
end Go.Proofs.YtchhojkhfdkhfaaGreatDoor
namespace Go.Proofs.YtchhojkhfdkhfaaGreatDoor
open Go Go.RowKit Frm
set_option maxHeartbeats 400000 in
theorem append_wrap (pp : Option Addr) (t : ByteArray) (w : World) (P : Ending → World → Prop) (hP : ∀ e w', P e w' → ∃ x, e = .returned x)
    (hG : Calls Tryz.prog 51 #[.pointer pp, .func (.func 52) #[] #[.pointer (some ⟨w.heap.size, 0, none⟩), .pointer (some ⟨w.heap.size + 1, 0, none⟩)]] ((w.alloc (.cells #[.pointer pp] 36)).alloc (.cells #[.string t] 9)) P) :
    Calls Tryz.prog 22 #[.pointer pp, .string t] w P := by
  have HP := hide hP
  have HG := hide hG
  clear hP hG
  go_enter Tryz.func22, Tryz.ntmps22
  go_wp2_with fail
  refine HG.out.mono ?_
  rintro e z hz
  obtain ⟨x, rfl⟩ := HP.out _ _ hz
  have HZ := hide hz
  clear hz
  go_wp2
  exact HZ.out
set_option maxHeartbeats 400000 in
theorem trim_wrap (pp : Option Addr) (t : ByteArray) (w : World) (P : Ending → World → Prop) (hP : ∀ e w', P e w' → ∃ x, e = .returned x)
    (hG : Calls Tryz.prog 51 #[.pointer pp, .func (.func 55) #[] #[.pointer (some ⟨w.heap.size, 0, none⟩), .pointer (some ⟨w.heap.size + 1, 0, none⟩)]] ((w.alloc (.cells #[.pointer pp] 36)).alloc (.cells #[.string t] 9)) P) :
    Calls Tryz.prog 24 #[.pointer pp, .string t] w P := by
  have HP := hide hP
  have HG := hide hG
  clear hP hG
  go_enter Tryz.func24, Tryz.ntmps24
  go_wp2_with fail
  refine HG.out.mono ?_
  rintro e z hz
  obtain ⟨x, rfl⟩ := HP.out _ _ hz
  have HZ := hide hz
  clear hz
  go_wp2
  exact HZ.out
set_option maxHeartbeats 400000 in
theorem sync_wrap (pp : Option Addr) (w : World) (P : Ending → World → Prop) (hP : ∀ e w', P e w' → ∃ x, e = .returned x)
    (hG : Calls Tryz.prog 51 #[.pointer pp, .func (.func 53) #[] #[.pointer (some ⟨w.heap.size, 0, none⟩)]] (w.alloc (.cells #[.pointer pp] 36)) P) :
    Calls Tryz.prog 23 #[.pointer pp] w P := by
  have HP := hide hP
  have HG := hide hG
  clear hP hG
  go_enter Tryz.func23, Tryz.ntmps23
  go_wp2_with fail
  refine HG.out.mono ?_
  rintro e z hz
  obtain ⟨x, rfl⟩ := HP.out _ _ hz
  have HZ := hide hz
  clear hz
  go_wp2
  exact HZ.out
/-- The program's store: its log at l, whether that is broken; its disk's blocks are G. -/
structure RP0 (u : World) (p q l : Nat) (b : Bool) (ck lg : Nat) (s : Sto) (st : St) (G : Nat → Prop) : Prop where
  d : DAt u q st G
  c : StAt u p l q ck lg s.gen s.broken
  log : LAt u l q (lo ck lg s.gen) lg s.str b
  np : ¬ G p
  nl : ¬ G l
  pl : p ≠ l
  sz : s.str.size ≤ lg * 255
  bb : b = true → s.broken = true
  gen : 1 ≤ s.gen ∧ s.gen ≤ 4611686018427387904
  conf : (2 ≤ ck ∧ ck ≤ 256) ∧ 1 ≤ lg ∧ lg ≤ 1024
def PSt (u : World) (p q ck lg : Nat) (s : Sto) (st : St) (A : Nat → Prop) : Prop := ∃ l b G, RP0 u p q l b ck lg s st G ∧ A = fun k => G k ∨ k = l ∨ k = p
theorem RP0.same {u v : World} {p q l : Nat} {b : Bool} {ck lg : Nat} {s : Sto} {st : St} {G : Nat → Prop} (h : RP0 u p q l b ck lg s st G) (hs : ∀ k, (G k ∨ k = l ∨ k = p) → v.heap[k]? = u.heap[k]?) : RP0 v p q l b ck lg s st G :=
  ⟨con.same h.d (fun k hk => hs k (Or.inl hk)), h.c.same (hs p (Or.inr (Or.inr rfl))), h.log.same (hs l (Or.inr (Or.inl rfl))), h.np, h.nl, h.pl, h.sz, h.bb, h.gen, h.conf⟩
theorem RP0.below {u v : World} {p q l : Nat} {b : Bool} {ck lg : Nat} {s : Sto} {st : St} {G : Nat → Prop} (h : RP0 u p q l b ck lg s st G) (hb : Below u.heap.size u v) : RP0 v p q l b ck lg s st G :=
  ⟨con.below h.d hb, h.c.below hb, h.log.same (hb.block l h.log.lt), h.np, h.nl, h.pl, h.sz, h.bb, h.gen, h.conf⟩
/-- The disk alone went on. -/
theorem RP0.disk {u v : World} {p q l : Nat} {b : Bool} {ck lg : Nat} {s : Sto} {st st2 : St} {G G2 : Nat → Prop} (h : RP0 u p q l b ck lg s st G) (hr : DAt v q st2 G2) (hl : Loc G G2 u v) : RP0 v p q l b ck lg s st2 G2 :=
  ⟨hr, h.c.same (hl.block p h.c.lt h.np), h.log.same (hl.block l h.log.lt h.nl), own_new hl h.np h.c.lt, own_new hl h.nl h.log.lt, h.pl, h.sz, h.bb, h.gen, h.conf⟩
theorem Loc.pair {G G2 : Nat → Prop} {l p : Nat} {u v : World} (h : Loc G G2 u v) : Loc (fun k => G k ∨ k = l ∨ k = p) (fun k => G2 k ∨ k = l ∨ k = p) u v := h.wide (X := fun k => k = l ∨ k = p)
theorem code_eq (c : Nat) : ((c : Int) == 50) = (c == 50) := by
  by_cases h : c = 50
  · subst h; rfl
  · rw [beq_eq_false_iff_ne.2 h, beq_eq_false_iff_ne.2 (by omega)]
/-- What is done under guard: a step of the store, told. -/
theorem under {w u : World} {p q l ck lg g : Nat} {str : ByteArray} {st : St} {G : Nat → Prop} {v : Value} (h : RP0 w p q l false ck lg ⟨g, str, false⟩ st G) (hb : Below w.heap.size w u) (hv : GForm v) (c : Nat) (s2 : Sto) (st2 : St) (hs2 : s2.broken = false)
    (hdo : Does8 v u fun e z => e = .returned (.int .i64 (c : Int)) ∧ ∃ l2 b2 G2, StAt z p l2 q ck lg s2.gen false ∧ LAt z l2 q (lo ck lg s2.gen) lg s2.str b2 ∧ DAt z q st2 G2 ∧ ¬ G2 p ∧ ¬ G2 l2 ∧ p ≠ l2 ∧ (b2 = true → c = 50) ∧ Loc (fun k => G k ∨ k = l ∨ k = p) (fun k => G2 k ∨ k = l2 ∨ k = p) w z)
    (hsz : s2.str.size ≤ lg * 255) (hg : 1 ≤ s2.gen ∧ s2.gen ≤ 4611686018427387904) :
    Calls Tryz.prog 51 #[.pointer (some ⟨p, 0, none⟩), v] u (PSSays PSt p q ck lg (fun k => G k ∨ k = l ∨ k = p) w (c, s2.told c, st2)) := by
  have hu := h.below hb
  refine (guarded_any p v u (fun x z => x = (c : Int) ∧ ∃ l2 b2 G2, StAt z p l2 q ck lg s2.gen false ∧ LAt z l2 q (lo ck lg s2.gen) lg s2.str b2 ∧ DAt z q st2 G2 ∧ ¬ G2 p ∧ ¬ G2 l2 ∧ p ≠ l2 ∧ (b2 = true → c = 50) ∧ Loc (fun k => G k ∨ k = l ∨ k = p) (fun k => G2 k ∨ k = l2 ∨ k = p) w z) hv ?_ ?_ ?_).mono ?_
  · exact (sfault_any p l q ck lg g false u hu.c).mono (fun e z hz => hz)
  · intro n a he
    refine (hdo n a he).mono ?_
    rintro e z ⟨rfl, hz⟩
    exact ⟨_, rfl, rfl, hz⟩
  · rintro x z ⟨_, l2, b2, G2, k1, _⟩
    exact ⟨⟨_, k1.c.2.2.2.2.2⟩, k1.free 5⟩
  · rintro e z ⟨x, z0, rfl, ⟨rfl, l2, b2, G2, k1, k2, k3, k4, k5, k6, k7, k8⟩, rfl⟩
    have h0 : RP0 z0 p q l2 b2 ck lg ⟨s2.gen, s2.str, b2⟩ st2 G2 → True := fun _ => trivial
    refine ⟨rfl, fun k => G2 k ∨ k = l2 ∨ k = p, ⟨l2, b2, G2, ?_, rfl⟩, k8.trans (Loc.setCell z0 _ _ (Or.inr (Or.inr rfl)))⟩
    have hc : (s2.told c).broken = (c == 50) := by unfold Sto.told; rw [hs2]; rfl
    refine ⟨con.same k3 (fun k hk => Below.heap_setCell z0 ⟨p, 5, none⟩ _ k (fun e => k4 (by rw [show k = p from e] at hk; exact hk))), ?_, k2.same (Below.heap_setCell z0 ⟨p, 5, none⟩ _ l2 (fun e => k6 (show l2 = p from e).symm)), k4, k5, k6, hsz, fun e => ?_, hg, h.conf⟩
    · show StAt _ p l2 q ck lg (s2.told c).gen (s2.told c).broken
      rw [hc, ← code_eq]
      exact heap_set3 (i := 5) k1 _
    · show (s2.told c).broken = true
      rw [hc, k7 e]
      rfl
end Go.Proofs.YtchhojkhfdkhfaaGreatDoor
namespace Go.Proofs.YtchhojkhfdkhfaaGreatDoor
open Go Go.RowKit Frm
theorem below_box2 (w : World) (o1 o2 : Obj) : Below w.heap.size w ((w.alloc o1).alloc o2) := grow2 w o1 o2
theorem boxes2 (w : World) (x y : Value) (T1 T2 : TypeId) : ((w.alloc (.cells #[x] T1)).alloc (.cells #[y] T2)).cell? ⟨w.heap.size, 0, none⟩ = some x ∧ ((w.alloc (.cells #[x] T1)).alloc (.cells #[y] T2)).cell? ⟨w.heap.size + 1, 0, none⟩ = some y := by
  refine ⟨cellB9 (one_below _ _) ((cell_of_row _ _ 0 _ _ _ (heap_alloc_last w _)).trans rfl), ?_⟩
  have := heap_alloc_last (w.alloc (.cells #[x] T1)) (.cells #[y] T2)
  rw [show (w.alloc (.cells #[x] T1)).heap.size = w.heap.size + 1 from by simp] at this
  exact (cell_of_row _ _ 0 _ _ _ this).trans rfl
theorem pSays_ret {PS : World → Nat → Nat → Nat → Nat → Sto → St → (Nat → Prop) → Prop} {p q ck lg : Nat} {A : Nat → Prop} {u : World} {r : Nat × Sto × St} : ∀ e w', PSSays PS p q ck lg A u r e w' → ∃ x, e = .returned x := fun _ _ h => ⟨_, h.1⟩
theorem wal_append_size (st : St) (o n : Nat) (s t : ByteArray) (hs : s.size ≤ n * 255) : (walAppend st o n s t).2.1.size ≤ n * 255 := by
  unfold walAppend
  split
  · exact hs
  · split
    · exact hs
    · rename_i h2
      split
      · exact hs
      · show (s ++ frm t).size ≤ _
        rw [ByteArray.size_append, frm_size]
        omega
theorem pAppend8 (p q ck lg : Nat) (s : Sto) (t : ByteArray) (st : St) (A : Nat → Prop) (u : World) (h : PSt u p q ck lg s st A) (_ : st.Ok) (hl : st.loose.length + 3000 ≤ 8000) (hc : Conf ck lg st.sure.length) (hn : lg ≤ 200) (ht : t.size ≤ 65536) (hok : st.Ok) :
    Calls Tryz.prog 22 #[.pointer (some ⟨p, 0, none⟩), .string t] u (PSSays PSt p q ck lg A u (stoAppend st ck lg s t)) := by
  obtain ⟨l, b, G, h, rfl⟩ := h
  obtain ⟨g, str, br⟩ := s
  have hbx := below_box2 u (.cells #[.pointer (some ⟨p, 0, none⟩)] 36) (.cells #[.string t] 9)
  have hu := h.below hbx
  obtain ⟨hb1, hb2⟩ := boxes2 u (.pointer (some ⟨p, 0, none⟩)) (.string t) 36 9
  refine append_wrap _ t u _ pSays_ret ?_
  cases br with
  | true =>
    have e : stoAppend st ck lg ⟨g, str, true⟩ t = (3, ⟨g, str, true⟩, st) := by unfold stoAppend; rw [if_pos rfl]
    rw [e]
    refine (guarded_down p _ _ (sfault_any p l q ck lg g true _ hu.c)).mono ?_
    rintro e v ⟨rfl, rfl⟩
    exact ⟨rfl, _, ⟨l, b, G, hu, rfl⟩, Loc.of_below _ hbx⟩
  | false =>
    have hb : b = false := by
      cases b with
      | true => exact absurd (h.bb rfl) (by simp)
      | false => rfl
    subst hb
    have hlf := lo_fit hc g
    have hcode := append_code st (lo ck lg g) lg str t (by omega)
    have hsz := wal_append_size st (lo ck lg g) lg str t h.sz
    have hlt := h.log.lt
    have hplt := h.c.lt
    have e : stoAppend st ck lg ⟨g, str, false⟩ t = ((walAppend st (lo ck lg g) lg str t).1, Sto.told ⟨g, (walAppend st (lo ck lg g) lg str t).2.1, false⟩ (walAppend st (lo ck lg g) lg str t).1, (walAppend st (lo ck lg g) lg str t).2.2) := by
      unfold stoAppend
      rw [if_neg (by simp)]
    rw [e]
    have hGl : ∀ k, G k → k < u.heap.size := con.lt h.d
    refine under h hbx (Or.inl ⟨_, _, rfl⟩) _ ⟨g, (walAppend st (lo ck lg g) lg str t).2.1, false⟩ _ rfl ?_ hsz h.gen
    intro n a he
    cases he
    refine calls_eq (a := #[.pointer (some ⟨u.heap.size, 0, none⟩), .pointer (some ⟨u.heap.size + 1, 0, none⟩)]) rfl ((append1_any u.heap.size (u.heap.size + 1) p l q ck lg g false t _ (fun e z => e = .returned (.int .i64 (((walAppend st (lo ck lg g) lg str t).1 : Nat) : Int)) ∧ LAt z l q (lo ck lg g) lg (walAppend st (lo ck lg g) lg str t).2.1 (brk st (lo ck lg g) lg str t) ∧ ∃ G2, DAt z q (walAppend st (lo ck lg g) lg str t).2.2 G2 ∧ Loc (fun k => G k ∨ k = l) (fun k => G2 k ∨ k = l) ((u.alloc (.cells #[.pointer (some ⟨p, 0, none⟩)] 36)).alloc (.cells #[.string t] 9)) z ∧ ¬ G2 l) hb1 hb2 hu.c ?_ ?_).mono ?_)
    · rintro e z ⟨rfl, _, G2, _, k3, _⟩
      have hs : ∀ k, k < ((u.alloc (.cells #[.pointer (some ⟨p, 0, none⟩)] 36)).alloc (.cells #[.string t] 9)).heap.size → ¬ (G k ∨ k = l) → z.heap[k]? = ((u.alloc (.cells #[.pointer (some ⟨p, 0, none⟩)] 36)).alloc (.cells #[.string t] 9)).heap[k]? := k3.block
      have hsz2 : ((u.alloc (.cells #[.pointer (some ⟨p, 0, none⟩)] 36)).alloc (.cells #[.string t] 9)).heap.size = u.heap.size + 2 := by simp
      refine ⟨_, rfl, (cell_same8 (hs _ (by omega) ?_) 0).trans hb1, (cell_same8 (hs _ (by omega) ?_) 0).trans hb2, (cell_same8 (hs p (by omega) ?_) 0).trans hu.c.c.1⟩
      · rintro (k | k)
        · have := hGl _ k; omega
        · omega
      · rintro (k | k)
        · have := hGl _ k; omega
        · omega
      · rintro (k | k)
        · exact h.np k
        · exact h.pl k
    · intro v hv
      have hv2 := hu.below hv
      refine (pAppend l q (lo ck lg g) lg str t st G v hv2.log hv2.d h.nl hok (by omega) (by have := hc.few; omega) hn h.sz (by unfold maxLen; omega)).mono ?_
      rintro e z ⟨rfl, k1, G2, k2, k3, k4⟩
      exact ⟨rfl, k1, G2, k2, (Loc.of_below _ hv).trans k3, k4⟩
    · rintro e z ⟨rfl, k1, G2, k2, k3, k4⟩
      have hl2 : Loc (fun k => G k ∨ k = l) (fun k => G2 k ∨ k = l) u z := (Loc.of_below _ hbx).trans k3
      have hnp : ¬ (G p ∨ p = l) := fun hh => hh.elim h.np h.pl
      have hnp2 : ¬ G2 p := fun hf => by
        rcases hl2.own p (Or.inl hf) with h1 | h1
        · exact hnp h1
        · omega
      exact ⟨rfl, l, _, G2, h.c.same (hl2.block p hplt hnp), k1, k2, hnp2, k4, h.pl, hcode.2, hl2.three⟩
end Go.Proofs.YtchhojkhfdkhfaaGreatDoor
namespace Go.Proofs.YtchhojkhfdkhfaaGreatDoor
open Go Go.RowKit Frm
theorem pSync8 (p q ck lg : Nat) (s : Sto) (st : St) (A : Nat → Prop) (u : World) (h : PSt u p q ck lg s st A) (hok : st.Ok) (hl : st.loose.length + 3000 ≤ 8000) :
    Calls Tryz.prog 23 #[.pointer (some ⟨p, 0, none⟩)] u (PSSays PSt p q ck lg A u (stoSync st s)) := by
  obtain ⟨l, b, G, h, rfl⟩ := h
  obtain ⟨g, str, br⟩ := s
  have hbx := one_below u (.cells #[.pointer (some ⟨p, 0, none⟩)] 36)
  have hu := h.below hbx
  have hb1 : (u.alloc (.cells #[.pointer (some ⟨p, 0, none⟩)] 36)).cell? ⟨u.heap.size, 0, none⟩ = some (.pointer (some ⟨p, 0, none⟩)) := (cell_of_row _ _ 0 _ _ _ (heap_alloc_last u _)).trans rfl
  refine sync_wrap _ u _ pSays_ret ?_
  cases br with
  | true =>
    have e : stoSync st ⟨g, str, true⟩ = (3, ⟨g, str, true⟩, st) := by unfold stoSync; rw [if_pos rfl]
    rw [e]
    refine (guarded_down p _ _ (sfault_any p l q ck lg g true _ hu.c)).mono ?_
    rintro e v ⟨rfl, rfl⟩
    exact ⟨rfl, _, ⟨l, b, G, hu, rfl⟩, Loc.of_below _ hbx⟩
  | false =>
    have hb : b = false := by
      cases b with
      | true => exact absurd (h.bb rfl) (by simp)
      | false => rfl
    subst hb
    have hplt := h.c.lt
    have e : stoSync st ⟨g, str, false⟩ = (st.sync.1, Sto.told ⟨g, str, false⟩ st.sync.1, st.sync.2) := by
      unfold stoSync
      rw [if_neg (by simp)]
    rw [e]
    refine under h hbx (Or.inr (Or.inl ⟨_, rfl⟩)) _ ⟨g, str, false⟩ _ rfl ?_ h.sz h.gen
    intro n a he
    cases he
    refine calls_eq (a := #[.pointer (some ⟨u.heap.size, 0, none⟩)]) rfl ((sync1_any u.heap.size p l q ck lg g false _ (fun e z => e = .returned (.int .i64 ((st.sync.1 : Nat) : Int)) ∧ ∃ G2, DAt z q st.sync.2 G2 ∧ Loc G G2 (u.alloc (.cells #[.pointer (some ⟨p, 0, none⟩)] 36)) z) hb1 hu.c ?_ ?_).mono ?_)
    · rintro e z ⟨rfl, _⟩
      exact ⟨_, rfl⟩
    · refine (con.sync q st G _ hu.d hok (by omega)).mono ?_
      rintro e z ⟨rfl, G2, k2, k3⟩
      exact ⟨rfl, G2, k2, k3⟩
    · rintro e z ⟨rfl, G2, k2, k3⟩
      have hd := h.disk k2 ((Loc.of_below _ hbx).trans k3)
      exact ⟨rfl, l, false, G2, hd.c, hd.log, k2, hd.np, hd.nl, h.pl, (fun x => by simp at x), ((Loc.of_below _ hbx).trans k3).pair⟩
theorem sto_trim_go (st : St) (ck lg g : Nat) (str t : ByteArray) (hg : g < 4611686018427387904) (hr : ¬ room (2 * (ck : Int)) < (t.size : Int)) :
    stoTrim st ck lg ⟨g, str, false⟩ t = ((goR st ck lg (g + 1) t).1, (if (goR st ck lg (g + 1) t).1 = 0 then ⟨g + 1, goS st ck lg (g + 1) t, false⟩ else Sto.told ⟨g, str, false⟩ (goR st ck lg (g + 1) t).1), (goR st ck lg (g + 1) t).2) := by
  unfold stoTrim goR goS
  rw [if_neg (by simp), if_neg (show ¬ 4611686018427387904 ≤ g by omega), if_neg hr]
  by_cases h1 : (walClear st (lo ck lg (g + 1)) lg).1 ≠ 0
  · rw [if_pos h1, if_pos h1, if_neg h1]
  · rw [if_neg h1, if_neg h1]
    by_cases h2 : ((walClear st (lo ck lg (g + 1)) lg).2.save 0 (2 * (ck : Int)) (g + 1) t).1 ≠ 0
    · rw [if_pos h2, if_pos h2, if_neg h2]
    · rw [if_neg h2, if_neg h2]
      by_cases h3 : (walOpen ((walClear st (lo ck lg (g + 1)) lg).2.save 0 (2 * (ck : Int)) (g + 1) t).2 (lo ck lg (g + 1)) lg).1.1 ≠ 0
      · rw [if_pos h3, if_neg h3]
      · have h3 : (walOpen ((walClear st (lo ck lg (g + 1)) lg).2.save 0 (2 * (ck : Int)) (g + 1) t).2 (lo ck lg (g + 1)) lg).1.1 = 0 := by omega
        rw [if_neg (fun x => x h3), if_pos h3, h3]
theorem pTrim8 (p q ck lg : Nat) (s : Sto) (t : ByteArray) (st : St) (A : Nat → Prop) (u : World) (h : PSt u p q ck lg s st A) (hok : st.Ok) (hl : st.loose.length + 3000 ≤ 8000) (hc : Conf ck lg st.sure.length) (hn : lg ≤ 200) (ht : t.size ≤ 65536) :
    Calls Tryz.prog 24 #[.pointer (some ⟨p, 0, none⟩), .string t] u (PSSays PSt p q ck lg A u (stoTrim st ck lg s t)) := by
  obtain ⟨l, b, G, h, rfl⟩ := h
  obtain ⟨g, str, br⟩ := s
  have hbx := below_box2 u (.cells #[.pointer (some ⟨p, 0, none⟩)] 36) (.cells #[.string t] 9)
  have hu := h.below hbx
  obtain ⟨hb1, hb2⟩ := boxes2 u (.pointer (some ⟨p, 0, none⟩)) (.string t) 36 9
  have hg1 : 1 ≤ g ∧ g ≤ 4611686018427387904 := h.gen
  have hck := hc.ck256
  refine trim_wrap _ t u _ pSays_ret ?_
  cases br with
  | true =>
    have e : stoTrim st ck lg ⟨g, str, true⟩ t = (3, ⟨g, str, true⟩, st) := by unfold stoTrim; rw [if_pos rfl]
    rw [e]
    refine (guarded_down p _ _ (sfault_any p l q ck lg g true _ hu.c)).mono ?_
    rintro e v ⟨rfl, rfl⟩
    exact ⟨rfl, _, ⟨l, b, G, hu, rfl⟩, Loc.of_below _ hbx⟩
  | false =>
    have hb : b = false := by
      cases b with
      | true => exact absurd (h.bb rfl) (by simp)
      | false => rfl
    subst hb
    have hplt := h.c.lt
    have hltl := h.log.lt
    by_cases hm : g = 4611686018427387904
    · have e : stoTrim st ck lg ⟨g, str, false⟩ t = (2, Sto.told ⟨g, str, false⟩ 2, st) := by unfold stoTrim; rw [if_neg (by simp), if_pos (show 4611686018427387904 ≤ g by omega)]; rfl
      rw [e]
      refine under h hbx (Or.inr (Or.inr ⟨_, _, rfl⟩)) _ ⟨g, str, false⟩ _ rfl ?_ h.sz h.gen
      intro n a he
      cases he
      refine calls_eq (a := #[.pointer (some ⟨u.heap.size, 0, none⟩), .pointer (some ⟨u.heap.size + 1, 0, none⟩)]) rfl ((trim_gen u.heap.size (u.heap.size + 1) p l q ck lg g false _ hb1 hu.c hm).mono ?_)
      rintro e z ⟨rfl, rfl⟩
      exact ⟨rfl, l, false, G, hu.c, hu.log, hu.d, h.np, h.nl, h.pl, (fun x => by simp at x), Loc.of_below _ hbx⟩
    · have hR : ∀ v, Calls Tryz.prog 56 #[areaV (some ⟨q, 0, none⟩) (ck : Int) (lg : Int)] v fun e w' => e = .returned (.int .i64 (room (2 * (ck : Int)))) ∧ Below v.heap.size v w' := fun v =>
        aroom_any (some ⟨q, 0, none⟩) (ck : Int) (lg : Int) (room (2 * (ck : Int))) v (fun y => ckb_any _ _ _ y (by omega)) (fun y => room_any7 (2 * (ck : Int)) y (by omega))
      by_cases hr : room (2 * (ck : Int)) < (t.size : Int)
      · have e : stoTrim st ck lg ⟨g, str, false⟩ t = (4, Sto.told ⟨g, str, false⟩ 4, st) := by unfold stoTrim; rw [if_neg (by simp), if_neg (show ¬ 4611686018427387904 ≤ g by omega), if_pos hr]; rfl
        rw [e]
        refine under h hbx (Or.inr (Or.inr ⟨_, _, rfl⟩)) _ ⟨g, str, false⟩ _ rfl ?_ h.sz h.gen
        intro n a he
        cases he
        refine calls_eq (a := #[.pointer (some ⟨u.heap.size, 0, none⟩), .pointer (some ⟨u.heap.size + 1, 0, none⟩)]) rfl ((trim_long u.heap.size (u.heap.size + 1) p l q ck lg g false t _ _ hb1 hb2 hu.c hm hR hr).mono ?_)
        rintro e z ⟨rfl, hz⟩
        have hz2 := hu.below hz
        exact ⟨rfl, l, false, G, hz2.c, hz2.log, hz2.d, h.np, h.nl, h.pl, (fun x => by simp at x), Loc.of_below _ (bnext hbx hz)⟩
      · rw [sto_trim_go st ck lg g str t (by omega) hr]
        have hgo : ∀ v, Below ((u.alloc (.cells #[.pointer (some ⟨p, 0, none⟩)] 36)).alloc (.cells #[.string t] 9)).heap.size ((u.alloc (.cells #[.pointer (some ⟨p, 0, none⟩)] 36)).alloc (.cells #[.string t] 9)) v → Calls Tryz.prog 57 #[.pointer (some ⟨p, 0, none⟩), .int .u64 ((g + 1 : Nat) : Int), .string t] v (PGo p q ck lg (g + 1) t st G u) := fun v hv => by
          have hv2 := hu.below hv
          have hbv := bnext hbx hv
          refine (goOn_any p l q ck lg g (g + 1) t st G v hv2.c hv2.d h.np hok hl hc hn ht).mono ?_
          rintro e z ⟨rfl, hz⟩
          refine ⟨rfl, ?_⟩
          rcases hz with ⟨h0, pl2, F', k1, k2, k3, k4, k5, k6, k7⟩ | ⟨h0, F', k1, k2⟩
          · exact Or.inl ⟨h0, pl2, F', k1, k2, k3, (Loc.of_below _ hbv).trans k4, k5, k6, by have := hbv.size; omega⟩
          · exact Or.inr ⟨h0, F', k1, (Loc.of_below _ hbv).trans k2⟩
        have hsz : (goS st ck lg (g + 1) t).size ≤ lg * 255 := by
          have hlf := lo_fit hc (g + 1)
          have hcl := clear_long (lo ck lg (g + 1)) lg st (by omega)
          have hokC := clear_ok hok (lo ck lg (g + 1)) lg
          have hsl := save_long (walClear st (lo ck lg (g + 1)) lg).2 0 (2 * (ck : Int)) (g + 1) t
          exact open_size (save_ok8 hokC 0 (2 * (ck : Int)) (g + 1) t) _ _ (by omega)
        have hc2 : ∀ e z, PGo p q ck lg (g + 1) t st G u e z → ∃ x, e = .returned x := fun e z hz => ⟨_, hz.1⟩
        have hdo : ∀ n a, fnOf8 (.func (.func 55) #[] #[.pointer (some ⟨u.heap.size, 0, none⟩), .pointer (some ⟨u.heap.size + 1, 0, none⟩)]) = some (n, a) → Calls Tryz.prog n a ((u.alloc (.cells #[.pointer (some ⟨p, 0, none⟩)] 36)).alloc (.cells #[.string t] 9)) (PGo p q ck lg (g + 1) t st G u) := fun n a he => by
          cases he
          exact calls_eq (a := #[.pointer (some ⟨u.heap.size, 0, none⟩), .pointer (some ⟨u.heap.size + 1, 0, none⟩)]) rfl (trim_go u.heap.size (u.heap.size + 1) p l q ck lg g false t _ _ _ hb1 hb2 hu.c (by omega) hR hr hc2 hgo)
        have hnl2 : ∀ {F' : Nat → Prop} {z : World}, Loc G F' u z → ¬ F' p ∧ ¬ F' l := fun hl => ⟨own_new hl h.np hplt, own_new hl h.nl hltl⟩
        by_cases h0 : (goR st ck lg (g + 1) t).1 = 0
        · rw [if_pos h0, h0]
          have e2 : (⟨g + 1, goS st ck lg (g + 1) t, false⟩ : Sto) = Sto.told ⟨g + 1, goS st ck lg (g + 1) t, false⟩ 0 := rfl
          rw [e2]
          refine under h hbx (Or.inr (Or.inr ⟨_, _, rfl⟩)) _ ⟨g + 1, goS st ck lg (g + 1) t, false⟩ _ rfl ?_ hsz ⟨by show 1 ≤ g + 1; omega, by show g + 1 ≤ _; omega⟩
          intro n a he
          refine (hdo n a he).mono ?_
          rintro e z ⟨rfl, ⟨_, pl2, F', k1, k2, k3, k4, k5, k6, k7⟩ | ⟨h1, _⟩⟩
          · refine ⟨by rw [h0], pl2, false, F', k1, k2, k3, k5, k6, by omega, (fun x => by simp at x), ?_⟩
            refine ⟨k4.os, k4.tape, k4.output, k4.size, fun k hk hf => k4.block k hk (fun hh => hf (hh.elim Or.inl (fun e => Or.inr (Or.inr e)))), fun k hk => ?_⟩
            rcases hk with hk | hk | hk
            · rcases k4.own k (Or.inl hk) with (h1 | h1) | h1
              · exact Or.inl (Or.inl h1)
              · exact Or.inl (Or.inr (Or.inr h1))
              · exact Or.inr h1
            · exact Or.inr (by omega)
            · exact Or.inl (Or.inr (Or.inr hk))
          · exact absurd h0 h1
        · rw [if_neg h0]
          refine under h hbx (Or.inr (Or.inr ⟨_, _, rfl⟩)) _ ⟨g, str, false⟩ _ rfl ?_ h.sz h.gen
          intro n a he
          refine (hdo n a he).mono ?_
          rintro e z ⟨rfl, ⟨h1, _⟩ | ⟨_, F', k1, k2⟩⟩
          · exact absurd h1 h0
          · have hd := h.disk k1 k2
            exact ⟨rfl, l, false, F', hd.c, hd.log, k1, hd.np, hd.nl, h.pl, (fun x => by simp at x), k2.pair⟩
end Go.Proofs.YtchhojkhfdkhfaaGreatDoor
namespace Go.Proofs.YtchhojkhfdkhfaaGreatDoor
open Go Go.RowKit Frm
set_option maxRecDepth 10000 in
set_option maxHeartbeats 2000000 in
theorem unused_any (pd : Option Addr) (ck lg n : Int) (x : Nat) (y : ByteArray) (c : Nat) (w : World) (hK : ∀ u, Calls Tryz.prog 48 #[areaV pd ck lg] u fun e w' => e = .returned (.int .i64 n) ∧ Below u.heap.size u w')
    (hL : ∀ u, Below w.heap.size w u → Calls Tryz.prog 47 #[.pointer pd, .int .i64 0, .int .i64 n] u fun e v => e = .returned (.tuple #[.int .u64 (x : Int), .string y, .int .i64 (c : Int)]) ∧ Below u.heap.size u v) (r : Int) (hr : r = if c = 0 then 7 else if c = 5 then 0 else (c : Int)) :
    Calls Tryz.prog 43 #[areaV pd ck lg] w fun e w' => e = .returned (.int .i64 r) ∧ Below w.heap.size w w' := by
  have HB := hide (one_below w (.cells #[.pointer pd, .int .i64 ck, .int .i64 lg] 102))
  have HC : Hid (∀ z, Below (w.alloc (.cells #[.pointer pd, .int .i64 ck, .int .i64 lg] 102)).heap.size (w.alloc (.cells #[.pointer pd, .int .i64 ck, .int .i64 lg] 102)) z → _) := area_cells w pd ck lg
  have HK := hide hK
  have HL := hide hL
  have HB1 := hide (Below.refl (w.alloc (.cells #[.pointer pd, .int .i64 ck, .int .i64 lg] 102)).heap.size (w.alloc (.cells #[.pointer pd, .int .i64 ck, .int .i64 lg] 102))).drew
  have HR := hide hr
  unfold areaV at *
  clear hK hL hr
  go_enter Tryz.func43, Tryz.ntmps43
  go_wp2_with fail
  generalize w.alloc (.cells #[.pointer pd, .int .i64 ck, .int .i64 lg] 102) = W at *
  have K := HB1.out
  go_region_held3 (fun z => z.cell? ⟨w.heap.size, 0, none⟩ = some (.pointer pd) ∧ z.cell? ⟨w.heap.size, 1, none⟩ = some (.int .i64 ck) ∧ z.cell? ⟨w.heap.size, 2, none⟩ = some (.int .i64 lg))
    ((with_reducible exact HC.out _ K))
    (first
      | (go_at_call 48; refine (HK.out _).mono ?_; rintro e z0 ⟨rfl, hb0⟩; have K := bnext K hb0)
      | (go_at_call 47; refine (HL.out _ (HB.out.trans (K.mono HB.out.size))).mono ?_; rintro e z0 ⟨rfl, hb0⟩; have K := bnext K hb0))
  all_goals
    have HE := hide (HB.out.trans (K.mono HB.out.size))
    clear K
    by_cases h1 : c = 0
    · have hr : r = 7 := by rw [HR.out, if_pos h1]
      subst h1 hr
      go_wp2
      go_ret
      exact ⟨rfl, HE.out⟩
    · by_cases h2 : c = 5
      · have hr : r = 0 := by rw [HR.out, if_neg h1, if_pos h2]
        subst h2 hr
        go_wp2
        go_ret
        exact ⟨rfl, HE.out⟩
      · have z1 : ¬ ((c : Int) = 0) := by omega
        have z2 : ¬ ((c : Int) = 5) := by omega
        have hr : r = (c : Int) := by rw [HR.out, if_neg h1, if_neg h2]
        subst hr
        clear h1 h2
        go_wp2
        go_ret
        exact ⟨rfl, HE.out⟩
/-- A box of an area. -/
def ACell (B : Nat) (pd : Option Addr) (ck lg : Int) (u : World) : Prop := u.cell? ⟨B, 0, none⟩ = some (.pointer pd) ∧ u.cell? ⟨B, 1, none⟩ = some (.int .i64 ck) ∧ u.cell? ⟨B, 2, none⟩ = some (.int .i64 lg)
theorem ACell.below {B : Nat} {pd : Option Addr} {ck lg : Int} {u v : World} (h : ACell B pd ck lg u) (hb : Below u.heap.size u v) : ACell B pd ck lg v := ⟨cellB9 hb h.1, cellB9 hb h.2.1, cellB9 hb h.2.2⟩
theorem ACell.all {B : Nat} {pd : Option Addr} {ck lg : Int} {u : World} (h : ACell B pd ck lg u) : u.cell? ⟨B, 0, none⟩ = some (.pointer pd) ∧ u.cell? ⟨B, 1, none⟩ = some (.int .i64 ck) ∧ u.cell? ⟨B, 2, none⟩ = some (.int .i64 lg) := h
theorem ACell.lt {B : Nat} {pd : Option Addr} {ck lg : Int} {u : World} (h : ACell B pd ck lg u) : B < u.heap.size := World.block_lt_of_cell? u _ h.1
theorem ACell.same {B : Nat} {pd : Option Addr} {ck lg : Int} {u v : World} (h : ACell B pd ck lg u) (hs : v.heap[B]? = u.heap[B]?) : ACell B pd ck lg v := ⟨(cell_same8 hs 0).trans h.1, (cell_same8 hs 1).trans h.2.1, (cell_same8 hs 2).trans h.2.2⟩
/-- Make's boxes: its own area, those of its steps. -/
structure MIn (w : World) (pd : Option Addr) (ck lg : Int) (z : World) : Prop where
  below : Below w.heap.size w z
  a : ACell (w.heap.size + 1) pd ck lg z
/-- A step's boxes: an area, a number. -/
def MA (w : World) (pd : Option Addr) (ck lg : Int) (B1 B2 : Nat) (z : World) : Prop := (ACell B1 pd ck lg z ∧ z.cell? ⟨B2, 0, none⟩ = some (.int .u64 1)) ∧ w.heap.size + 2 ≤ B1 ∧ w.heap.size + 2 ≤ B2
def MT (w : World) (B : Nat) (z : World) : Prop := z.cell? ⟨B, 0, none⟩ = some (.string ⟨#[]⟩) ∧ w.heap.size + 2 ≤ B
theorem MIn.keep {w z v : World} {pd : Option Addr} {ck lg : Int} (h : MIn w pd ck lg z) (hb : Below z.heap.size z v) : MIn w pd ck lg v := ⟨bnext h.below hb, h.a.below hb⟩
theorem MA.keep {w z v : World} {pd : Option Addr} {ck lg : Int} {B1 B2 : Nat} (h : MA w pd ck lg B1 B2 z) (hb : Below z.heap.size z v) : MA w pd ck lg B1 B2 v := ⟨⟨h.1.1.below hb, cellB9 hb h.1.2⟩, h.2⟩
theorem MT.keep {w z v : World} {B : Nat} (h : MT w B z) (hb : Below z.heap.size z v) : MT w B v := ⟨cellB9 hb h.1, h.2⟩
theorem MA.new {w z : World} {pd : Option Addr} {ck lg : Int} (hz : w.heap.size + 2 ≤ z.heap.size) : MA w pd ck lg z.heap.size (z.heap.size + 1) ((z.alloc (.cells #[.pointer pd, .int .i64 ck, .int .i64 lg] 102)).alloc (.cells #[.int .u64 1] 50)) := by
  obtain ⟨c0, c1, c2⟩ := area_cells z pd ck lg _ (one_below (z.alloc (.cells #[.pointer pd, .int .i64 ck, .int .i64 lg] 102)) (.cells #[.int .u64 1] 50))
  refine ⟨⟨⟨c0, c1, c2⟩, ?_⟩, hz, by omega⟩
  have := heap_alloc_last (z.alloc (.cells #[.pointer pd, .int .i64 ck, .int .i64 lg] 102)) (.cells #[.int .u64 1] 50)
  rw [show (z.alloc (.cells #[.pointer pd, .int .i64 ck, .int .i64 lg] 102)).heap.size = z.heap.size + 1 from by simp] at this
  exact (cell_of_row _ _ 0 _ _ _ this).trans rfl
theorem MT.new {w z : World} {pd : Option Addr} {ck lg : Int} (hz : w.heap.size + 2 ≤ z.heap.size) : MT w (z.heap.size + 1 + 1) (((z.alloc (.cells #[.pointer pd, .int .i64 ck, .int .i64 lg] 102)).alloc (.cells #[.int .u64 1] 50)).alloc (.cells #[.string ⟨#[]⟩] 9)) := by
  refine ⟨?_, by omega⟩
  have := heap_alloc_last ((z.alloc (.cells #[.pointer pd, .int .i64 ck, .int .i64 lg] 102)).alloc (.cells #[.int .u64 1] 50)) (.cells #[.string ⟨#[]⟩] 9)
  rw [show ((z.alloc (.cells #[.pointer pd, .int .i64 ck, .int .i64 lg] 102)).alloc (.cells #[.int .u64 1] 50)).heap.size = z.heap.size + 1 + 1 from by simp] at this
  exact (cell_of_row _ _ 0 _ _ _ this).trans rfl
theorem MIn.start (w : World) (pd : Option Addr) (ck lg : Int) : MIn w pd ck lg ((w.alloc (.cells #[.int .i64 ck, .int .i64 lg] 23)).alloc (.cells #[.pointer pd, .int .i64 ck, .int .i64 lg] 102)) := by
  refine ⟨grow2 w _ _, ?_⟩
  obtain ⟨c0, c1, c2⟩ := area_cells (w.alloc (.cells #[.int .i64 ck, .int .i64 lg] 23)) pd ck lg _ (Below.refl _ _)
  rw [show (w.alloc (.cells #[.int .i64 ck, .int .i64 lg] 23)).heap.size = w.heap.size + 1 from by simp] at c0 c1 c2
  exact ⟨c0, c1, c2⟩
theorem conf_cells (w : World) (ck lg : Int) (z : World) (hb : Below (w.alloc (.cells #[.int .i64 ck, .int .i64 lg] 23)).heap.size (w.alloc (.cells #[.int .i64 ck, .int .i64 lg] 23)) z) : z.cell? ⟨w.heap.size, 0, none⟩ = some (.int .i64 ck) ∧ z.cell? ⟨w.heap.size, 1, none⟩ = some (.int .i64 lg) := by
  have hz := (hb.block w.heap.size (by simp)).trans (heap_alloc_last w (.cells #[.int .i64 ck, .int .i64 lg] 23))
  exact ⟨(cell_of_row _ _ 0 _ _ _ hz).trans rfl, (cell_of_row _ _ 1 _ _ _ hz).trans rfl⟩
/-- Make's steps. -/
def mSteps (pd : Option Addr) (ck lg : Int) (B1 B2 B3 B4 B5 : Nat) : List Value := [.func (.func 42) #[areaV pd ck lg] #[], .func (.func 43) #[areaV pd ck lg] #[], .func (.func 76) #[] #[.pointer (some ⟨B1, 0, none⟩), .pointer (some ⟨B2, 0, none⟩)], .func (.func 79) #[] #[.pointer (some ⟨B3, 0, none⟩), .pointer (some ⟨B4, 0, none⟩), .pointer (some ⟨B5, 0, none⟩)]]
set_option maxRecDepth 10000 in
set_option maxHeartbeats 2000000 in
theorem make_wrap (pd : Option Addr) (ck lg : Int) (w : World) (P : Ending → World → Prop) (hP : ∀ e w', P e w' → ∃ x, e = .returned x)
    (hG : ∀ z B1 B2 B3 B4 B5 c T, MIn w pd ck lg z → MA w pd ck lg B1 B2 z → MA w pd ck lg B3 B4 z → MT w B5 z → Calls Tryz.prog 41 #[.slice (some ⟨z.heap.size, 0, none⟩) 4 c] (z.alloc (.cells #[.func (.func 42) #[areaV pd ck lg] #[], .func (.func 43) #[areaV pd ck lg] #[], .func (.func 76) #[] #[.pointer (some ⟨B1, 0, none⟩), .pointer (some ⟨B2, 0, none⟩)], .func (.func 79) #[] #[.pointer (some ⟨B3, 0, none⟩), .pointer (some ⟨B4, 0, none⟩), .pointer (some ⟨B5, 0, none⟩)]] T)) fun e v => P e v ∧ ACell (w.heap.size + 1) pd ck lg v) :
    Calls Tryz.prog 19 #[.pointer pd, confV ck lg] w P := by
  have HG := hide hG
  have HP := hide hP
  obtain ⟨c0, c1⟩ := conf_cells w ck lg _ (Below.refl _ _)
  have K := (MIn.start w pd ck lg).keep ((Below.refl _ _).drew)
  have HK1 : Hid (∀ z, MIn w pd ck lg z → Calls Tryz.prog 44 #[areaV pd ck lg, .int .u64 1] z fun e v => e = .returned (.func (.func 76) #[] #[.pointer (some ⟨z.heap.size, 0, none⟩), .pointer (some ⟨z.heap.size + 1, 0, none⟩)]) ∧ MIn w pd ck lg v ∧ MA w pd ck lg z.heap.size (z.heap.size + 1) v) := fun z hK => by
    refine (clearing_any pd ck lg 1 z).mono ?_
    rintro e v ⟨rfl, rfl⟩
    exact ⟨rfl, hK.keep (grow2 z _ _), MA.new (by have := hK.a.lt; omega)⟩
  have HK2 : Hid (∀ z B1 B2, MIn w pd ck lg z → MA w pd ck lg B1 B2 z → Calls Tryz.prog 45 #[areaV pd ck lg, .int .u64 1, .string ⟨#[]⟩] z fun e v => e = .returned (.func (.func 79) #[] #[.pointer (some ⟨z.heap.size, 0, none⟩), .pointer (some ⟨z.heap.size + 1, 0, none⟩), .pointer (some ⟨z.heap.size + 1 + 1, 0, none⟩)]) ∧ MIn w pd ck lg v ∧ MA w pd ck lg B1 B2 v ∧ MA w pd ck lg z.heap.size (z.heap.size + 1) v ∧ MT w (z.heap.size + 1 + 1) v) := fun z B1 B2 hK hA => by
    refine (saving_any pd ck lg 1 ⟨#[]⟩ z).mono ?_
    rintro e v ⟨rfl, rfl⟩
    exact ⟨rfl, hK.keep (grow3 z _ _ _), hA.keep (grow3 z _ _ _), (MA.new (by have := hK.a.lt; omega)).keep (grow1 _ _), MT.new (by have := hK.a.lt; omega)⟩
  unfold areaV at HK1 HK2 HG
  unfold confV
  clear hG hP
  go_enter Tryz.func19, Tryz.ntmps19
  go_wp2_with fail
  generalize (w.alloc (.cells #[.int .i64 ck, .int .i64 lg] 23)).alloc (.cells #[.pointer pd, .int .i64 ck, .int .i64 lg] 102) = W at *
  clear c0 c1
  go_region_held3 (fun z => z.cell? ⟨w.heap.size + 1, 0, none⟩ = some (.pointer pd) ∧ z.cell? ⟨w.heap.size + 1, 1, none⟩ = some (.int .i64 ck) ∧ z.cell? ⟨w.heap.size + 1, 2, none⟩ = some (.int .i64 lg))
    ((first | (with_reducible exact (MIn.a K).all) | (with_reducible exact (MIn.a K.1).all) | (with_reducible exact ((MIn.a K.1).below (one_below _ _)).all) | (with_reducible exact ACell.all K.2)))
    (first
      | (go_at_call 44; refine (HK1.out _ K).mono ?_; rintro e z1 ⟨rfl, hk1⟩; have K := hk1)
      | (go_at_call 45; refine (HK2.out _ _ _ K.1 K.2).mono ?_; rintro e z2 ⟨rfl, hk2⟩; have K := hk2)
      | (go_at_call 41; refine (HG.out _ _ _ _ _ _ _ _ K.1 K.2.1 K.2.2.1 K.2.2.2).mono ?_; rintro e z3 ⟨hz3, ha3⟩; obtain ⟨x, rfl⟩ := HP.out _ _ hz3; have K := And.intro hz3 ha3))
  all_goals
    have HZ := hide K.1
    clear K
    go_wp2
    exact HZ.out
end Go.Proofs.YtchhojkhfdkhfaaGreatDoor
namespace Go.Proofs.YtchhojkhfdkhfaaGreatDoor
open Go Go.RowKit Frm
/-- A disk, since u0. -/
def Bq (q : Nat) (F : Nat → Prop) (u0 : World) (st : St) (v : World) : Prop := ∃ F', DAt v q st F' ∧ Loc F F' u0 v
theorem Bq.step {q : Nat} {F F1 F2 : Nat → Prop} {u0 v z : World} {st2 : St} (hl : Loc F F1 u0 v) (h1 : DAt z q st2 F2) (h2 : Loc F1 F2 v z) : Bq q F u0 st2 z := ⟨F2, h1, hl.trans h2⟩
/-- Make's boxes, at any step. -/
theorem m_boxes {w u0 v : World} {q : Nat} {F : Nat → Prop} {st : St} {ck lg : Int} {B1 B2 : Nat} (h : MA w (some ⟨q, 0, none⟩) ck lg B1 B2 u0) (hF : ∀ k, F k → k < w.heap.size) (hb : Bq q F u0 st v) : ABox B1 B2 q ck lg 1 v := by
  obtain ⟨F', _, hl⟩ := hb
  have hx : ABox B1 B2 q ck lg 1 u0 := ⟨h.1.1.1, h.1.1.2.1, h.1.1.2.2, h.1.2⟩
  exact hx.same (hl.block B1 hx.lt.1 (fun hf => by have := hF _ hf; have := h.2.1; omega)) (hl.block B2 hx.lt.2 (fun hf => by have := hF _ hf; have := h.2.2; omega))
set_option maxRecDepth 10000 in
set_option maxHeartbeats 1000000 in
theorem pMake8 (q : Nat) (st : St) (F : Nat → Prop) (ck lg : Int) (w : World) (hD : DAt w q st F) (hok : st.Ok) (hl : st.loose.length + 3000 ≤ 8000) (_ : st.sure.length ≤ 400) (_ : I64 ck) (_ : I64 lg) :
    Calls Tryz.prog 19 #[.pointer (some ⟨q, 0, none⟩), confV ck lg] w fun e v => e = .returned (.int .i64 (((stoMake st ck lg).1 : Nat) : Int)) ∧ ∃ F', DAt v q (stoMake st ck lg).2 F' ∧ Loc F F' w v := by
  have hF := con.lt hD
  refine make_wrap (some ⟨q, 0, none⟩) ck lg w _ (fun e v h => ⟨_, h.1⟩) ?_
  intro z B1 B2 B3 B4 B5 c T hz h1 h2 h3
  generalize hu0 : (z.alloc (.cells #[.func (.func 42) #[areaV (some ⟨q, 0, none⟩) ck lg] #[], .func (.func 43) #[areaV (some ⟨q, 0, none⟩) ck lg] #[], .func (.func 76) #[] #[.pointer (some ⟨B1, 0, none⟩), .pointer (some ⟨B2, 0, none⟩)], .func (.func 79) #[] #[.pointer (some ⟨B3, 0, none⟩), .pointer (some ⟨B4, 0, none⟩), .pointer (some ⟨B5, 0, none⟩)]] T)) = u0
  have hbu : Below z.heap.size z u0 := by rw [← hu0]; exact one_below z _
  have hbw := bnext hz.below hbu
  have hzs := hz.a.lt
  have hrow : ∀ k (hk : k < 4), u0.cell? ⟨z.heap.size, 0 + k, none⟩ = some (mSteps (some ⟨q, 0, none⟩) ck lg B1 B2 B3 B4 B5)[k] := fun k hk => by
    rw [← hu0]
    match k, hk with
    | 0, _ => exact (cell_of_row _ _ 0 _ _ _ (heap_alloc_last z _)).trans rfl
    | 1, _ => exact (cell_of_row _ _ 1 _ _ _ (heap_alloc_last z _)).trans rfl
    | 2, _ => exact (cell_of_row _ _ 2 _ _ _ (heap_alloc_last z _)).trans rfl
    | 3, _ => exact (cell_of_row _ _ 3 _ _ _ (heap_alloc_last z _)).trans rfl
  have k1 := h1.keep hbu
  have k2 := h2.keep hbu
  have k3 := h3.keep hbu
  have ka := hz.a.below hbu
  have hD0 : DAt u0 q st F := con.below hD hbw
  have hsame : ∀ {s : St} {v : World} (B : Nat), Bq q F u0 s v → w.heap.size ≤ B → B < u0.heap.size → v.heap[B]? = u0.heap[B]? := fun B hb hB hlt => by
    obtain ⟨F', _, hl⟩ := hb
    exact hl.block B hlt (fun hf => by have := hF _ hf; omega)
  have hz0 : z.heap.size < u0.heap.size := World.block_lt_of_cell? u0 _ (hrow 0 (by decide))
  have hfin : ∀ {s : St} {v : World}, Bq q F u0 s v → (∃ F', DAt v q s F' ∧ Loc F F' w v) ∧ ACell (w.heap.size + 1) (some ⟨q, 0, none⟩) ck lg v := fun hb => by
    have hs := hsame (w.heap.size + 1) hb (by omega) (by omega)
    obtain ⟨F', d1, d2⟩ := hb
    exact ⟨⟨F', d1, (Loc.of_below F hbw).trans d2⟩, ka.same hs⟩
  clear hu0
  have hl1 := hok.some
  have hl2 := hok.few
  have key := inOrder8 z.heap.size 0 c (mSteps (some ⟨q, 0, none⟩) ck lg B1 B2 B3 B4 B5)
    (fun k v => (k = 0 ∧ Bq q F u0 st v) ∨ (k = 1 ∧ st.mayS ck lg ∧ Bq q F u0 st v) ∨ (k = 2 ∧ st.mayS ck lg ∧ (st.load 0 (2 * ck)).2 = 5 ∧ Bq q F u0 st v) ∨
      (k = 3 ∧ st.mayS ck lg ∧ (st.load 0 (2 * ck)).2 = 5 ∧ (walClear st (lo ck.toNat lg.toNat 1) lg.toNat).1 = 0 ∧ Bq q F u0 (walClear st (lo ck.toNat lg.toNat 1) lg.toNat).2 v) ∨ (k = 4 ∧ (stoMake st ck lg).1 = 0 ∧ Bq q F u0 (stoMake st ck lg).2 v))
    (fun x v => x = (((stoMake st ck lg).1 : Nat) : Int) ∧ (stoMake st ck lg).1 ≠ 0 ∧ Bq q F u0 (stoMake st ck lg).2 v) u0 (show (4 : Nat) ≤ 5000 by decide) ?_ ?_ ?_ ?_
  · refine key.mono ?_
    rintro e v ⟨x, rfl, ⟨rfl, hr⟩ | ⟨hx, rfl, h0, hb⟩⟩
    · rcases hr with ⟨hk, _⟩ | ⟨hk, _⟩ | ⟨hk, _⟩ | ⟨hk, _⟩ | ⟨_, h0, hb⟩
      · exact absurd (show (4 : Nat) = 0 from hk) (by decide)
      · exact absurd (show (4 : Nat) = 1 from hk) (by decide)
      · exact absurd (show (4 : Nat) = 2 from hk) (by decide)
      · exact absurd (show (4 : Nat) = 3 from hk) (by decide)
      · exact ⟨⟨by rw [h0]; rfl, (hfin hb).1⟩, (hfin hb).2⟩
    · exact ⟨⟨rfl, (hfin hb).1⟩, (hfin hb).2⟩
  · intro k hk v hr
    have hb : ∃ s, Bq q F u0 s v := by
      rcases hr with ⟨_, hb⟩ | ⟨_, _, hb⟩ | ⟨_, _, _, hb⟩ | ⟨_, _, _, _, hb⟩ | ⟨_, _, hb⟩ <;> exact ⟨_, hb⟩
    obtain ⟨s, hb⟩ := hb
    exact (cell_same8 (hsame z.heap.size hb (by have := hz.below.size; omega) hz0) _).trans (hrow k hk)
  · intro k hk
    match k, hk with
    | 0, _ => exact Or.inl ⟨_, rfl⟩
    | 1, _ => exact Or.inr (Or.inl ⟨_, rfl⟩)
    | 2, _ => exact Or.inr (Or.inr (Or.inl ⟨_, _, rfl⟩))
    | 3, _ => exact Or.inr (Or.inr (Or.inr (Or.inl ⟨_, _, _, rfl⟩)))
  · intro k hk v hr
    rcases hr with ⟨rfl, hb⟩ | ⟨rfl, hm, hb⟩ | ⟨rfl, hm, hld, hb⟩ | ⟨rfl, hm, hld, hcl0, hb⟩ | ⟨rfl, _⟩
    · obtain ⟨F1, hd, hlc⟩ := hb
      intro n a he
      cases he
      by_cases hm : st.mayS ck lg
      · refine calls_eq (a := #[areaV (some ⟨q, 0, none⟩) ck lg]) rfl ((fault8_any (some ⟨q, 0, none⟩) ck lg (st.sure.length : Int) (blocksC ck lg) v 0 (fun y hy => con.size q st F1 y (con.below hd hy) hok) (fun y => blocks8_any ck lg y) ?_).mono ?_)
        · rw [if_neg (by omega), if_neg (by have := hm.1; have := hm.2; omega)]
        · rintro e y ⟨rfl, hy⟩
          exact ⟨0, rfl, Or.inl ⟨rfl, Or.inr (Or.inl ⟨rfl, hm, F1, con.below hd hy, hlc.trans (Loc.of_below F1 hy)⟩)⟩⟩
      · have e2 : stoMake st ck lg = (2, st) := by unfold stoMake; rw [if_pos hm]
        refine calls_eq (a := #[areaV (some ⟨q, 0, none⟩) ck lg]) rfl ((fault8_any (some ⟨q, 0, none⟩) ck lg (st.sure.length : Int) (blocksC ck lg) v 2 (fun y hy => con.size q st F1 y (con.below hd hy) hok) (fun y => blocks8_any ck lg y) ?_).mono ?_)
        · rw [if_neg (by omega), if_pos (by
            by_cases h0 : blocksC ck lg = 0
            · exact Or.inl h0
            · refine Or.inr ?_
              have : ¬ blocksC ck lg ≤ (st.sure.length : Int) := fun hh => hm ⟨h0, hh⟩
              omega)]
        · rintro e y ⟨rfl, hy⟩
          refine ⟨2, rfl, Or.inr ⟨by decide, ?_⟩⟩
          rw [e2]
          exact ⟨rfl, (show ¬ (2 : Nat) = 0 by decide), F1, con.below hd hy, hlc.trans (Loc.of_below F1 hy)⟩
    · obtain ⟨F1, hd, hlc⟩ := hb
      obtain ⟨kk, ll, rfl, rfl, q1, q2, q3, q4, q5, q6⟩ := mayS_nat hm
      intro n a he
      cases he
      have hld := fun y (hy : Below v.heap.size v y) => pLoad q 0 (2 * (kk : Int)) st F1 y (con.below hd hy) hok (by omega) (by omega)
      refine calls_eq (a := #[areaV (some ⟨q, 0, none⟩) (kk : Int) (ll : Int)]) rfl ((unused_any (some ⟨q, 0, none⟩) (kk : Int) (ll : Int) (2 * (kk : Int)) (st.load 0 (2 * (kk : Int))).1.1 (st.load 0 (2 * (kk : Int))).1.2 (st.load 0 (2 * (kk : Int))).2 v (fun y => ckb_any _ _ _ y (by omega)) hld _ rfl).mono ?_)
      rintro e y ⟨rfl, hy⟩
      have hb2 : Bq q F u0 st y := ⟨F1, con.below hd hy, hlc.trans (Loc.of_below F1 hy)⟩
      refine ⟨_, rfl, ?_⟩
      by_cases c0 : (st.load 0 (2 * (kk : Int))).2 = 0
      · have e2 : stoMake st (kk : Int) (ll : Int) = (7, st) := by unfold stoMake; rw [if_neg (fun x => x hm), if_pos c0]
        rw [if_pos c0, e2]
        exact Or.inr ⟨by decide, rfl, (show ¬ (7 : Nat) = 0 by decide), hb2⟩
      · by_cases c5 : (st.load 0 (2 * (kk : Int))).2 = 5
        · rw [if_neg c0, if_pos c5]
          exact Or.inl ⟨rfl, Or.inr (Or.inr (Or.inl ⟨rfl, hm, c5, hb2⟩))⟩
        · have e2 : stoMake st (kk : Int) (ll : Int) = ((st.load 0 (2 * (kk : Int))).2, st) := by unfold stoMake; rw [if_neg (fun x => x hm), if_neg c0, if_pos c5]
          rw [if_neg c0, if_neg c5, e2]
          exact Or.inr ⟨by omega, rfl, c0, hb2⟩
    · have ha := m_boxes k1 hF hb
      have hbx : ∀ {s : St} {y : World}, Bq q F u0 s y → ABox B1 B2 q ck lg 1 y := fun hy => m_boxes k1 hF hy
      obtain ⟨F1, hd, hlc⟩ := hb
      obtain ⟨kk, ll, rfl, rfl, q1, q2, q3, q4, q5, q6⟩ := mayS_nat hm
      have em : stoMake st (kk : Int) (ll : Int) = andT (walClear st (lo kk ll 1) ll) (fun s => s.save 0 (2 * (kk : Int)) 1 noText) := by
        unfold stoMake
        rw [if_neg (fun x => x hm), if_neg (by rw [hld]; decide), if_neg (fun x => x hld), Int.toNat_natCast, Int.toNat_natCast]
      intro n a he
      cases he
      rw [Int.toNat_natCast, Int.toNat_natCast]
      refine calls_eq (a := #[.pointer (some ⟨B1, 0, none⟩), .pointer (some ⟨B2, 0, none⟩)]) rfl (((clear1_any B1 B2 q (kk : Int) (ll : Int) 1 ((lo kk ll 1 : Nat) : Int) v (fun e z => e = .returned (.int .i64 (((walClear st (lo kk ll 1) ll).1 : Nat) : Int)) ∧ Bq q F u0 (walClear st (lo kk ll 1) ll).2 z) ha ?_ ?_ ?_)).mono ?_)
      · rintro e y ⟨rfl, hy⟩
        exact ⟨_, rfl, hbx hy⟩
      · exact fun y => logOf_any (some ⟨q, 0, none⟩) kk ll 1 y q2 q4
      · intro y hy
        refine (clear_any q (lo kk ll 1) ll st F1 y (con.below hd hy) hok (by omega) (by unfold lo; omega) q3).mono ?_
        rintro e z2 ⟨rfl, F2, hd2, hl2⟩
        exact ⟨rfl, Bq.step hlc hd2 ((Loc.of_below F1 hy).trans hl2)⟩
      · rintro e y ⟨rfl, hy⟩
        refine ⟨_, rfl, ?_⟩
        by_cases h0 : (walClear st (lo kk ll 1) ll).1 = 0
        · exact Or.inl ⟨by rw [h0]; rfl, Or.inr (Or.inr (Or.inr (Or.inl ⟨rfl, hm, hld, h0, hy⟩)))⟩
        · rw [em, andT_stop _ h0]
          exact Or.inr ⟨by omega, rfl, h0, hy⟩
    · have ha := m_boxes k2 hF hb
      have hbx : ∀ {s : St} {y : World}, Bq q F u0 s y → ABox B3 B4 q ck lg 1 y ∧ y.cell? ⟨B5, 0, none⟩ = some (.string ⟨#[]⟩) := fun hy =>
        ⟨m_boxes k2 hF hy, (cell_same8 (hsame B5 hy (by have := k3.2; omega) (World.block_lt_of_cell? u0 _ k3.1)) 0).trans k3.1⟩
      have h5 := (hbx hb).2
      obtain ⟨F1, hd, hlc⟩ := hb
      obtain ⟨kk, ll, rfl, rfl, q1, q2, q3, q4, q5, q6⟩ := mayS_nat hm
      have em : stoMake st (kk : Int) (ll : Int) = andT (walClear st (lo kk ll 1) ll) (fun s => s.save 0 (2 * (kk : Int)) 1 noText) := by
        unfold stoMake
        rw [if_neg (fun x => x hm), if_neg (by rw [hld]; decide), if_neg (fun x => x hld), Int.toNat_natCast, Int.toNat_natCast]
      rw [Int.toNat_natCast, Int.toNat_natCast] at hcl0 hd
      rw [andT_go _ hcl0] at em
      have hokC := clear_ok hok (lo kk ll 1) ll
      have hclf := clear_few st (lo kk ll 1) ll
      have hlng := clear_long (lo kk ll 1) ll st (by unfold lo; omega)
      intro n a he
      cases he
      rw [em]
      refine calls_eq (a := #[.pointer (some ⟨B3, 0, none⟩), .pointer (some ⟨B4, 0, none⟩), .pointer (some ⟨B5, 0, none⟩)]) rfl (((save1_any B3 B4 B5 q (kk : Int) (ll : Int) 1 (2 * (kk : Int)) ⟨#[]⟩ v (fun e z => e = .returned (.int .i64 ((((walClear st (lo kk ll 1) ll).2.save 0 (2 * (kk : Int)) 1 noText).1 : Nat) : Int)) ∧ Bq q F u0 ((walClear st (lo kk ll 1) ll).2.save 0 (2 * (kk : Int)) 1 noText).2 z) ha h5 ?_ ?_ ?_)).mono ?_)
      · rintro e y ⟨rfl, hy⟩
        exact ⟨_, rfl, hbx hy⟩
      · exact fun y => ckb_any (some ⟨q, 0, none⟩) (kk : Int) (ll : Int) y (by omega)
      · intro y hy
        refine (pSave q 0 (2 * (kk : Int)) 1 noText (walClear st (lo kk ll 1) ll).2 F1 y (con.below hd hy) hokC (by have := hlng.2 hcl0; rw [this]; decide) (by omega) (by decide)).mono ?_
        rintro e z2 ⟨rfl, F2, hd2, hl2⟩
        exact ⟨rfl, Bq.step hlc hd2 ((Loc.of_below F1 hy).trans hl2)⟩
      · rintro e y ⟨rfl, hy⟩
        refine ⟨_, rfl, ?_⟩
        by_cases h0 : ((walClear st (lo kk ll 1) ll).2.save 0 (2 * (kk : Int)) 1 noText).1 = 0
        · exact Or.inl ⟨by rw [h0]; rfl, Or.inr (Or.inr (Or.inr (Or.inr ⟨rfl, h0, hy⟩)))⟩
        · exact Or.inr ⟨by omega, rfl, h0, hy⟩
    · exact absurd (show (4 : Nat) < 4 from hk) (by decide)
  · exact Or.inl ⟨rfl, F, hD0, Loc.refl _ _⟩
end Go.Proofs.YtchhojkhfdkhfaaGreatDoor
