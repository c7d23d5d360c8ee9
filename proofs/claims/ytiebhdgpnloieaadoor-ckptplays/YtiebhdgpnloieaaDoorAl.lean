/- The law's own 'alive': some answers that the document fixes. -/
import Derived.Test.YtiebhdgpnloieaaDoorCm
import Derived.Test.YtiebhdgpnloieaaDoorKp
namespace Go.Proofs.YtiebhdgpnloieaaDoor
open Go Go.RowKit Frm Go.Shelf
theorem save_at {N : Nat} {st : St} {g : Nat} {t : ByteArray} (hl : st.sure.length = N) (h4 : 4 ≤ N) (hN : N ≤ 4096) (he : N % 2 = 0) (hg : 1 ≤ g ∧ g ≤ 4611686018427387904) (ht : t.size ≤ (N / 2 - 1) * 256) : st.save 0 (N : Int) g t = saveAt (slN N g) g t st := by
  have hr : room (N : Int) = ((N : Int) / 2 - 1) * 256 := by unfold room; rw [if_neg (by omega)]
  have hm : st.mayC 0 (N : Int) := ⟨by omega, by omega, by rw [hl]; omega⟩
  have hs : slotAt 0 (N : Int) g = slN N g := by unfold slotAt slN; simp
  unfold St.save
  rw [if_neg (fun h => h hm), if_neg (by omega), if_neg (by rw [hr]; omega), hs]
theorem load_new (N : Nat) (h4 : 4 ≤ N) (hN : N ≤ 4096) (he : N % 2 = 0) : (St.new N).load 0 (N : Int) = ((0, noText), 5) := by
  have hr : room (N : Int) ≠ 0 := by unfold room; rw [if_neg (by omega)]; omega
  have hlen : (St.new N).sure.length = N := List.length_replicate ..
  have hm : (St.new N).mayC 0 (N : Int) := ⟨hr, by omega, by rw [hlen]; omega⟩
  have hw : ∀ a k odd, 0 < k → a + k ≤ N → (wholeT (blocksAt (St.new N) a k) odd).1 = 0 := fun a k odd hk ha => by
    have := whole_less (blocksAt (St.new N) a k) odd 1 (by decide) (by
      rw [blocks_getD _ _ _ 0 hk rfl]
      have e : (St.new N).sure.getD (a + 0) noText = zblock := by
        show (List.replicate N zblock).getD (a + 0) noText = _
        rw [List.getD_eq_getElem?_getD, List.getElem?_replicate, if_pos (by omega)]
        rfl
      rw [e]
      exact Oth.zero)
    omega
  have hs : ∀ k, slotAt 0 (N : Int) k = slN N k := fun k => by unfold slotAt slN; simp
  have h0 := slN_le N 0
  have h1 := slN_le N 1
  unfold St.load
  rw [if_neg (fun hh => hh hm), if_neg (show ¬ (St.new N).left = 0 by show ¬ (-1 : Int) = 0; decide)]
  simp only [hs, Int.toNat_natCast]
  rw [if_pos ⟨hw _ _ _ (by omega) (by omega), hw _ _ _ (by omega) (by omega)⟩]
/-- A disk of the caller's own, as it stands. -/
structure Al (w : World) (q : Nat) (st : St) (F : Nat → Prop) (u : World) : Prop where
  disk : DAt u q st F
  below : Below w.heap.size w u
  new : ∀ k, F k → w.heap.size ≤ k
theorem Al.step {w : World} {q : Nat} {st st' : St} {F F' : Nat → Prop} {u v : World} (h : Al w q st F u) (hd : DAt v q st' F') (hl : Loc F F' u v) : Al w q st' F' v :=
  ⟨hd, h.below.trans (hl.below h.new h.below.size), hl.beyond h.new h.below.size⟩
theorem Al.keep {w : World} {q : Nat} {st : St} {F : Nat → Prop} {u v : World} (h : Al w q st F u) (hb : Below u.heap.size u v) : Al w q st F v := ⟨con.below h.disk hb, bnext h.below hb, h.new⟩
def abcT : ByteArray := ⟨#[97, 98, 99]⟩
def deT : ByteArray := ⟨#[100, 101]⟩
def st1 : St := (saveAt (slN 4 1) 1 abcT (St.new 4)).2
def st2 : St := (saveAt (slN 4 2) 2 deT (st1.fuse 3)).2
theorem st1_keep : (saveAt (slN 4 1) 1 abcT (St.new 4)).1 = 0 ∧ Keep 4 st1 1 abcT := keep_first 4 (by decide) (by decide) abcT (by decide)
theorem st2_keep : (saveAt (slN 4 2) 2 deT (st1.fuse 3)).1 = 50 ∧ Keep 4 (st2.crash []) 1 abcT := by
  rcases st1_keep.2.step (by decide) (by decide) 3 (by decide) deT (by decide) [] with h | ⟨_, h, _⟩
  · exact h
  · exact absurd h (by decide)
theorem writes_few (a g : Nat) (t : ByteArray) (S : List ByteArray) (l0 : Int) (ha : a + 1 + nb t.size ≤ S.length) (h1 : -1 ≤ l0) : (saveAt a g t ⟨S, [], l0⟩).2.loose.length ≤ nb t.size + 1 := by
  rcases save_cases a g t S l0 ha h1 with ⟨l2, e, _⟩ | ⟨l2, e, _⟩ | ⟨j, l2, hj, e, _⟩ | ⟨l2, e, _⟩ | ⟨l2, e, _⟩ | ⟨l2, e, _⟩
  · rw [e]; exact Nat.zero_le _
  · rw [e]; show 1 ≤ _; omega
  · rw [e]; show (tws _ _ _ _).length ≤ _; unfold tws; simp; omega
  · rw [e]; exact Nat.zero_le _
  · rw [e]; show 1 ≤ _; omega
  · rw [e]; exact Nat.zero_le _
theorem save_ok {st : St} (h : st.Ok) (a g : Nat) (t : ByteArray) : (saveAt a g t st).2.Ok := by
  have at_ok : ∀ (x : Nat × St) (f : St → Nat × St), x.2.Ok → (∀ s, s.Ok → (f s).2.Ok) → (andT x f).2.Ok := fun x f hx hf => by
    unfold andT
    split
    · exact hf _ hx
    · exact hx
  unfold saveAt
  exact at_ok _ _ (at_ok _ _ (at_ok _ _ (at_ok _ _ (at_ok _ _ (h.write _ _) (fun s hs => hs.sync)) (fun s hs => (putsT_ok _ _ _ _ s hs).1)) (fun s hs => hs.sync)) (fun s hs => hs.write _ _)) (fun s hs => hs.sync)
theorem st2_ok : st2.Ok := save_ok (st1_keep.2.ok.fuse 3 (by decide)) _ _ _
set_option maxRecDepth 20000 in
theorem st2_few : st2.loose.length ≤ 10000 := by
  have h := st1_keep.2
  have e : st1.fuse 3 = ⟨st1.sure, [], 3⟩ := by unfold St.fuse; rw [h.loose]; rfl
  have := writes_few (slN 4 2) 2 deT st1.sure 3 (by rw [h.len]; decide) (by decide)
  rw [← e] at this
  have h2 : nb deT.size + 1 ≤ 10000 := by show nb 2 + 1 ≤ _; unfold nb; omega
  exact Nat.le_trans this h2
set_option maxRecDepth 10000 in
set_option maxHeartbeats 4000000 in
theorem alive_any (w : World) : Calls Tryd.prog 9 #[] w fun e w' => e = .returned (.bool true) ∧ Below w.heap.size w w' := by
  have K1 := hide (con.new 4 w (by decide) (by decide))
  have K2 : Hid (∀ q F u, Al w q (St.new 4) F u → Calls Tryd.prog 20 #[.pointer (some ⟨q, 0, none⟩), .int .i64 0, .int .i64 4] u fun e v => e = .returned (.tuple #[.int .u64 0, .string noText, .int .i64 5]) ∧ Al w q (St.new 4) F v) := fun q F u h => by
    have := pLoad q 0 4 (St.new 4) F u h.disk (St.Ok.new (by decide) (by decide)) (by decide) (by decide)
    rw [show (4 : Int) = ((4 : Nat) : Int) from rfl, load_new 4 (by decide) (by decide) rfl] at this
    refine this.mono ?_
    rintro e v ⟨rfl, hb⟩
    exact ⟨rfl, h.keep hb⟩
  have K3 : Hid (∀ q F u, Al w q (St.new 4) F u → Calls Tryd.prog 16 #[.pointer (some ⟨q, 0, none⟩), .int .i64 0, .int .i64 4, .int .u64 1, .string ⟨#[97, 98, 99]⟩] u fun e v => e = .returned (.int .i64 0) ∧ ∃ F', Al w q st1 F' v) := fun q F u h => by
    have := pSave q 0 4 1 abcT (St.new 4) F u h.disk (St.Ok.new (by decide) (by decide)) (by decide) (by decide) (by decide)
    rw [show (4 : Int) = ((4 : Nat) : Int) from rfl, save_at (N := 4) (List.length_replicate ..) (by decide) (by decide) rfl (by decide) (by decide), st1_keep.1] at this
    refine this.mono ?_
    rintro e v ⟨rfl, F', hd, hl⟩
    exact ⟨rfl, F', h.step hd hl⟩
  have K4 : Hid (∀ q F u, Al w q st1 F u → Calls Tryd.prog 18 #[.pointer (some ⟨q, 0, none⟩), .int .i64 3] u fun e v => e = .returned (.int .i64 0) ∧ ∃ F', Al w q (st1.fuse 3) F' v) := fun q F u h => by
    refine (con.fuse q st1 F 3 u h.disk st1_keep.2.ok (by decide)).mono ?_
    rintro e v ⟨rfl, F', hd, hl⟩
    exact ⟨rfl, F', h.step hd hl⟩
  have K5 : Hid (∀ q F u, Al w q (st1.fuse 3) F u → Calls Tryd.prog 16 #[.pointer (some ⟨q, 0, none⟩), .int .i64 0, .int .i64 4, .int .u64 2, .string ⟨#[100, 101]⟩] u fun e v => e = .returned (.int .i64 50) ∧ ∃ F', Al w q st2 F' v) := fun q F u h => by
    have := pSave q 0 4 2 deT (st1.fuse 3) F u h.disk (st1_keep.2.ok.fuse 3 (by decide)) (by show st1.loose.length + 3000 ≤ 10000; rw [st1_keep.2.loose]; decide) (by decide) (by decide)
    rw [show (4 : Int) = ((4 : Nat) : Int) from rfl, save_at (N := 4) (st := st1.fuse 3) (show (st1.fuse 3).sure.length = 4 from st1_keep.2.len) (by decide) (by decide) rfl (by decide) (by decide), st2_keep.1] at this
    refine this.mono ?_
    rintro e v ⟨rfl, F', hd, hl⟩
    exact ⟨rfl, F', h.step hd hl⟩
  have K6 : Hid (∀ q F u, Al w q st2 F u → Calls Tryd.prog 19 #[.pointer (some ⟨q, 0, none⟩), .slice none 0 0] u fun e v => e = .returned (.int .i64 0) ∧ ∃ F', Al w q (st2.crash []) F' v) := fun q F u h => by
    refine (con.crash q st2 F none 0 [] u h.disk st2_ok st2_few (Or.inl rfl) (fun h => absurd rfl h) (by decide) (by simp)).mono ?_
    rintro e v ⟨rfl, F', hd, hl⟩
    exact ⟨rfl, F', h.step hd hl⟩
  have K7 : Hid (∀ q F u, Al w q (st2.crash []) F u → Calls Tryd.prog 20 #[.pointer (some ⟨q, 0, none⟩), .int .i64 0, .int .i64 4] u fun e v => e = .returned (.tuple #[.int .u64 1, .string ⟨#[97, 98, 99]⟩, .int .i64 0]) ∧ Al w q (st2.crash []) F v) := fun q F u h => by
    have := pLoad q 0 4 (st2.crash []) F u h.disk st2_keep.2.ok (by rw [st2_keep.2.loose]; decide) (by decide)
    rw [show (4 : Int) = ((4 : Nat) : Int) from rfl, st2_keep.2.load (by decide) (by decide) rfl (by decide)] at this
    refine this.mono ?_
    rintro e v ⟨rfl, hb⟩
    exact ⟨rfl, h.keep hb⟩
  have K8 : Hid (∀ u, Calls Tryd.prog 7 #[.int .i64 4] u fun e v => e = .returned (.int .i64 256) ∧ v = u) := fun u => room_any 4 u (by decide)
  have K9 : Hid (∀ u, Calls Tryd.prog 7 #[.int .i64 5] u fun e v => e = .returned (.int .i64 0) ∧ v = u) := fun u => room_any 5 u (by decide)
  go_enter Tryd.func9, Tryd.ntmps9
  go_wp2_with fail
  refine K1.out.mono ?_
  rintro e w1 ⟨q, F1, rfl, hd1, hF1, hb1⟩
  have A1 := hide (Al.mk (st := St.new 4) hd1 hb1 hF1)
  clear hd1 hF1 hb1
  go_wp2_with fail
  refine (K2.out _ _ _ A1.out).mono ?_
  rintro e w2 ⟨rfl, hA2⟩
  have A2 := hide hA2
  clear hA2
  go_wp2_with fail
  refine (K3.out _ _ _ A2.out).mono ?_
  rintro e w3 ⟨rfl, F3, hA3⟩
  have A3 := hide hA3
  clear hA3
  go_wp2_with fail
  refine (K4.out _ _ _ A3.out).mono ?_
  rintro e w4 ⟨rfl, F4, hA4⟩
  have A4 := hide hA4
  clear hA4
  go_wp2_with fail
  refine (K5.out _ _ _ A4.out).mono ?_
  rintro e w5 ⟨rfl, F5, hA5⟩
  have A5 := hide hA5
  clear hA5
  go_wp2_with fail
  refine (K6.out _ _ _ A5.out).mono ?_
  rintro e w6 ⟨rfl, F6, hA6⟩
  have A6 := hide hA6
  clear hA6
  go_wp2_with fail
  refine (K7.out _ _ _ A6.out).mono ?_
  rintro e w7 ⟨rfl, hA7⟩
  have HB := hide hA7.below
  clear hA7
  go_wp2_with fail
  refine (K8.out _).mono ?_
  rintro e w8 ⟨rfl, hw8⟩
  obtain rfl := hw8.symm
  go_wp2_with fail
  refine (K9.out _).mono ?_
  rintro e w9 ⟨rfl, hw9⟩
  obtain rfl := hw9.symm
  go_wp2
  go_ret
  exact ⟨rfl, HB.out⟩
set_option maxRecDepth 10000 in
set_option maxHeartbeats 4000000 in
theorem CkptNil_any (n : Int) (g : Nat) (t : ByteArray) (w : World) (hn : -9223372036854775808 ≤ n ∧ n ≤ 9223372036854775807) :
    Calls Tryd.prog 5 #[.int .i64 n, .int .u64 (g : Int), .string t] w fun e w' => e = .returned (.bool true) ∧ Below w.heap.size w w' := by
  have KA := hide (fun u => alive_any u)
  have K1 : Hid (∀ u, Calls Tryd.prog 20 #[.pointer none, .int .i64 0, .int .i64 n] u fun e v => e = .returned (.tuple #[.int .u64 0, .string ⟨#[]⟩, .int .i64 1]) ∧ Below u.heap.size u v) := fun u => nLoad 0 n u hn
  have K2 := hide (fun u => nSave 0 n g t u hn)
  clear hn
  by_cases h : 4096 < (t.size : Int)
  · go_enter Tryd.func5, Tryd.ntmps5
    go_wp2_with fail
    refine (KA.out _).mono ?_
    rintro e w1 ⟨rfl, hb1⟩
    have HB1 := hide hb1
    clear hb1
    go_wp2
    go_ret
    exact ⟨rfl, HB1.out⟩
  · go_enter Tryd.func5, Tryd.ntmps5
    go_wp2_with fail
    refine (K1.out _).mono ?_
    rintro e w1 ⟨rfl, hb1⟩
    have HB1 := hide hb1
    clear hb1
    go_wp2_with fail
    refine (K2.out _).mono ?_
    rintro e w2 ⟨rfl, hb2⟩
    have HB2 := hide (bnext HB1.out hb2)
    clear hb2
    go_wp2_with fail
    refine (KA.out _).mono ?_
    rintro e w3 ⟨rfl, hb3⟩
    have HB3 := hide (bnext HB2.out hb3)
    clear hb3
    go_wp2
    go_ret
    exact ⟨rfl, HB3.out⟩
end Go.Proofs.YtiebhdgpnloieaaDoor
