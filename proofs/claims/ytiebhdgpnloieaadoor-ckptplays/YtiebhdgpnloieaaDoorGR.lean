/- The document's own checkpoints: Save. The document's own checkpoints: the Save that goes on. The document's own checkpoints: the Save that goes on, walked. The document's own checkpoints: Load. The law CkptPlays: a block of a text's bytes, and one with a bit that is turned. -/
import Derived.Test.YtiebhdgpnloieaaDoorRe
import Derived.Test.YtiebhdgpnloieaaDoorCj
import Derived.Test.YtiebhdgpnloieaaDoorCk
import Derived.Laws.BitsAllLaws
namespace Go.Proofs.YtiebhdgpnloieaaDoor
open Go Go.RowKit Frm
/-- What a call of the document's Save says. -/
def RSays (p : Nat) (F : Nat → Prop) (u : World) (r : Nat × St) (e : Ending) (v : World) : Prop := e = .returned (.int .i64 ((r.1 : Nat) : Int)) ∧ ∃ F', RD v p r.2 F' ∧ Loc F F' u v
set_option maxRecDepth 10000 in
set_option maxHeartbeats 4000000 in
/-- The Saves that are refused. -/
theorem rSave_no (p : Nat) (o n : Int) (g : Nat) (t : ByteArray) (st : St) (F : Nat → Prop) (u : World) (h : RD u p st F) (hS : st.sure.length ≤ 4096) (hn : -9223372036854775808 ≤ n ∧ n ≤ 9223372036854775807) (hg : g < 18446744073709551616) (hno : ¬ (st.mayC o n ∧ ¬ (g < 1 ∨ 4611686018427387904 < g) ∧ ¬ room n < (t.size : Int))) :
    Calls Tryd.prog 21 #[.pointer (some ⟨p, 0, none⟩), .int .i64 o, .int .i64 n, .int .u64 (g : Int), .string t] u (RSays p F u (st.save o n g t)) := by
  have KM := hide (rd_mayC p st F o n u h hS hn)
  have KR := hide (rRoom_any n u hn)
  by_cases hm : st.mayC o n
  · rw [decide_eq_true hm] at KM
    by_cases hgm : g < 1 ∨ 4611686018427387904 < g
    · have hs : st.save o n g t = (2, st) := by unfold St.save; rw [if_neg (fun x => x hm), if_pos hgm]
      have HP : Hid (RSays p F u (st.save o n g t) (.returned (.int .i64 2)) u) := by rw [hs]; exact ⟨rfl, F, h, Loc.refl _ _⟩
      generalize st.save o n g t = X at *
      have HG := hide hgm
      clear h hS hn hg hm hs hgm KR hno
      go_enter Tryd.func21, Tryd.ntmps21
      go_wp2_with fail
      refine KM.out.mono ?_
      rintro e w1 ⟨rfl, rfl⟩
      go_wp2_with fail
      all_goals first
        | (go_ret; exact HP.out)
        | (exfalso; have := HG.out; omega)
    · have hlong : room n < (t.size : Int) := Decidable.byContradiction fun x => hno ⟨hm, hgm, x⟩
      have hs : st.save o n g t = (4, st) := by unfold St.save; rw [if_neg (fun x => x hm), if_neg hgm, if_pos hlong]
      have HP : Hid (RSays p F u (st.save o n g t) (.returned (.int .i64 4)) u) := by rw [hs]; exact ⟨rfl, F, h, Loc.refl _ _⟩
      generalize st.save o n g t = X at *
      have g1 : ¬ ((g : Int) < 1) := by omega
      have g2 : ¬ ((4611686018427387904 : Int) < (g : Int)) := by omega
      generalize room n = rm at *
      clear h hS hn hg hm hs hgm hno
      go_enter Tryd.func21, Tryd.ntmps21
      go_wp2_with fail
      refine KM.out.mono ?_
      rintro e w1 ⟨rfl, rfl⟩
      clear KM
      go_wp2_with fail
      refine KR.out.mono ?_
      rintro e w2 ⟨rfl, rfl⟩
      go_wp2
      go_ret
      exact HP.out
  · rw [decide_eq_false hm] at KM
    have hs : st.save o n g t = (2, st) := by unfold St.save; rw [if_pos hm]
    have HP : Hid (RSays p F u (st.save o n g t) (.returned (.int .i64 2)) u) := by rw [hs]; exact ⟨rfl, F, h, Loc.refl _ _⟩
    generalize st.save o n g t = X at *
    clear h hS hn hg hm hs KR hno
    go_enter Tryd.func21, Tryd.ntmps21
    go_wp2_with fail
    refine KM.out.mono ?_
    rintro e w1 ⟨rfl, rfl⟩
    go_wp2
    go_ret
    exact HP.out
end Go.Proofs.YtiebhdgpnloieaaDoor
namespace Go.Proofs.YtiebhdgpnloieaaDoor
open Go Go.RowKit Frm
/-- A disk's state and what is told, with bounds. -/
def Fine (B : Nat) (r : Nat × St) : Prop := r.2.Ok ∧ r.2.loose.length ≤ B ∧ r.1 ≤ 1000
theorem write_code (st : St) (b : Int) (d : ByteArray) : (st.write b d).1 ≤ 1000 := by
  unfold St.write
  split
  · show (_ : Nat) ≤ 1000; simp
  · split
    · show (_ : Nat) ≤ 1000; simp
    · split <;> simp
theorem sync_code (st : St) : st.sync.1 ≤ 1000 := by unfold St.sync; split <;> simp
theorem Fine.write {B : Nat} {st : St} (h : st.Ok) (hl : st.loose.length ≤ B) (b : Int) (d : ByteArray) : Fine (B + 1) (st.write b d) := ⟨h.write b d, by have := write_few st b d; omega, write_code st b d⟩
theorem Fine.sync {B : Nat} {st : St} (h : st.Ok) (hl : st.loose.length ≤ B) : Fine B st.sync := ⟨h.sync, by unfold St.sync; split; exact hl; exact Nat.zero_le _, sync_code st⟩
theorem Fine.andT {B C : Nat} {r : Nat × St} {f : St → Nat × St} (h : Fine B r) (hf : ∀ s, s.Ok → s.loose.length ≤ B → Fine C (f s)) (hBC : B ≤ C) : Fine C (andT r f) := by
  unfold Go.Proofs.YtiebhdgpnloieaaDoor.andT
  split
  · exact hf _ h.1 h.2.1
  · exact ⟨h.1, Nat.le_trans h.2.1 hBC, h.2.2⟩
/-- How the document's disk stands in the midst of a Save. -/
def Mid (p : Nat) (F : Nat → Prop) (u : World) (r : Nat × St) (v : World) : Prop := ∃ F', RD v p r.2 F' ∧ Loc F F' u v
theorem Mid.below {p : Nat} {F : Nat → Prop} {u v w : World} {r : Nat × St} (h : Mid p F u r v) (hb : Below v.heap.size v w) : Mid p F u r w := by
  obtain ⟨F', h1, h2⟩ := h
  exact ⟨F', h1.below hb, h2.trans (Loc.of_below _ hb)⟩
theorem Mid.write {p : Nat} {F : Nat → Prop} {u v : World} {r : Nat × St} (h : Mid p F u r v) (hr : Fine 10000 r) (b : Int) (d : ByteArray) :
    Calls Tryd.prog 27 #[.pointer (some ⟨p, 0, none⟩), .int .i64 b, .string d] v fun e w => e = .returned (.int .i64 (((r.2.write b d).1 : Nat) : Int)) ∧ Mid p F u (r.2.write b d) w := by
  obtain ⟨F', h1, h2⟩ := h
  refine (rd_write p r.2 F' b d v h1 hr.1 (by have := hr.2.1; omega)).mono ?_
  rintro e w ⟨rfl, F2, h3, h4⟩
  exact ⟨rfl, F2, h3, h2.trans h4⟩
theorem Mid.sync {p : Nat} {F : Nat → Prop} {u v : World} {r : Nat × St} (h : Mid p F u r v) (hr : Fine 10000 r) :
    Calls Tryd.prog 46 #[.pointer (some ⟨p, 0, none⟩)] v fun e w => e = .returned (.int .i64 ((r.2.sync.1 : Nat) : Int)) ∧ Mid p F u r.2.sync w := by
  obtain ⟨F', h1, h2⟩ := h
  refine (rd_sync p r.2 F' v h1 hr.1 (by have := hr.2.1; omega)).mono ?_
  rintro e w ⟨rfl, F2, h3, h4⟩
  exact ⟨rfl, F2, h3, h2.trans h4⟩
end Go.Proofs.YtiebhdgpnloieaaDoor
namespace Go.Proofs.YtiebhdgpnloieaaDoor
open Go Go.RowKit Frm
set_option maxRecDepth 10000 in
theorem zs_block : zs 256 = zblock := by rfl
theorem andT_go {r : Nat × St} (f : St → Nat × St) (h : r.1 = 0) : andT r f = f r.2 := by unfold andT; rw [if_pos h]
theorem andT_stop {r : Nat × St} (f : St → Nat × St) (h : r.1 ≠ 0) : andT r f = r := by unfold andT; rw [if_neg h]
set_option maxRecDepth 10000 in
set_option maxHeartbeats 4000000 in
theorem rSave_goes (p : Nat) (o n : Int) (g : Nat) (t : ByteArray) (st : St) (F : Nat → Prop) (u : World) (h : RD u p st F) (hok : st.Ok) (hl : st.loose.length + 3000 ≤ 10000) (hS : st.sure.length ≤ 4096) (hn : -9223372036854775808 ≤ n ∧ n ≤ 9223372036854775807) (ht : t.size ≤ 100000) (hg : g < 18446744073709551616)
    (hm : st.mayC o n) (hgm : ¬ (g < 1 ∨ 4611686018427387904 < g)) (hlong : ¬ room n < (t.size : Int)) :
    Calls Tryd.prog 21 #[.pointer (some ⟨p, 0, none⟩), .int .i64 o, .int .i64 n, .int .u64 (g : Int), .string t] u (RSays p F u (st.save o n g t)) := by
  have KM := hide (rd_mayC p st F o n u h hS hn)
  rw [decide_eq_true hm] at KM
  have KR := hide (rRoom_any n u hn)
  obtain ⟨hr4, hr5, hr6, -⟩ := room_pos hm.1
  have hm2 := hm.2.1
  have hm3 := hm.2.2
  obtain ⟨a, ha⟩ : ∃ a, a = slotAt o n g := ⟨_, rfl⟩
  have hs : st.save o n g t = saveAt a g t st := by unfold St.save; rw [if_neg (fun x => x hm), if_neg hgm, if_neg hlong, ha]
  rw [hs]
  have hae : o + ((g % 2 : Nat) : Int) * (n / 2) = (a : Int) := by
    rw [ha]; unfold slotAt
    have e1 : ((o.toNat : Nat) : Int) = o := by omega
    have e2 : ((n.toNat / 2 : Nat) : Int) = n / 2 := by omega
    rw [Int.natCast_add, Int.natCast_mul, e1, e2]
  have hal : a + n.toNat / 2 ≤ st.sure.length := by
    rw [ha]; unfold slotAt
    have hg2 : g % 2 = 0 ∨ g % 2 = 1 := by omega
    rcases hg2 with e | e <;> rw [e] <;> omega
  have g1 : ¬ ((g : Int) < 1) := by omega
  have g2 : ¬ ((4611686018427387904 : Int) < (g : Int)) := by omega
  have hq := tdiv2 (n := n) (by omega)
  have HA : Hid (wrap64 (n / 2) = n / 2 ∧ wrap64 (((g % 2 : Nat) : Int) * (n / 2)) = ((g % 2 : Nat) : Int) * (n / 2) ∧ o + ((g % 2 : Nat) : Int) * (n / 2) = (a : Int) ∧ wrap64 (a : Int) = (a : Int) ∧ (g : Int) % 2 = ((g % 2 : Nat) : Int)) := by
    refine ⟨by unfold wrap64; omega, ?_, hae, by unfold wrap64; omega, by omega⟩
    have hg2 : g % 2 = 0 ∨ g % 2 = 1 := by omega
    rcases hg2 with e | e <;> rw [e] <;> (unfold wrap64; omega)
  have HM0 := hide (show Mid p F u (0, st) u from ⟨F, h, Loc.refl _ _⟩)
  have HF0 := hide (show Fine 7000 (0, st) from ⟨hok, by show st.loose.length ≤ 7000; omega, Nat.zero_le _⟩)
  have HT := hide ht
  have HGm := hide hgm
  have HG64 := hide hg
  have HAl := hide hal
  have HA2 : Hid (a ≤ 10000) := (by omega : a ≤ 10000)
  have hgi : (g : Int) % 18446744073709551616 = (g : Int) := by omega
  generalize room n = rm at *
  clear h hok hl hS hn ht hg hm hs hgm hr4 hr5 hr6 hm2 hm3 ha hae hal
  go_enter Tryd.func21, Tryd.ntmps21
  go_wp2_with fail
  refine KM.out.mono ?_
  rintro e w1 ⟨rfl, rfl⟩
  clear KM
  go_wp2_with fail
  refine KR.out.mono ?_
  rintro e w2 ⟨rfl, rfl⟩
  clear KR
  go_upto_region 5 with fail
  clear hlong
  obtain ⟨a1, a2, a3, a4, a5⟩ := HA.out
  have hgm : (g : Int) % 2 = ((g % 2 : Nat) : Int) := a5
  generalize g % 2 = gb at *
  clear a5 HA
  go_upto_region 6 with fail
  simp only [a4]
  clear a1 a2 a3 a4 hgm hq
  have HZb : Hid (zs 256 = zblock) := zs_block
  have HZ := hide (fun U : World => zctext 256 U (U.alloc (.cells (zc 256) 5)) (heap_alloc_last U _))
  have hzm : (Instr.makeSlice 56 (.int .i64 256) (.int .i64 256)).run Tryd.prog w2 = .ok (.slice (some ⟨w2.heap.size, 0, none⟩) 256 256) (w2.alloc (.cells (zc 256) 5)) := zcmake 256 (by decide) w2
  have hzt := HZ.out w2
  have HW1 := hide ((HM0.out.below ((Below.refl w2.heap.size w2).alloc (Nat.le_refl _) (.cells (zc 256) 5))).write ⟨HF0.out.1, by have := HF0.out.2.1; omega, HF0.out.2.2⟩ (a : Int) (zs 256))
  generalize zs 256 = zb at *
  go_wp2_with fail
  refine HW1.out.mono ?_
  rintro e w3 ⟨rfl, hm3⟩
  have HM1 := hide hm3
  have HF1 := hide (Fine.write HF0.out.1 HF0.out.2.1 (a : Int) zb)
  clear hm3 HW1 hzm hzt HZ HM0
  obtain ⟨r1, hr1⟩ : ∃ r1, r1 = st.write (a : Int) zb := ⟨_, rfl⟩
  have HR1 := hide hr1
  rw [← hr1] at HM1 HF1
  simp only [show (st.write (a : Int) zb) = r1 from hr1.symm]
  clear hr1
  go_upto_if 46 with fail
  go_cut [12] from 44 (fun ev v => ev = .int .i64 (((andT r1 St.sync).1 : Nat) : Int) ∧ Mid p F w2 (andT r1 St.sync) v)
  case first =>
    by_cases h0 : r1.1 = 0
    · have HE := hide (andT_go St.sync h0)
      have hz0 : ((r1.1 : Nat) : Int) = 0 := by omega
      have KS := hide (HM1.out.sync ⟨HF1.out.1, by have := HF1.out.2.1; omega, HF1.out.2.2⟩)
      clear h0
      go_wp2_with fail
      refine KS.out.mono ?_
      rintro e w4 ⟨rfl, hm4⟩
      have HM4 := hide hm4
      clear hm4 KS
      go_wp2_with fail
      go_meet
      case rel => rw [HE.out]; exact ⟨rfl, HM4.out⟩
    · have HE := hide (andT_stop St.sync h0)
      have hz0 : ¬ (((r1.1 : Nat) : Int) = 0) := by omega
      clear h0
      go_wp2_with fail
      go_meet
      case rel => rw [HE.out]; exact ⟨rfl, HM1.out⟩
  obtain ⟨rfl, hm2⟩ := hcut
  have HM2 := hide hm2
  have HF2 : Hid (Fine 7001 (andT r1 St.sync)) := HF1.out.andT (fun s h1 h2 => Fine.sync h1 h2) (Nat.le_refl _)
  clear hm2
  obtain ⟨r2, hr2⟩ : ∃ r2, r2 = andT r1 St.sync := ⟨_, rfl⟩
  have HR2 := hide hr2
  rw [← hr2] at HM2 HF2
  simp only [show andT r1 St.sync = r2 from hr2.symm]
  clear hr2 HM1 HF1 HF0
  have HNb : Hid (∀ k, k < nb t.size ↔ k * 256 < t.size) := fun k => by unfold nb; omega
  have HNs : Hid (nb t.size ≤ 400) := by show nb t.size ≤ 400; have := HT.out; unfold nb; omega
  have HS : Hid (saveAt a g t st = andT (andT (andT (andT r2 (putsT (a + 1) t (nb t.size) 0)) St.sync) (fun s => s.write (a : Int) (headT g t))) St.sync) := by
    show saveAt a g t st = _
    unfold saveAt
    rw [HR2.out, HR1.out, HZb.out]
  have HTx : Hid (t.size ≤ 140737488351232 ∧ t.size ≤ 100000000) := by have := HT.out; exact ⟨by omega, by omega⟩
  have HAn := HA2
  generalize hSv : saveAt a g t st = SV at *
  generalize hN : nb t.size = N at *
  clear hN hSv HR1 HR2 HZb HGm HG64 HAl g1 g2 hgi
  have hg0 : True := trivial
  go_wp2_with fail
  go_loopw [12, 13] (fun ev i v => ∃ (k : Nat) (r : Nat × St), k ≤ N ∧ i = .int .i64 (k : Int) ∧ ev = .int .i64 ((r.1 : Nat) : Int) ∧ Mid p F w2 r v ∧ Fine (7001 + k) r ∧ andT r2 (putsT (a + 1) t N 0) = andT r (putsT (a + 1) t (N - k) k)) (fun _ i _ => N - (intOf i).toNat)
  case atStart => exact ⟨0, r2, Nat.zero_le _, rfl, rfl, HM2.out, HF2.out, rfl⟩
  case round =>
    obtain ⟨k, r, hk, rfl, rfl, hmid, hfine, heq⟩ := hrel
    have HMd := hide hmid
    have HFi := hide hfine
    have HEq := hide heq
    clear hmid hfine heq HM2 HF2
    have hk4 : k ≤ 400 := Nat.le_trans hk HNs.out
    have hwk : wrap64 ((k : Int) * 256) = (k : Int) * 256 := by unfold wrap64; omega
    by_cases h0 : r.1 = 0
    · by_cases hlt : k < N
      · have hz0 : ((r.1 : Nat) : Int) = 0 := by omega
        have hzk : (k : Int) * 256 < (t.size : Int) := by have := (HNb.out k).1 hlt; omega
        have KB := hide (rBlock_any t k wr (by omega) HTx.out.1)
        have HW := hide (fun v (hb : Below wr.heap.size wr v) => (HMd.out.below hb).write ⟨HFi.out.1, by have := HFi.out.2.1; omega, HFi.out.2.2⟩ ((a + 1 + k : Nat) : Int) (blkT t k))
        have HFn := hide (Fine.write HFi.out.1 HFi.out.2.1 ((a + 1 + k : Nat) : Int) (blkT t k))
        have HSt : Hid (andT r2 (putsT (a + 1) t N 0) = andT (r.2.write ((a + 1 + k : Nat) : Int) (blkT t k)) (putsT (a + 1) t (N - (k + 1)) (k + 1))) := by
          show _ = _
          rw [HEq.out, andT_go _ h0, show N - k = (N - (k + 1)) + 1 from by omega]
          rfl
        have hwa : wrap64 ((a : Int) + 1) = (a : Int) + 1 := by have := HAn.out; unfold wrap64; omega
        have hwb : wrap64 ((a : Int) + 1 + (k : Int)) = ((a + 1 + k : Nat) : Int) := by have := HAn.out; unfold wrap64; omega
        generalize r.2.write ((a + 1 + k : Nat) : Int) (blkT t k) = r' at *
        generalize blkT t k = bk at *
        clear HEq h0 hg0
        go_wp2_with fail
        refine KB.out.mono ?_
        rintro e v1 ⟨rfl, hb1⟩
        have HW1 : Hid (Calls Tryd.prog 27 #[.pointer (some ⟨p, 0, none⟩), .int .i64 ((a : Int) + 1 + (k : Int)), .string bk] v1 fun e w => e = .returned (.int .i64 ((r'.1 : Nat) : Int)) ∧ Mid p F w2 r' w) := by
          have := HW.out v1 hb1
          rw [show ((a + 1 + k : Nat) : Int) = (a : Int) + 1 + (k : Int) from by omega] at this
          exact this
        clear hb1 KB HW
        go_wp2_with fail
        refine HW1.out.mono ?_
        rintro e v2 ⟨rfl, hm5⟩
        have HM5 := hide hm5
        clear hm5 HW1
        go_wp2
        go_roundw
        case rel => exact ⟨k + 1, r', hlt, by go_num, rfl, HM5.out, HFn.out, HSt.out⟩
        case measure => simp [intOf]; omega
      · have hke : k = N := by omega
        subst hke
        have hzk : ¬ ((k : Int) * 256 < (t.size : Int)) := by have := (HNb.out k).2; omega
        have HEr : Hid (SV = andT (andT (andT r St.sync) (fun s => s.write (a : Int) (headT g t))) St.sync) := by
          show _ = _
          rw [HS.out, HEq.out, Nat.sub_self, andT_go _ h0]
          show andT (andT (andT (0, r.2) St.sync) _) St.sync = _
          rw [show ((0 : Nat), r.2) = r from by rw [← h0]]
        have hz0 : ((r.1 : Nat) : Int) = 0 := by omega
        have KS := hide (HMd.out.sync ⟨HFi.out.1, by have := HFi.out.2.1; omega, HFi.out.2.2⟩)
        rw [andT_go _ h0] at HEr
        have HF4 := hide (Fine.sync HFi.out.1 HFi.out.2.1)
        clear HEq HS h0
        generalize r.2.sync = r4 at *
        go_wp2_with fail
        refine KS.out.mono ?_
        rintro e v4 ⟨rfl, hm4⟩
        have HM4 := hide hm4
        clear hm4 KS
        by_cases h4 : r4.1 = 0
        · rw [andT_go _ h4] at HEr
          have hz4 : ((r4.1 : Nat) : Int) = 0 := by omega
          have KH := hide (rHead_any g t v4 HTx.out.2)
          have HW5 := hide (fun v (hb : Below v4.heap.size v4 v) => (HM4.out.below hb).write ⟨HF4.out.1, by have := HF4.out.2.1; omega, HF4.out.2.2⟩ (a : Int) (headT g t))
          have HF5 := hide (Fine.write HF4.out.1 HF4.out.2.1 (a : Int) (headT g t))
          clear h4
          generalize r4.2.write (a : Int) (headT g t) = r5 at *
          generalize headT g t = hd at *
          go_wp2_with fail
          refine KH.out.mono ?_
          rintro e v5 ⟨rfl, hb5⟩
          have HW6 := hide (HW5.out v5 hb5)
          clear hb5 KH HW5
          go_wp2_with fail
          refine HW6.out.mono ?_
          rintro e v6 ⟨rfl, hm6⟩
          have HM6 := hide hm6
          clear hm6 HW6
          by_cases h5 : r5.1 = 0
          · rw [andT_go _ h5] at HEr
            have hz5 : ((r5.1 : Nat) : Int) = 0 := by omega
            have KS7 := hide (HM6.out.sync ⟨HF5.out.1, by have := HF5.out.2.1; omega, HF5.out.2.2⟩)
            clear h5
            generalize r5.2.sync = r7 at *
            go_wp2_with fail
            refine KS7.out.mono ?_
            rintro e v7 ⟨rfl, hm7⟩
            have HM7 := hide hm7
            clear hm7 KS7
            go_wp2
            go_ret
            rw [HEr.out]
            exact ⟨rfl, HM7.out⟩
          · rw [andT_stop _ h5] at HEr
            have hz5 : ¬ (((r5.1 : Nat) : Int) = 0) := by omega
            clear h5
            go_wp2
            go_ret
            rw [HEr.out]
            exact ⟨rfl, HM6.out⟩
        · rw [andT_stop _ h4, andT_stop _ h4] at HEr
          have hz4 : ¬ (((r4.1 : Nat) : Int) = 0) := by omega
          clear h4
          go_wp2
          go_ret
          rw [HEr.out]
          exact ⟨rfl, HM4.out⟩
    · have HEr : Hid (SV = r) := by
        show _ = _
        rw [HS.out, HEq.out, andT_stop _ h0, andT_stop _ h0, andT_stop _ h0, andT_stop _ h0]
      have hz0 : ¬ (((r.1 : Nat) : Int) = 0) := by omega
      clear HEq HS h0
      go_wp2
      all_goals
        go_ret
        rw [HEr.out]
        exact ⟨rfl, HMd.out⟩
/-- The document's Save. -/
theorem rSave_any (p : Nat) (o n : Int) (g : Nat) (t : ByteArray) (st : St) (F : Nat → Prop) (u : World) (h : RD u p st F) (hok : st.Ok) (hl : st.loose.length + 3000 ≤ 10000) (hS : st.sure.length ≤ 4096) (hn : -9223372036854775808 ≤ n ∧ n ≤ 9223372036854775807) (ht : t.size ≤ 100000) (hg : g < 18446744073709551616) :
    Calls Tryd.prog 21 #[.pointer (some ⟨p, 0, none⟩), .int .i64 o, .int .i64 n, .int .u64 (g : Int), .string t] u (RSays p F u (st.save o n g t)) := by
  by_cases hno : st.mayC o n ∧ ¬ (g < 1 ∨ 4611686018427387904 < g) ∧ ¬ room n < (t.size : Int)
  · exact rSave_goes p o n g t st F u h hok hl hS hn ht hg hno.1 hno.2.1 hno.2.2
  · exact rSave_no p o n g t st F u h hS hn hg hno
end Go.Proofs.YtiebhdgpnloieaaDoor
namespace Go.Proofs.YtiebhdgpnloieaaDoor
open Go Go.RowKit Frm
theorem TextsAt.take {w : World} {b off : Nat} {l : List ByteArray} (h : TextsAt w b off l) (k : Nat) : TextsAt w b off (l.take k) := fun j hj => by
  rw [List.length_take] at hj
  rw [List.getElem_take]
  exact h j (by omega)
theorem TextsAt.drop {w : World} {b off : Nat} {l : List ByteArray} (h : TextsAt w b off l) (k : Nat) : TextsAt w b (off + k) (l.drop k) := fun j hj => by
  rw [List.length_drop] at hj
  rw [List.getElem_drop, Nat.add_assoc]
  exact h (k + j) (by omega)
theorem TextsAt.below {w w' : World} {b off : Nat} {l : List ByteArray} (h : TextsAt w b off l) (hb : Below w.heap.size w w') : TextsAt w' b off l := fun j hj => (hb.cell (p := ⟨b, off + j, none⟩) (World.block_lt_of_cell? w _ (h j hj))).trans (h j hj)
/-- A row of texts of one's own. -/
theorem own_texts {base n : Nat} {lv : Value} {u : World} {l : List ByteArray} (h : u.ownsRow base 9 1 lv n (l.map Value.string)) (hl : l ≠ []) : ∃ g cap, lv = .slice (some ⟨g, 0, none⟩) l.length cap ∧ l.length ≤ cap ∧ TextsAt u g 0 l := by
  have hlen : l.length = n := by have := h.1; simp at this; exact this
  rcases h.2 with ⟨_, h0⟩ | ⟨g, cap, cur, rfl, hbg, hg, hn, hcc, hz, ht⟩
  · exact absurd (List.length_eq_zero_iff.1 (hlen.trans h0)) hl
  · refine ⟨g, cap, by rw [hlen], by omega, fun j hj => ?_⟩
    rw [Nat.zero_add, cell_of_row u g j cur 9 (0, 0) hg]
    have hq : (l.map Value.string)[j]? = some (.string l[j]) := by simp [hj]
    rw [← ht, Nat.mul_one, List.getElem?_take, if_pos (by omega), Array.getElem?_toList] at hq
    exact hq
theorem blocksAt_take (st : St) (a M : Nat) : (blocksAt st a (2 * M)).take M = blocksAt st a M := by
  unfold blocksAt
  rw [← List.map_take, List.take_range, Nat.min_eq_left (by omega)]
theorem blocksAt_drop (st : St) (a M : Nat) : (blocksAt st a (2 * M)).drop M = blocksAt st (a + M) M := by
  apply List.ext_getElem
  · rw [List.length_drop, blocksAt_length, blocksAt_length]; omega
  · intro j h1 h2
    rw [List.getElem_drop]
    simp only [blocksAt, List.getElem_map, List.getElem_range, Nat.add_assoc]
set_option maxRecDepth 10000 in
set_option maxHeartbeats 4000000 in
theorem rLoad_in (p a M : Nat) (st : St) (F : Nat → Prop) (w : World) (h : RD w p st F) (hok : st.Ok) (hl : st.loose.length ≤ 10000) (h2 : 2 ≤ M) (hM : M ≤ 2048) (ha : a + 2 * M ≤ st.sure.length) (h0 : st.left ≠ 0) (A B : Nat × ByteArray) (hA : wholeT (blocksAt st a M) 0 = A) (hB : wholeT (blocksAt st (a + M) M) 1 = B) (R : (Nat × ByteArray) × Nat) (hR : (if A.1 = 0 ∧ B.1 = 0 then ((0, noText), 5) else if B.1 < A.1 then (A, 0) else (B, 0)) = R)
    (KM : Calls Tryd.prog 45 #[.pointer (some ⟨p, 0, none⟩), .int .i64 (a : Int), .int .i64 ((2 * M : Nat) : Int)] w fun e w' => e = .returned (.bool true) ∧ w' = w) :
    Calls Tryd.prog 22 #[.pointer (some ⟨p, 0, none⟩), .int .i64 (a : Int), .int .i64 ((2 * M : Nat) : Int)] w fun e v => e = .returned (.tuple #[.int .u64 ((R.1.1 : Nat) : Int), .string R.1.2, .int .i64 ((R.2 : Nat) : Int)]) ∧ Below w.heap.size w v := by
  obtain ⟨i0, hi, hz0, hz1, hz2⟩ := info_parts info9
  have HI := hide (And.intro hi (And.intro hz0 (And.intro hz1 hz2)))
  clear hi hz0 hz1 hz2
  have HM := hide KM
  have hfew := hok.few
  have HRd : Hid (∀ (k : Nat) (u : World), k < 2 * M → Below w.heap.size w u → Calls Tryd.prog 28 #[.pointer (some ⟨p, 0, none⟩), .int .i64 ((a : Int) + (k : Int))] u fun e v => e = .returned (.tuple #[.string (stands st.sure (a + k) st.loose.reverse), .int .i64 0]) ∧ v = u) := fun k u hk hb => by
    have := rd_read p st F ((a : Int) + (k : Int)) u (h.below hb) hok (by omega)
    have e : st.read ((a : Int) + (k : Int)) = (stands st.sure (a + k) st.loose.reverse, 0) := by
      unfold St.read
      rw [if_neg h0, if_neg (by omega), show ((a : Int) + (k : Int)).toNat = a + k from by omega]
    rw [e] at this
    exact this
  have HW : Hid (∀ (b : Nat) (c : Nat) (u : World), TextsAt u b 0 (blocksAt st a (2 * M)) → Calls Tryd.prog 49 #[.slice (some ⟨b, 0, none⟩) M c, .int .i64 0] u fun e w' => e = .returned (.tuple #[.int .u64 (A.1 : Int), .string A.2]) ∧ Below u.heap.size u w') := fun b c u hT => by
    have := rWhole_any b 0 c 0 (blocksAt st a M) u (by have := hT.take M; rw [blocksAt_take] at this; exact this) (by rw [blocksAt_length]; omega) (by rw [blocksAt_length]; omega) (blocksAt_full hok a M (by omega)) (by decide)
    rw [blocksAt_length, hA] at this
    exact this
  have HW2 : Hid (∀ (b : Nat) (c : Nat) (u : World), TextsAt u b 0 (blocksAt st a (2 * M)) → Calls Tryd.prog 49 #[.slice (some ⟨b, M, none⟩) M c, .int .i64 1] u fun e w' => e = .returned (.tuple #[.int .u64 (B.1 : Int), .string B.2]) ∧ Below u.heap.size u w') := fun b c u hT => by
    have := rWhole_any b M c 1 (blocksAt st (a + M) M) u (by have := hT.drop M; rw [blocksAt_drop, Nat.zero_add] at this; exact this) (by rw [blocksAt_length]; omega) (by rw [blocksAt_length]; omega) (blocksAt_full hok (a + M) M (by omega)) (by decide)
    rw [blocksAt_length, hB] at this
    exact this
  have HRR := hide hR
  have hq : Int.tdiv ((2 * M : Nat) : Int) 2 = (M : Int) := by rw [tdiv2 (by omega)]; omega
  have hwM : wrap64 (M : Int) = (M : Int) := by unfold wrap64; omega
  have hA9 : a ≤ 4096 := by omega
  have HSz : Hid (2 ≤ M ∧ M ≤ 2048 ∧ a ≤ 4096) := ⟨h2, hM, hA9⟩
  clear h hok hl ha h0 hA hB hR KM hfew h2 hM hA9
  obtain ⟨N, hN⟩ : ∃ N, N = 2 * M := ⟨_, rfl⟩
  have HN := hide hN
  rw [← hN] at HM HRd HW HW2 hq ⊢
  clear hN
  go_enter Tryd.func22, Tryd.ntmps22
  go_wp2_with fail
  refine HM.out.mono ?_
  rintro e w1 ⟨rfl, rfl⟩
  clear HM
  go_wp2_with fail
  go_loopw [9, 10, 11, 12] (fun lv i _ _ wr => ∃ k : Nat, k ≤ N ∧ i = .int .i64 (k : Int) ∧ wr.ownsRow w1.heap.size 9 1 lv k ((blocksAt st a k).map Value.string) ∧ Below w1.heap.size w1 wr) (fun _ i _ _ _ => N - (intOf i).toNat)
  case atStart => exact ⟨0, Nat.zero_le _, rfl, World.ownsRow_nil _ _ _ _, Below.refl _ _⟩
  case round =>
    obtain ⟨k, hk, rfl, hown, hbl⟩ := hrel
    have HO := hide hown
    have HB := hide hbl
    have hsz := hbl.size
    clear hown hbl
    by_cases hlt : k < N
    · have hz : (k : Int) < (N : Int) := by omega
      have hk4 : k < 4096 := by have h1 := HSz.out; have h2 := HN.out; omega
      have hwk : wrap64 ((a : Int) + (k : Int)) = (a : Int) + (k : Int) := by have := HSz.out; have := HN.out; unfold wrap64; omega
      have KR := hide (HRd.out k wr hlt HB.out)
      have HNx := hide (blocksAt_succ st a k)
      generalize stands st.sure (a + k) st.loose.reverse = t at *
      go_wp2_with fail
      refine KR.out.mono ?_
      rintro e w2 ⟨rfl, hw2⟩
      obtain rfl := hw2.symm
      clear hw2 KR
      go_wp2_with (at_builtin; refine wpList_append_own _ rfl _ _ 41 rfl w1.heap.size 9 i0 (.string ⟨#[]⟩) 1 16 Tryd.underlying41 HI.out.1 HI.out.2.1 HI.out.2.2.1 HI.out.2.2.2 rfl (by decide) _ _ _ rfl (HO.out.alloc _) ⟨wr.heap.size, 0, none⟩ 1 1 [.string t] rfl rfl ?c1 ?c2 ?c3 ?c4 ?c5 ?_)
      case c1 =>
        intro j u hj
        match j, hj with
        | 0, hj => simp at hj; subst hj; simp [Addr.add, go_sem]
      case c2 => first | rfl | (intro u hu; simp at hu; subst hu; rfl)
      case c3 => unfold maxLen; omega
      case c4 => omega
      case c5 => first | omega | (simp; omega)
      · intro lv' w3 hown3 hgrow3 _
        rw [map_snoc, ← HNx.out] at hown3
        have HO3 := hide hown3
        have HB3 := hide ((HB.out.alloc hsz (.cells #[.string t] 9)).grown hgrow3 (by simp; omega) (fun j hj => (World.ownsRow.lt HO.out j hj).1))
        clear hown3 hgrow3
        go_wp2
        go_roundw
        case rel => exact ⟨k + 1, hlt, by go_num, HO3.out, HB3.out⟩
        case measure => simp [intOf]; omega
    · have hke : k = N := by omega
      subst hke
      have hz : ¬ ((k : Int) < (k : Int)) := by omega
      obtain ⟨g, cap, rfl, hcap, hT⟩ := own_texts HO.out (fun e => by have e2 := congrArg List.length e; rw [blocksAt_length] at e2; have := HSz.out; have := HN.out; simp at e2; omega)
      rw [blocksAt_length] at hcap ⊢
      have HT := hide hT
      have h1 : (0 : Int) ≤ (M : Int) := by omega
      have h2 : (M : Int) ≤ (k : Int) := by have := HN.out; omega
      have h3 : (M : Int) ≤ (cap : Int) := by have := HN.out; omega
      have h4 : (k : Int) ≤ (cap : Int) := by omega
      have h5 : (k : Int) - (M : Int) = (M : Int) := by have := HN.out; omega
      have h6 : k - M = M := by have := HN.out; omega
      have h7 : (M : Int) < (cap : Int) := by have := HN.out; have := HSz.out; omega
      have h8 : ¬ (cap = M) := by omega
      have h9 : ¬ (M = cap) := by omega
      have h10 : M < cap := by omega
      have KW := hide (HW.out g cap wr HT.out)
      clear hT HW hlt hk
      go_wp2_with fail
      refine KW.out.mono ?_
      rintro e w4 ⟨rfl, hb4⟩
      have HB4 := hide (bnext HB.out hb4)
      have KW2 := hide (HW2.out g (cap - M) w4 (HT.out.below hb4))
      clear hb4 KW HW2 HT HB
      go_wp2_with fail
      refine KW2.out.mono ?_
      rintro e w5 ⟨rfl, hb5⟩
      have HB5 := hide (bnext HB4.out hb5)
      clear hb5 KW2 HB4
      obtain ⟨ga, ta⟩ := A
      obtain ⟨gb, tb⟩ := B
      have HR1 : Hid ((if ga = 0 ∧ gb = 0 then ((0, noText), 5) else if gb < ga then ((ga, ta), 0) else ((gb, tb), 0)) = R) := HRR.out
      clear HRR
      have hg0 : True := trivial
      by_cases ha0 : ga = 0
      · by_cases hb0 : gb = 0
        · have HQ : Hid (R = ((0, noText), 5)) := by show _ = _; rw [← HR1.out, if_pos ⟨ha0, hb0⟩]
          clear HR1
          subst ha0 hb0
          go_wp2
          go_ret3
          rw [HQ.out]
          exact ⟨rfl, HB5.out⟩
        · have HQ : Hid (R = ((gb, tb), 0)) := by show _ = _; rw [← HR1.out, if_neg (fun x => hb0 x.2), if_neg (by omega)]
          have q1 : ¬ ((gb : Int) = 0) := by omega
          have q2 : ¬ ((gb : Int) < 0) := by omega
          clear HR1
          subst ha0
          go_wp2
          go_ret3
          rw [HQ.out]
          exact ⟨rfl, HB5.out⟩
      · have q0 : ¬ ((ga : Int) = 0) := by omega
        by_cases hlt2 : gb < ga
        · have HQ : Hid (R = ((ga, ta), 0)) := by show _ = _; rw [← HR1.out, if_neg (fun x => ha0 x.1), if_pos hlt2]
          have q1 : (gb : Int) < (ga : Int) := by omega
          clear HR1 ha0 hlt2
          go_wp2
          go_ret3
          rw [HQ.out]
          exact ⟨rfl, HB5.out⟩
        · have HQ : Hid (R = ((gb, tb), 0)) := by show _ = _; rw [← HR1.out, if_neg (fun x => ha0 x.1), if_neg hlt2]
          have q1 : ¬ ((gb : Int) < (ga : Int)) := by omega
          clear HR1 ha0 hlt2
          go_wp2
          go_ret3
          rw [HQ.out]
          exact ⟨rfl, HB5.out⟩
set_option maxRecDepth 10000 in
set_option maxHeartbeats 4000000 in
theorem rLoad_no (p : Nat) (o n : Int) (w : World) (KM : Calls Tryd.prog 45 #[.pointer (some ⟨p, 0, none⟩), .int .i64 o, .int .i64 n] w fun e w' => e = .returned (.bool false) ∧ w' = w) :
    Calls Tryd.prog 22 #[.pointer (some ⟨p, 0, none⟩), .int .i64 o, .int .i64 n] w fun e v => e = .returned (.tuple #[.int .u64 0, .string noText, .int .i64 2]) ∧ Below w.heap.size w v := by
  have HM := hide KM
  clear KM
  go_enter Tryd.func22, Tryd.ntmps22
  go_wp2_with fail
  refine HM.out.mono ?_
  rintro e w1 ⟨rfl, rfl⟩
  clear HM
  go_wp2
  go_ret3
  exact ⟨rfl, Below.refl _ _⟩
set_option maxRecDepth 10000 in
set_option maxHeartbeats 4000000 in
theorem rLoad_down (p a N : Nat) (w : World) (KM : Calls Tryd.prog 45 #[.pointer (some ⟨p, 0, none⟩), .int .i64 (a : Int), .int .i64 (N : Int)] w fun e w' => e = .returned (.bool true) ∧ w' = w) (h1 : 1 ≤ N) (ha : a ≤ 4096)
    (KR : Calls Tryd.prog 28 #[.pointer (some ⟨p, 0, none⟩), .int .i64 (a : Int)] w fun e v => e = .returned (.tuple #[.string noText, .int .i64 50]) ∧ v = w) :
    Calls Tryd.prog 22 #[.pointer (some ⟨p, 0, none⟩), .int .i64 (a : Int), .int .i64 (N : Int)] w fun e v => e = .returned (.tuple #[.int .u64 0, .string noText, .int .i64 50]) ∧ Below w.heap.size w v := by
  have HM := hide KM
  have HR := hide KR
  have hz : (0 : Int) < (N : Int) := by omega
  have hwk : wrap64 (a : Int) = (a : Int) := by unfold wrap64; omega
  clear KM KR h1 ha
  go_enter Tryd.func22, Tryd.ntmps22
  go_wp2_with fail
  refine HM.out.mono ?_
  rintro e w1 ⟨rfl, rfl⟩
  clear HM
  go_wp2_with fail
  go_loopw [9, 10, 11, 12] (fun lv i _ _ wr => i = .int .i64 0 ∧ wr = w1) (fun _ _ _ _ _ => 0)
  case atStart => exact ⟨rfl, rfl⟩
  case round =>
    obtain ⟨rfl, hwr⟩ := hrel
    obtain rfl := hwr.symm
    go_wp2_with fail
    refine HR.out.mono ?_
    rintro e w2 ⟨rfl, hw2⟩
    obtain rfl := hw2.symm
    go_wp2
    go_ret3
    exact ⟨rfl, Below.refl _ _⟩
/-- The document's Load. -/
theorem rLoad_any (p : Nat) (o n : Int) (st : St) (F : Nat → Prop) (w : World) (h : RD w p st F) (hok : st.Ok) (hl : st.loose.length ≤ 10000) (hS : st.sure.length ≤ 4096) (hn : -9223372036854775808 ≤ n ∧ n ≤ 9223372036854775807) :
    Calls Tryd.prog 22 #[.pointer (some ⟨p, 0, none⟩), .int .i64 o, .int .i64 n] w fun e v => e = .returned (.tuple #[.int .u64 (((st.load o n).1.1 : Nat) : Int), .string (st.load o n).1.2, .int .i64 (((st.load o n).2 : Nat) : Int)]) ∧ Below w.heap.size w v := by
  have KM := rd_mayC p st F o n w h hS hn
  by_cases hm : st.mayC o n
  · rw [decide_eq_true hm] at KM
    obtain ⟨p1, p2, p3, p4⟩ := room_pos hm.1
    obtain ⟨m1, m2, m3⟩ := hm
    obtain ⟨a, rfl⟩ : ∃ a : Nat, o = (a : Int) := ⟨o.toNat, by omega⟩
    obtain ⟨M, rfl⟩ : ∃ M : Nat, n = ((2 * M : Nat) : Int) := ⟨n.toNat / 2, by omega⟩
    by_cases h0 : st.left = 0
    · have e : st.load (a : Int) ((2 * M : Nat) : Int) = ((0, noText), 50) := by unfold St.load; rw [if_neg (fun hh => hh ⟨m1, m2, m3⟩), if_pos h0]
      rw [e]
      have kr := rd_read p st F (a : Int) w h hok (by omega)
      have er : st.read (a : Int) = (noText, 50) := by unfold St.read; rw [if_pos h0]
      rw [er] at kr
      exact rLoad_down p a (2 * M) w KM (by omega) (by omega) kr
    · have e0 : slotAt (a : Int) ((2 * M : Nat) : Int) 0 = a := by unfold slotAt; simp
      have e1 : slotAt (a : Int) ((2 * M : Nat) : Int) 1 = a + M := by unfold slotAt; rw [Int.toNat_natCast, Int.toNat_natCast, Nat.mul_div_cancel_left M (by decide)]; omega
      have e2 : ((2 * M : Nat) : Int).toNat / 2 = M := by rw [Int.toNat_natCast, Nat.mul_div_cancel_left M (by decide)]
      refine rLoad_in p a M st F w h hok hl (by omega) (by omega) (by omega) h0 _ _ rfl rfl _ ?_ KM
      have key : ¬ ¬ st.mayC (a : Int) ((2 * M : Nat) : Int) := fun hh => hh ⟨m1, m2, m3⟩
      conv => rhs; unfold St.load; rw [if_neg key, if_neg h0, e0, e1, e2]
  · rw [decide_eq_false hm] at KM
    have e : st.load o n = ((0, noText), 2) := by unfold St.load; rw [if_pos hm]
    rw [e]
    exact rLoad_no p o n w KM
end Go.Proofs.YtiebhdgpnloieaaDoor
namespace Go.Proofs.YtiebhdgpnloieaaDoor
open Go Go.RowKit Frm
/-- The first k bytes of a block of a text, bytes 0 behind them. -/
def drow (s : ByteArray) (k : Nat) : List UInt8 := (List.range 256).map fun j => if h : j < k ∧ 0 < s.size then s[j % s.size]'(Nat.mod_lt _ h.2) else 0
theorem drow_length (s : ByteArray) (k : Nat) : (drow s k).length = 256 := by unfold drow; simp
theorem drow_zero (s : ByteArray) (j : Nat) (hj : j < (drow s 0).length) : (drow s 0)[j] = 0 := by unfold drow; simp
theorem drow_at (s : ByteArray) (k j : Nat) (hj : j < (drow s k).length) : (drow s k)[j] = if h : j < k ∧ 0 < s.size then s[j % s.size]'(Nat.mod_lt _ h.2) else 0 := by simp only [drow, List.getElem_map, List.getElem_range]
theorem drow_next (s : ByteArray) (k : Nat) (hs : 0 < s.size) : drow s (k + 1) = (drow s k).set k (s[k % s.size]'(Nat.mod_lt _ hs)) := by
  apply List.ext_getElem (by rw [List.length_set, drow_length, drow_length])
  intro j h1 h2
  rw [List.getElem_set, drow_at, drow_at]
  by_cases e : k = j
  · subst e
    rw [if_pos rfl, dif_pos ⟨by omega, hs⟩]
  · rw [if_neg e]
    by_cases h3 : j < k
    · rw [dif_pos ⟨by omega, hs⟩, dif_pos ⟨h3, hs⟩]
    · rw [dif_neg (by omega), dif_neg (by omega)]
theorem drow_all (s : ByteArray) (k : Nat) (hk : 256 ≤ k ∨ s.size = 0) : drow s k = drow s 256 := by
  unfold drow
  apply List.map_congr_left
  intro j hj
  have hj2 := List.mem_range.1 hj
  by_cases h : 0 < s.size
  · rw [dif_pos ⟨by omega, h⟩, dif_pos ⟨by omega, h⟩]
  · rw [dif_neg (fun hh => h hh.2), dif_neg (fun hh => h hh.2)]
/-- A block of a text's bytes. -/
def dataOf (s : ByteArray) : ByteArray := ⟨(drow s 256).toArray⟩
theorem dataOf_size (s : ByteArray) : (dataOf s).size = 256 := by
  show (drow s 256).toArray.size = 256
  rw [List.size_toArray, drow_length]
theorem zbytes (u : World) : BytesAt (u.alloc (.cells zcells 5)) u.heap.size (List.replicate 256 0) := fun j hj => by
  have hj' : j < 256 := by rw [List.length_replicate] at hj; exact hj
  have hb : (u.alloc (.cells zcells 5)).heap[u.heap.size]? = some (.cells zcells 5) := heap_alloc_last u _
  refine ⟨?_, free_of hb j⟩
  rw [cell_of_row _ _ _ _ _ _ hb, zcells_at j hj', List.getElem_replicate]
  rfl
theorem drow0 (s : ByteArray) : drow s 0 = List.replicate 256 0 := by
  apply List.ext_getElem (by rw [drow_length, List.length_replicate])
  intro j h1 h2
  rw [drow_zero, List.getElem_replicate]
theorem bytes_text {u : World} {g : Nat} {l : List UInt8} (h : BytesAt u g l) (hl : l.length = 256) : (convert 56 9 (.slice (some ⟨g, 0, none⟩) 256 256)).run Tryd.prog u = .ok (.string ⟨l.toArray⟩) u := by
  have key := run_convert_bytes_back (P := Tryd.prog) u 56 9 5 ⟨g, 0, none⟩ 256 l Tryd.underlying56 Tryd.underlying5 Tryd.underlying9 (fun j hj => by
    rw [add_at]
    exact (h j hj).1)
  rw [hl] at key
  exact key
theorem bytes_textC {u : World} {g c : Nat} {l : List UInt8} (h : BytesAt u g l) (hl : l.length = 256) : (convert 56 9 (.slice (some ⟨g, 0, none⟩) 256 c)).run Tryd.prog u = .ok (.string ⟨l.toArray⟩) u := by
  have key := run_convert_bytes_back (P := Tryd.prog) u 56 9 5 ⟨g, 0, none⟩ c l Tryd.underlying56 Tryd.underlying5 Tryd.underlying9 (fun j hj => by
    rw [add_at]
    exact (h j hj).1)
  rw [hl] at key
  exact key
theorem data_mod (s : ByteArray) (k : Nat) (hpos : 0 < s.size) : ∃ m : Nat, ∃ hm : m < s.size, Int.tmod (k : Int) (s.size : Int) = (m : Int) ∧ (k : Int) % (s.size : Int) = (m : Int) ∧ Hid (drow s (k + 1) = (drow s k).set k s[m]) :=
  ⟨k % s.size, Nat.mod_lt _ hpos, by rw [Int.tmod_eq_emod_of_nonneg (by omega)]; omega, by omega, drow_next s k hpos⟩
set_option maxRecDepth 10000 in
set_option maxHeartbeats 2000000 in
theorem data_any (s : ByteArray) (w : World) (hs : s.size ≤ 100000) : Calls Tryd.prog 26 #[.string s] w fun e w' => e = .returned (.string (dataOf s)) ∧ Below w.heap.size w w' := by
  have hzm := zmake
  have HZ := hide (zbytes w)
  have hbz : Below w.heap.size w (w.alloc (.cells zcells 5)) := (Below.refl _ _).alloc (Nat.le_refl _) _
  have HBZ := hide hbz
  clear hbz
  generalize zcells = Z at *
  by_cases he : s.size = 0
  · have hse : s = ⟨#[]⟩ := by
      apply ByteArray.ext
      exact Array.eq_empty_of_size_eq_zero he
    have HT : Hid ((convert 56 9 (.slice (some ⟨w.heap.size, 0, none⟩) 256 256)).run Tryd.prog (w.alloc (.cells Z 5)) = .ok (.string (dataOf s)) (w.alloc (.cells Z 5))) := by
      have := bytes_text HZ.out (List.length_replicate ..)
      rw [← drow0 s, drow_all s 0 (Or.inr he)] at this
      exact this
    generalize dataOf s = D at *
    subst hse
    clear he
    have ht := HT.out
    have HT2 := hide ht
    clear ht HT
    go_enter Tryd.func26, Tryd.ntmps26
    go_wp2_with fail
    go_loopw [4] (fun i wr => i = .int .i64 0 ∧ wr = w.alloc (.cells Z 5)) (fun _ _ => 0)
    case atStart => exact ⟨rfl, rfl⟩
    case round =>
      obtain ⟨rfl, hwr⟩ := hrel
      subst hwr
      have ht := HT2.out
      go_wp2
      go_ret
      exact ⟨rfl, HBZ.out⟩
  · have hpos : 0 < s.size := by omega
    have hne : (s.toList == (⟨#[]⟩ : ByteArray).toList) = false := toList_ne (fun e => he (by rw [e]; rfl))
    have hne2 : s.toList.isEmpty = false := by
      cases h : s.toList with
      | nil => rw [h, show (⟨#[]⟩ : ByteArray).toList = [] from by simp] at hne; cases hne
      | cons x l => rfl
    have hZ := HZ.out
    rw [← drow0 s] at hZ
    have HZ2 := hide hZ
    have HT : Hid (∀ u, BytesAt u w.heap.size (drow s 256) → (convert 56 9 (.slice (some ⟨w.heap.size, 0, none⟩) 256 256)).run Tryd.prog u = .ok (.string (dataOf s)) u) := fun u h => bytes_text h (drow_length _ _)
    have HLn := hide (drow_length s)
    have hsz : ¬ ((s.size : Int) = 0) := by omega
    clear hZ HZ he
    generalize dataOf s = D at *
    go_enter Tryd.func26, Tryd.ntmps26
    go_wp2_with fail
    go_loopw [4] (fun i wr => ∃ k : Nat, k ≤ 256 ∧ i = .int .i64 (k : Int) ∧ BytesAt wr w.heap.size (drow s k) ∧ Below w.heap.size w wr) (fun i _ => 256 - (intOf i).toNat)
    case atStart => exact ⟨0, Nat.zero_le _, rfl, HZ2.out, HBZ.out⟩
    case round =>
      obtain ⟨k, hk, rfl, hB, hb⟩ := hrel
      have HBy := hide hB
      have HB := hide hb
      by_cases hlt : k < 256
      · have hz : (k : Int) < 256 := by omega
        have hw1 : IntKind.i64.wrap ((k : Int) + 1) = (k : Int) + 1 := by rw [IntKind.wrap_i64]; omega
        obtain ⟨m, hml, hm1, hm2, HNk⟩ := data_mod s k hpos
        have c1 := (hB k (by rw [HLn.out]; exact hlt)).1
        have f1 := (hB k (by rw [HLn.out]; exact hlt)).2
        clear hB hb
        have hmz : (m : Int) < (s.size : Int) := by omega
        go_wp2
        go_roundw
        case rel =>
          refine ⟨k + 1, hlt, by go_num, ?_, HB.out.setCell (p := ⟨w.heap.size, k, none⟩) (Nat.le_refl _) _⟩
          have h5 := HBy.out.set k s[m].toNat (by rw [HLn.out]; exact hlt) (UInt8.toNat_lt _)
          rw [HNk.out]
          have e5 : UInt8.ofNat s[m].toNat = s[m] := UInt8.ofNat_toNat
          rw [e5] at h5
          exact h5
        case measure => simp [intOf]; omega
      · have hke : k = 256 := by omega
        subst hke
        have ht := HT.out wr hB
        clear hB hb
        go_wp2
        go_ret
        exact ⟨rfl, HB.out⟩
/-- A block with a bit that is turned. -/
def turnL (l : List UInt8) (k : Nat) : List UInt8 := l.set (k / 8) (UInt8.ofNat ((l.getD (k / 8) 0).toNat ^^^ 2 ^ (k % 8)))
def turnT (s : ByteArray) (pos : Nat) : ByteArray := ⟨(turnL s.data.toList (pos % 2048)).toArray⟩
theorem turnT_size (s : ByteArray) (pos : Nat) : (turnT s pos).size = s.size := by
  show (turnL s.data.toList (pos % 2048)).toArray.size = s.data.size
  unfold turnL
  rw [List.size_toArray, List.length_set, Array.length_toList]
theorem bytes_new (w : World) (s : ByteArray) (cap : Nat) (e : TypeId) : BytesAt (w.drew.alloc (.cells (bytesRow s cap) e ((bytesRow s cap).size, (bytesRow s cap).size + 1))) w.heap.size s.data.toList := by
  intro j hj
  have hj' : j < s.data.size := by simpa using hj
  have hlt : j < (bytesRow s cap).size := by
    have h := bytesRow_at s cap j hj'
    exact (Array.getElem?_eq_some_iff.1 h).1
  refine ⟨?_, ?_⟩
  · have h := World.cell?_alloc_mark w.drew (bytesRow s cap) e ((bytesRow s cap).size, (bytesRow s cap).size + 1) j
    rw [show w.drew.heap.size = w.heap.size from rfl] at h
    rw [h, bytesRow_at s cap j hj']
    simp
  · have h := World.frozen?_alloc_mark w.drew (bytesRow s cap) e (bytesRow s cap).size ((bytesRow s cap).size + 1) j
    rw [show w.drew.heap.size = w.heap.size from rfl] at h
    rw [h]
    simp
    omega
theorem pow8 (m : Nat) (hm : m < 8) : 2 ^ m < 256 := by
  have := Nat.pow_le_pow_right (n := 2) (by decide) (show m ≤ 7 by omega)
  omega
theorem turn_val (x m : Nat) (hx : x < 256) (hm : m < 8) : bits .xor .u8 (x : Int) ((2 : Int) ^ m % 256) = ((x ^^^ 2 ^ m : Nat) : Int) := by
  have h := pow8 m hm
  have e : ((2 : Int) ^ m) = ((2 ^ m : Nat) : Int) := (Int.natCast_pow 2 m).symm
  rw [e]
  generalize 2 ^ m = p at *
  rw [show (p : Int) % 256 = (p : Int) from by omega]
  exact u8_xor_nat x _ hx h
theorem turn_nums (pos : Nat) (hp : pos < 65536) : Int.tmod (pos : Int) 2048 = ((pos % 2048 : Nat) : Int) ∧ Int.tdiv ((pos % 2048 : Nat) : Int) 8 = ((pos % 2048 / 8 : Nat) : Int) ∧ Int.tmod ((pos % 2048 : Nat) : Int) 8 = ((pos % 2048 % 8 : Nat) : Int) := by
  refine ⟨?_, ?_, ?_⟩
  · rw [Int.tmod_eq_emod_of_nonneg (by omega)]; omega
  · rw [Int.tdiv_eq_ediv_of_nonneg (by omega)]; omega
  · rw [Int.tmod_eq_emod_of_nonneg (by omega)]; omega
set_option maxRecDepth 10000 in
set_option maxHeartbeats 2000000 in
theorem turned_any (s : ByteArray) (pos : Nat) (w : World) (hs : s.size = 256) (hp : pos < 65536) : Calls Tryd.prog 29 #[.string s, .int .u16 (pos : Int)] w fun e w' => e = .returned (.string (turnT s pos)) ∧ Below w.heap.size w w' := by
  have hcv := fun u => run_bytes_of_string (P := Tryd.prog) u 9 56 5 s Tryd.underlying9 Tryd.underlying56 Tryd.underlying5
  obtain ⟨n1, n2, n3⟩ := turn_nums pos hp
  have HN : Hid (BytesAt (w.alloc (.cells (bytesRow s (grownCap w s.size 0 5)) 5 ((bytesRow s (grownCap w s.size 0 5)).size, (bytesRow s (grownCap w s.size 0 5)).size + 1))).drew w.heap.size s.data.toList) := bytes_new w s (grownCap w s.size 0 5) 5
  have HB : Hid (Below w.heap.size w (w.alloc (.cells (bytesRow s (grownCap w s.size 0 5)) 5 ((bytesRow s (grownCap w s.size 0 5)).size, (bytesRow s (grownCap w s.size 0 5)).size + 1))).drew) := ((Below.refl _ _).alloc (Nat.le_refl _) _).drew
  have hl0 : s.data.toList.length = 256 := by rw [← hs]; simp
  have HS := hide hs
  have h8 : wrap64 (8 * 256) = 2048 := by unfold wrap64; omega
  have hwp : wrap64 (pos : Int) = (pos : Int) := by unfold wrap64; omega
  have hk1 : pos % 2048 / 8 < 256 := by omega
  have hk2 : pos % 2048 % 8 < 8 := by omega
  have HT : Hid (turnT s pos = ⟨(turnL s.data.toList (pos % 2048)).toArray⟩) := rfl
  generalize turnT s pos = D at *
  generalize pos % 2048 = k at *
  rw [hs] at hcv HN HB
  go_enter Tryd.func29, Tryd.ntmps29
  go_upto_region 3 with fail
  generalize (w.alloc (.cells (bytesRow s (grownCap w 256 0 5)) 5 ((bytesRow s (grownCap w 256 0 5)).size, (bytesRow s (grownCap w 256 0 5)).size + 1))).drew = W at *
  generalize grownCap w 256 0 5 = cap at *
  have HV : Hid (∀ x m : Nat, x < 256 → m < 8 → bits .xor .u8 (x : Int) ((2 : Int) ^ m % 256) = ((x ^^^ 2 ^ m : Nat) : Int)) := fun x m h1 h2 => turn_val x m h1 h2
  have hk : k / 8 < s.data.toList.length := by omega
  have HSet := hide (fun v hv => HN.out.set (k / 8) v hk hv)
  obtain ⟨hc, hfr⟩ := HN.out (k / 8) hk
  have hgd : s.data.toList.getD (k / 8) 0 = s.data.toList[k / 8] := by rw [List.getD_eq_getElem?_getD, List.getElem?_eq_getElem hk]; rfl
  have HTl : Hid (turnL s.data.toList k = s.data.toList.set (k / 8) (UInt8.ofNat (s.data.toList[k / 8].toNat ^^^ 2 ^ (k % 8)))) := by
    show _ = _
    unfold turnL
    rw [hgd]
  have hx8 := s.data.toList[k / 8].toNat_lt
  have hll : (s.data.toList.set (k / 8) (UInt8.ofNat (s.data.toList[k / 8].toNat ^^^ 2 ^ (k % 8)))).length = 256 := by rw [List.length_set]; exact hl0
  generalize s.data.toList[k / 8].toNat = x at *
  have hct : (convert 56 9 (.slice (some ⟨w.heap.size, 0, none⟩) 256 cap)).run Tryd.prog (W.setCell ⟨w.heap.size, k / 8, none⟩ (.int .u8 (bits .xor .u8 (x : Int) ((2 : Int) ^ (k % 8) % 256)))) = .ok (.string D) (W.setCell ⟨w.heap.size, k / 8, none⟩ (.int .u8 (bits .xor .u8 (x : Int) ((2 : Int) ^ (k % 8) % 256)))) := by
    rw [HV.out x (k % 8) hx8 hk2, HT.out, HTl.out]
    exact bytes_textC (HSet.out _ (Nat.xor_lt_two_pow (n := 8) hx8 (pow8 _ hk2))) hll
  clear hcv hs hl0 HN hwp n1 h8 HT HTl HSet hll
  go_wp2_with fail
  go_ret
  exact ⟨rfl, HB.out.setCell (p := ⟨w.heap.size, k / 8, none⟩) (Nat.le_refl _) _⟩
end Go.Proofs.YtiebhdgpnloieaaDoor
