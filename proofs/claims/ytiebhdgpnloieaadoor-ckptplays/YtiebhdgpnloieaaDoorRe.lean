/- The document's own checkpoints: whole. -/
import Derived.Test.YtiebhdgpnloieaaDoorRd
namespace Go.Proofs.YtiebhdgpnloieaaDoor
open Go Go.RowKit Frm
theorem cut_take (h : ByteArray) (n : Nat) : (h.extract 0 n).data.toList = h.data.toList.take n := by
  rw [ByteArray.data_extract, Array.toList_extract]; simp [List.extract_eq_take_drop]
theorem cut_drop (h : ByteArray) (a n : Nat) : (h.extract a (a + n)).data.toList = (h.data.toList.drop a).take n := by
  rw [ByteArray.data_extract, Array.toList_extract, List.extract_eq_take_drop]; congr 1; omega
theorem toList_ne {s t : ByteArray} (h : s ≠ t) : (s.toList == t.toList) = false := by
  rw [beq_eq_false_iff_ne]
  intro e
  rw [Lib.toList_data, Lib.toList_data] at e
  exact h (ByteArray.ext (Array.toList_inj.1 e))
theorem ext_small (b : ByteArray) (n : Nat) (hb : b.size ≤ 1048576) : (b.extract 0 n).size ≤ 100000000 := by rw [ByteArray.size_extract]; omega
set_option maxRecDepth 20000 in
theorem whole_nums (n L s m : Nat) (hL : L ≤ 4096) (h : n ≤ (L - 1) * 256) (hs : s = (L - 1) * 256) (hm : m = nb n) :
    (n : Int) ≤ (s : Int) ∧ (n : Int) % 18446744073709551616 = (n : Int) ∧ wrap64 (n : Int) = (n : Int) ∧ wrap64 ((n : Int) + 256) = (n : Int) + 256 ∧ wrap64 ((n : Int) + 256 - 1) = (n : Int) + 256 - 1 ∧
    ((n : Int) + 256 - 1) / 256 = (m : Int) ∧ wrap64 (m : Int) = (m : Int) ∧ wrap64 ((m : Int) * 256) = (m : Int) * 256 ∧ (n ≤ m * 256 ∧ m * 256 ≤ s ∧ s ≤ 1048576) := by
  have h0 : s ≤ 1048576 := by omega
  have h1 : n ≤ s := by omega
  unfold nb at hm
  have h2 : n ≤ m * 256 := by omega
  have h3 : m * 256 ≤ s := by omega
  clear hL h hs
  refine ⟨by omega, by omega, by unfold wrap64; omega, by unfold wrap64; omega, by unfold wrap64; omega, ?_, by unfold wrap64; omega, by unfold wrap64; omega, h2, h3, h0⟩
  omega
set_option maxRecDepth 10000 in
set_option maxHeartbeats 4000000 in
theorem rWhole_any (b off c odd : Nat) (l : List ByteArray) (w : World) (hT : TextsAt w b off l) (h1 : 1 ≤ l.length) (hN : l.length ≤ 4096) (hl : ∀ t ∈ l, t.size = 256) (ho : odd < 2) :
    Calls Tryd.prog 49 #[.slice (some ⟨b, off, none⟩) l.length c, .int .i64 (odd : Int)] w fun e w' => e = .returned (.tuple #[.int .u64 ((wholeT l odd).1 : Int), .string (wholeT l odd).2]) ∧ Below w.heap.size w w' := by
  obtain ⟨h, hh⟩ : ∃ h, h = l[0] := ⟨_, rfl⟩
  have h256 : h.size = 256 := by rw [hh]; exact hl _ (List.getElem_mem _)
  have hl0 : l.getD 0 noText = h := by rw [List.getD_eq_getElem?_getD, List.getElem?_eq_getElem (by omega), hh]; rfl
  have hc0 : w.cell? ⟨b, off, none⟩ = some (.string h) := by rw [hh]; exact hT 0 (by omega)
  obtain ⟨g, hg⟩ : ∃ g, numL (h.data.toList.take 8) = g := ⟨_, rfl⟩
  obtain ⟨n, hn⟩ : ∃ n, numL ((h.data.toList.drop 8).take 4) = n := ⟨_, rfl⟩
  have hg64 : g < 18446744073709551616 := by
    have := numL_lt (h.data.toList.take 8)
    rw [List.length_take, show h.data.toList.length = 256 from by simpa using h256, hg] at this
    exact this
  have hn32 : n < 4294967296 := by
    have := numL_lt ((h.data.toList.drop 8).take 4)
    rw [List.length_take, List.length_drop, show h.data.toList.length = 256 from by simpa using h256, hn] at this
    exact this
  have K1 : Hid (Calls Tryd.prog 69 #[.string (h.extract 0 8)] w fun e w' => e = .returned (.int .u64 (g : Int)) ∧ w' = w) := by
    have := rNumber_any (h.extract 0 8) w (by rw [ByteArray.size_extract]; omega)
    rw [cut_take, hg] at this
    exact this
  have K2 : Hid (Calls Tryd.prog 69 #[.string (h.extract 8 12)] w fun e w' => e = .returned (.int .u64 (n : Int)) ∧ w' = w) := by
    have := rNumber_any (h.extract 8 12) w (by rw [ByteArray.size_extract]; omega)
    rw [cut_drop h 8 4, hn] at this
    exact this
  have HT := hide hT
  have HLl := hide hl
  have HW := hide (whole_way l odd h hl0 hl g n hg hn)
  have HW0 : Hid (g < 1 ∨ 4611686018427387904 < g ∨ g % 2 ≠ odd ∨ (l.length - 1) * 256 < n → wholeT l odd = (0, noText)) := by
    intro hh
    rw [whole_eq l odd h hl0, hg, hn, if_pos hh]
  have h8 : (8 : Int) ≤ (h.size : Int) := by omega
  have h12 : (12 : Int) ≤ (h.size : Int) := by omega
  have h1z : (1 : Int) ≤ (l.length : Int) := by omega
  have h0z : (0 : Int) < (l.length : Int) := by omega
  generalize hWW : wholeT l odd = WW at *
  clear hT hl hl0 hh hg hn hWW
  go_enter Tryd.func49, Tryd.ntmps49
  go_wp2_with fail
  refine K1.out.mono ?_
  rintro e w1 ⟨rfl, rfl⟩
  clear K1
  go_wp2_with fail
  refine K2.out.mono ?_
  rintro e w2 ⟨rfl, rfl⟩
  clear K2
  go_wp2_with fail
  go_loopw [9, 10] (fun bv i wr => ∃ k : Nat, 1 ≤ k ∧ k ≤ l.length ∧ i = .int .i64 (k : Int) ∧ bv = .string (joined ((l.drop 1).take (k - 1))) ∧ wr = w2) (fun _ i _ => l.length - (intOf i).toNat)
  case atStart => exact ⟨1, Nat.le_refl _, h1, rfl, rfl, rfl⟩
  case round =>
    obtain ⟨k, hk1, hk, rfl, rfl, hwr⟩ := hrel
    obtain rfl := hwr.symm
    clear hwr
    by_cases hlt : k < l.length
    · have hz : (k : Int) < (l.length : Int) := by omega
      have hck := HT.out k hlt
      have hkk : k - 1 < (l.drop 1).length := by rw [List.length_drop]; omega
      have HJ : Hid (joined ((l.drop 1).take (k + 1 - 1)) = joined ((l.drop 1).take (k - 1)) ++ l[k]) := by
        show _ = _
        rw [show k + 1 - 1 = (k - 1) + 1 from by omega, List.take_succ_eq_append_getElem hkk, joined_snoc, List.getElem_drop]
        congr 2
        omega
      have hsz : (joined ((l.drop 1).take (k - 1))).size + l[k].size ≤ 1048576 := by
        rw [joined_size _ (fun t ht => HLl.out t (List.mem_of_mem_drop (List.mem_of_mem_take ht))), HLl.out _ (List.getElem_mem hlt), List.length_take, List.length_drop]
        omega
      generalize joined ((l.drop 1).take (k - 1)) = bb at *
      generalize l[k] = x at *
      have hcat : ¬ (9223372036854775807 < bb.size + x.size) := by omega
      go_wp2
      go_roundw
      case rel => exact ⟨k + 1, by omega, hlt, by go_num, by rw [HJ.out], trivial⟩
      case measure => simp [intOf]; omega
    · have hke : k = l.length := by omega
      subst hke
      have hz : ¬ ((l.length : Int) < (l.length : Int)) := by omega
      rw [show (l.drop 1).take (l.length - 1) = l.drop 1 from List.take_of_length_le (by rw [List.length_drop]; exact Nat.le_refl _)]
      have hall : (joined (l.drop 1)).size = (l.length - 1) * 256 := by
        rw [joined_size _ (fun t ht => HLl.out t (List.mem_of_mem_drop ht)), List.length_drop, Nat.mul_comm]
      generalize joined (l.drop 1) = bb at *
      by_cases hbad : g < 1 ∨ 4611686018427387904 < g ∨ g % 2 ≠ odd ∨ (l.length - 1) * 256 < n
      · have hWW := HW0.out hbad
        clear HW HW0 HT
        subst hWW
        have HBad := hide hbad
        clear hbad
        go_wp2_with fail
        all_goals first
          | (go_ret2; exact ⟨rfl, Below.refl _ _⟩)
          | (exfalso; have := HBad.out; omega)
      · have g1 : (1 : Int) ≤ (g : Int) := by omega
        have g2 : (g : Int) ≤ 4611686018427387904 := by omega
        have g3 : (g : Int) % 2 = (odd : Int) := by omega
        have g4 : (n : Int) ≤ ((l.length - 1 : Nat) : Int) * 256 := by omega
        have HWt := hide (HW.out (by omega) (by omega))
        have HL := hide (show n ≤ bb.size by omega)
        have HN1 := hide hN
        clear HW HW0 HT hbad
        obtain ⟨m, hm⟩ : ∃ m, m = nb n := ⟨_, rfl⟩
        rw [← hm] at HWt
        have HK := hide (rHead_any g (bb.extract 0 n) w2 (ext_small bb n (by rw [hall]; exact Nat.le_trans (Nat.mul_le_mul_right 256 (Nat.le_trans (Nat.sub_le _ _) hN)) (by decide))))
        have HHs := hide (headT_size g (bb.extract 0 n))
        obtain ⟨hcz, hrest⟩ := whole_nums n l.length bb.size m hN (by omega) hall hm
        have HNB := hide hrest
        clear hrest hm
        go_wp2_with fail
        refine HK.out.mono ?_
        rintro e w3 ⟨rfl, hb3⟩
        have HB3 := hide hb3
        clear hb3 HK
        by_cases heq : h = headT g (bb.extract 0 n)
        · generalize headT g (bb.extract 0 n) = hd at *
          subst heq
          go_upto_region 14 with fail
          obtain ⟨hn3, hwn, hwn2, hwn3, hwn5, hwn6, hwn7, hnb1, hnb2, hnb3⟩ := HNB.out
          have HQ := hide hwn5
          clear HNB g1 g2 g3 g4 h1 hN ho h8 h12 h1z h0z hg64 hk1 hk hlt hall hz hcz h256 hc0 hwn3 hwn5
          rename_i hcnd _ _
          clear hcnd
          have HNb := hide (And.intro hnb1 (And.intro hnb2 hnb3))
          have HWr := hide (And.intro hn3 (And.intro hwn (And.intro hwn6 hwn7)))
          clear hnb1 hnb2 hnb3
          go_upto_region 15 with fail
          rw [HQ.out]
          clear HQ hwn2
          have HWx : Hid ((¬ zfrom bb n (m * 256) → WW = (0, noText)) ∧ (zfrom bb n (m * 256) → WW = (g, bb.extract 0 n))) := ⟨fun x => HWt.out.2 (fun y => x y.2), fun x => HWt.out.1 ⟨trivial, x⟩⟩
          clear HWt
          go_wp2_with fail
          go_loopw [13] (fun i wr => ∃ k : Nat, n ≤ k ∧ k ≤ m * 256 ∧ i = .int .i64 (k : Int) ∧ zfrom bb n k ∧ wr = w3) (fun i _ => m * 256 - (intOf i).toNat)
          case atStart => exact ⟨n, Nat.le_refl _, HNb.out.1, by first | rfl | (rw [hwn]), fun k h1 h2 => absurd h2 (by omega), rfl⟩
          case round =>
            obtain ⟨k, hnk, hk, rfl, hzf, hwr⟩ := hrel
            obtain rfl := hwr.symm
            clear hwr
            have HZ := hide hzf
            clear hzf hn3 hwn hwn6
            by_cases hlt : k < m * 256
            · have hks : k < bb.size := by have := HNb.out; omega
              have hz : (k : Int) < (m : Int) * 256 := by omega
              have hk48 : k < 1048576 := by have := HNb.out; omega
              have hb : byteAt bb k = some bb[k] := by unfold byteAt; rw [Array.getElem?_eq_getElem hks]; rfl
              by_cases h0 : bb[k].toNat = 0
              · have HZ2 : Hid (zfrom bb n (k + 1)) := fun j q1 q2 => by
                  by_cases e : j = k
                  · subst e
                    rw [hb]
                    congr 1
                    exact UInt8.toNat_inj.1 h0
                  · exact HZ.out j q1 (by omega)
                clear hb
                go_wp2
                go_roundw
                case rel => exact ⟨k + 1, by omega, hlt, by go_num, HZ2.out, trivial⟩
                case measure => simp [intOf]; omega
              · have hWW : WW = (0, noText) := HWx.out.1 (fun x => by
                  have := x k hnk hlt
                  rw [hb] at this
                  have e : bb[k] = 0 := Option.some.inj this
                  exact h0 (by rw [e]; rfl))
                subst hWW
                clear HWx hb
                go_wp2
                go_ret2
                exact ⟨rfl, HB3.out⟩
            · have hke : k = m * 256 := by omega
              have hWW := HWx.out.2 (by rw [← hke]; exact HZ.out)
              subst hWW
              have hz : ¬ ((k : Int) < (m : Int) * 256) := by omega
              clear HWx
              go_wp2
              go_ret2
              exact ⟨rfl, HB3.out⟩
        · have hWW : WW = (0, noText) := HWt.out.2 (fun x => heq x.1)
          subst hWW
          generalize headT g (bb.extract 0 n) = hd at *
          have hne : (h.toList == hd.toList) = false := toList_ne heq
          clear HWt heq
          go_wp2
          go_ret2
          exact ⟨rfl, HB3.out⟩
end Go.Proofs.YtiebhdgpnloieaaDoor
