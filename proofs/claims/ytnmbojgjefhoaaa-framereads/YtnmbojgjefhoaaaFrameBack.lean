/- The law FrameBack, walked. -/
import Derived.Test.YtnmbojgjefhoaaaAlive
namespace Go.Proofs.Ytnmbojgjefhoaaa
open Go Go.RowKit
theorem own_keeps {w w' : World} {base : Nat} {e : TypeId} {size n : Nat} {v : Value} {xs : List Value} (h : w.ownsRow base e size v n xs) (hb : Below w.heap.size w w') : w'.ownsRow base e size v n xs := by
  refine ⟨h.1, ?_⟩
  rcases h.2 with h0 | ⟨g, cap, cur, rfl, h1, hg, hr⟩
  · exact Or.inl h0
  · exact Or.inr ⟨g, cap, cur, rfl, h1, (hb.block g (Array.getElem?_eq_some_iff.1 hg).1).trans hg, hr⟩
/-- Where the first k frames end, as cells. -/
def eInts (l : List ByteArray) (k : Nat) : List Value := (List.range k).map fun j => .int .i64 ((ends l (j + 1) : Nat) : Int)
theorem eInts_snoc (l : List ByteArray) (k : Nat) : eInts l k ++ [.int .i64 ((ends l (k + 1) : Nat) : Int)] = eInts l (k + 1) := by
  unfold eInts; rw [List.range_succ, List.map_append]; rfl
theorem eInts_length (l : List ByteArray) (k : Nat) : (eInts l k).length = k := by unfold eInts; simp
theorem eInts_at (l : List ByteArray) (k j : Nat) (h : j < k) : (eInts l k)[j]? = some (.int .i64 ((ends l (j + 1) : Nat) : Int)) := by
  unfold eInts; simp [h]
theorem cat_take (l : List ByteArray) (k : Nat) (h : k < l.length) : cat (l.take (k + 1)) = cat (l.take k) ++ frm l[k] := by
  rw [List.take_succ_eq_append_getElem h, cat_snoc]
theorem ends_next (l : List ByteArray) (k : Nat) (h : k < l.length) : ends l (k + 1) = ends l k + l[k].size + 8 := by
  unfold ends; rw [cat_take l k h, ByteArray.size_append, frm_size]; omega
theorem ends_many (l : List ByteArray) : ∀ k, k ≤ l.length → 8 * k ≤ ends l k
  | 0, _ => Nat.zero_le _
  | k + 1, h => by
    have := ends_many l k (by omega)
    rw [ends_next l k (by omega)]
    omega
theorem ends_up (l : List ByteArray) (i : Nat) : ∀ j, i ≤ j → j ≤ l.length → ends l i ≤ ends l j
  | 0, h, _ => by rw [show i = 0 from by omega]; exact Nat.le_refl _
  | j + 1, h, hj => by
    by_cases e : i = j + 1
    · rw [e]; exact Nat.le_refl _
    · have := ends_up l i j (by omega) (by omega)
      have := ends_mono l j (by omega)
      omega
theorem info3 : (Try.prog.info? 3).map (fun i => (i.zero, i.size, i.bytes)) = some (some (.int .i64 0), 1, 8) := by kernel_rfl
theorem ints_of {w : World} {base k : Nat} {v : Value} {l : List ByteArray} (h : w.ownsRow base 3 1 v k (eInts l k)) :
    ∃ a c, v = .slice a k c ∧ (k = 0 ∨ ∃ g, a = some ⟨g, 0, none⟩ ∧ ∀ j, j < k → w.cell? ⟨g, j, none⟩ = some (.int .i64 ((ends l (j + 1) : Nat) : Int))) := by
  have h0 := h
  rcases h.2 with ⟨rfl, hz⟩ | ⟨g, cap, cur, rfl, h1, hg, hr⟩
  · exact ⟨none, 0, by rw [hz], Or.inl hz⟩
  · refine ⟨_, cap, rfl, Or.inr ⟨g, rfl, fun j hj => ?_⟩⟩
    rw [World.ownsRow.cellAt h0 j (by omega), eInts_at l k j hj]
theorem extract_whole (s : ByteArray) : s.extract 0 s.size = s := by
  apply bytesOf_inj; rw [bytesOf_extract, List.drop_zero, List.take_of_length_le (by rw [bytesOf_length]; exact Nat.le_refl _)]
theorem scn_cat (l : List ByteArray) (h : ∀ t ∈ l, t.size ≤ 65536) : scn (cat l) = (l, (cat l).size, 0) := by
  have := scn_cut l (cat l).size l.length h (Nat.le_refl _) (ends_le l _) (Nat.le_refl _) (fun h => absurd h (by omega))
  rw [extract_whole, List.take_length, ends_all, if_pos rfl] at this
  exact this
set_option maxRecDepth 10000 in
set_option maxHeartbeats 2000000 in
theorem FrameBack_any (L : List ByteArray) (A : Option Addr) (cap at_ : Nat) (w : World) (hL : StrsAt w A L) (hcap : L.length ≤ cap) (hlen : L.length ≤ 140737488351232) (hbig : ∀ t ∈ L, t.size ≤ 140737488351232) (hat : at_ < 65536) :
    Calls Try.prog 5 #[.slice A L.length cap, .int .u16 (at_ : Int)] w fun e w' => e = .returned (.bool true) ∧ Below w.heap.size w w' := by
  obtain ⟨i0, hi, hz0, hz1, hz2⟩ := info_parts info3
  have HI := hide (And.intro hi (And.intro hz0 (And.intro hz1 hz2)))
  have HL := hide hL
  have HBig := hide hbig
  clear hi hz0 hz1 hz2 hL hbig
  go_enter Try.func5, Try.ntmps5
  go_wp2_with fail
  go_loopw [5, 6, 7, 8, 9] (fun sv ev i _ _ wr => ∃ k : Nat, k ≤ L.length ∧ i = .int .i64 (k : Int) ∧ sv = .string (cat (L.take k)) ∧ ends L k ≤ 8200 ∧ (∀ t ∈ L.take k, t.size ≤ 65536) ∧ wr.ownsRow w.heap.size 3 1 ev k (eInts L k) ∧ Below w.heap.size w wr) (fun _ _ i _ _ _ => L.length - (intOf i).toNat)
  case atStart => exact ⟨0, Nat.zero_le _, rfl, rfl, by rw [ends_zero]; omega, by simp, World.ownsRow_nil _ _ _ _, Below.refl _ _⟩
  case round =>
    obtain ⟨k, hk, rfl, rfl, hek, hall, hown, hbl⟩ := hrel
    have hsz := hbl.size
    have HB := hide hbl
    have HO := hide hown
    have HA := hide hall
    have hmany := ends_many L k hk
    have hst := HL.out.below hbl
    have HST := hide hst
    clear hall hown hbl hst
    have hcs : (cat (L.take k)).size = ends L k := rfl
    by_cases hlt : k < L.length
    · obtain ⟨b, off, rfl, hc⟩ : ∃ b off, A = some ⟨b, off, none⟩ ∧ ∀ j (hj : j < L.length), wr.cell? ⟨b, off + j, none⟩ = some (.string L[j]) := by
        rcases HST.out with rfl | h
        · exact absurd hlt (by simp)
        · exact h
      have hck := hc k hlt
      have hts := HBig.out L[k] (List.getElem_mem hlt)
      have hnx := ends_next L k hlt
      have hct := cat_take L k hlt
      have HAt : Hid (L[k].size ≤ 65536 → ∀ t ∈ L.take (k + 1), t.size ≤ 65536) := fun h t ht => by
        rw [List.take_succ_eq_append_getElem hlt] at ht
        rcases List.mem_append.1 ht with h1 | h1
        · exact HA.out t h1
        · simp at h1; rw [h1]; exact h
      clear hc
      generalize hT : L[k] = T at *
      have HNX := hide hnx
      have HCT := hide hct
      clear hT hnx hct
      by_cases hg : 8192 < ends L k + T.size
      · have hgz : (8192 : Int) < ((ends L k : Nat) : Int) + (T.size : Int) := by omega
        have hcz : (((cat (L.take k)).size : Nat) : Int) = ((ends L k : Nat) : Int) := by rw [hcs]
        clear hcs
        generalize ends L k = E at *
        generalize cat (L.take k) = S at *
        go_wp2_with fail
        refine (alive_any _).mono ?_
        rintro e w1 ⟨rfl, hb⟩
        have HB1 := hide (bnext HB.out hb)
        clear hb
        go_wp2
        go_ret
        exact ⟨rfl, HB1.out⟩
      · have hgz : ¬ ((8192 : Int) < ((ends L k : Nat) : Int) + (T.size : Int)) := by omega
        have K1 := hide (fun u => frame_any T u (by omega))
        have hfs : (frm T).size = T.size + 8 := frm_size T
        have HNew : Hid ((cat (L.take k) ++ frm T).size = ends L (k + 1)) := by
          unfold Hid; rw [← HCT.out]; rfl
        have hcz : (((cat (L.take k)).size : Nat) : Int) = ((ends L k : Nat) : Int) := by rw [hcs]
        have hsnoc := eInts_snoc L k
        have HSn := hide hsnoc
        have HE1 : Hid ((((cat (L.take k) ++ frm T).size : Nat) : Int) = ((ends L (k + 1) : Nat) : Int)) := by unfold Hid; rw [HNew.out]
        clear hsnoc hcs
        generalize hE1 : ends L (k + 1) = E1 at *
        have HEE := hide hE1
        clear hE1
        generalize ends L k = E at *
        generalize cat (L.take k) = S at *
        generalize frm T = F at *
        have hS8 : S.size ≤ 8200 := by omega
        have hF8 : F.size ≤ 8200 := by omega
        go_wp2_with fail
        refine (K1.out _).mono ?_
        rintro e w1 ⟨rfl, hb⟩
        have HO1 := hide (own_keeps HO.out hb)
        have HB1 := hide (bnext HB.out hb)
        have hsz1 : w.heap.size ≤ w1.heap.size := Nat.le_trans hsz hb.size
        clear hb
        go_wp2_with (at_builtin; refine wpList_append_own _ rfl _ _ 44 rfl w.heap.size 3 i0 (.int .i64 0) 1 8 Try.underlying44 HI.out.1 HI.out.2.1 HI.out.2.2.1 HI.out.2.2.2 rfl (by decide) _ _ _ rfl (World.ownsRow.alloc HO1.out _) ⟨w1.heap.size, 0, none⟩ 1 1 [.int .i64 ((E : Int) + ((T.size : Int) + 8))] rfl rfl ?c1 ?c2 ?c3 ?c4 ?c5 ?_)
        case c1 =>
          intro j u hj
          match j, hj with
          | 0, hj => simp at hj; subst hj; simp [Addr.add, go_sem]
        case c2 => first | rfl | (intro u hu; simp at hu; subst hu; rfl)
        case c3 => unfold maxLen; omega
        case c4 => omega
        case c5 => first | omega | (simp; omega)
        · intro lv' w2 hown2 hgrow2 _
          rw [show (E : Int) + ((T.size : Int) + 8) = (E1 : Int) from by rw [HNX.out]; omega, HSn.out] at hown2
          have HO2 := hide hown2
          have HB2 := hide ((HB1.out.alloc hsz1 (.cells #[.int .i64 ((E : Int) + ((T.size : Int) + 8))] 3)).grown hgrow2 (by simp; omega) (fun j hj => (World.ownsRow.lt HO1.out j hj).1))
          have hE18 : E1 ≤ 8200 := by rw [HNX.out]; omega
          clear hown2 hgrow2
          go_wp2
          go_roundw
          case rel => exact ⟨k + 1, hlt, by go_num, by rw [HCT.out], by rw [HEE.out]; exact hE18, HAt.out (by omega), HO2.out, HB2.out⟩
          case measure => simp [intOf]; omega
    · have hke : k = L.length := by omega
      have hall := HA.out
      rw [hke, List.take_length] at hall
      have hcat : cat (L.take k) = cat L := by rw [hke, List.take_length]
      have hek2 : (cat L).size ≤ 8200 := by rw [← hcat]; exact hek
      have HO2 : Hid (wr.ownsRow w.heap.size 3 1 u6 L.length (eInts L L.length)) := by unfold Hid; rw [← hke]; exact HO.out
      have K2 := hide (fun u => scan_any (cat L) u (by omega))
      unfold Told at K2
      rw [scn_cat L hall] at K2
      have HCut : Hid (∀ c wh : Nat, wh ≤ L.length → ends L wh ≤ c → c ≤ (cat L).size → (∀ j, j ≤ L.length → ends L j ≤ c → j ≤ wh) → scn ((cat L).extract 0 c) = (L.take wh, ends L wh, if ends L wh = c then 0 else 40)) := fun c wh h1 h2 h3 h4 =>
        scn_cut L c wh hall h1 h2 h3 (fun hl => by
          by_cases hh : c < ends L (wh + 1)
          · exact hh
          · exact absurd (h4 (wh + 1) (by omega) (by omega)) (by omega))
      have HLC : Hid (ends L L.length = (cat L).size) := ends_all L
      clear hek hcs hmany HA HO hall
      rw [hcat]
      clear hcat
      subst hke
      generalize hS : cat L = S at *
      clear hS
      go_wp2_with fail
      refine (K2.out _).mono ?_
      rintro e w1 ⟨a, c, rfl, hst, hb⟩
      have HB1 := hide (bnext HB.out hb)
      have HO1 := hide (own_keeps HO2.out hb)
      have HS1 := hide hst
      have HS2 := hide (HST.out.below hb)
      clear hst hb
      go_wp2_with fail
      refine (same_any a A c cap L _ HS1.out HS2.out hlen).mono ?_
      rintro e w2 ⟨rfl, q, rfl⟩
      have hq := below_drewN (Below.refl w1.heap.size w1) q
      have HB2 := hide (bnext HB1.out hq)
      have HO3 := hide (own_keeps HO1.out hq)
      have HS3 := hide (HS2.out.below hq)
      clear hq HB1 HO1 HS1 HS2 HO2
      generalize w1.drewN q = w2 at *
      obtain ⟨a6, c6, rfl, hints⟩ := ints_of HO3.out
      have HIn := hide hints
      clear hints
      go_wp2_with fail
      obtain ⟨cut, hcut, hce⟩ : ∃ cut : Nat, cut ≤ S.size ∧ (at_ : Int) % ((S.size : Int) + 1) = (cut : Int) := by
        refine ⟨at_ % (S.size + 1), ?_, ?_⟩
        · have := Nat.mod_lt at_ (show S.size + 1 > 0 by omega); omega
        · rw [show ((S.size : Int) + 1) = ((S.size + 1 : Nat) : Int) from by omega]; exact (Int.natCast_emod _ _).symm
      rw [hce]
      clear hce
      go_loop [14, 15, 16] (fun wv gv i => ∃ k wh : Nat, k ≤ L.length ∧ i = .int .i64 (k : Int) ∧ wh ≤ k ∧ wv = .int .i64 (wh : Int) ∧ gv = .int .i64 ((ends L wh : Nat) : Int) ∧ ends L wh ≤ cut ∧ (∀ j, j ≤ k → ends L j ≤ cut → j ≤ wh)) (fun _ _ i => L.length - (intOf i).toNat)
      case atStart => exact ⟨0, 0, Nat.zero_le _, rfl, Nat.le_refl _, rfl, rfl, Nat.zero_le _, fun j hj _ => hj⟩
      case round =>
        obtain ⟨k, wh, hk2, rfl, hwk, rfl, rfl, hwc, hmax⟩ := hrel
        have HM := hide hmax
        clear hmax
        by_cases hlt2 : k < L.length
        · obtain ⟨g, rfl, hcell⟩ : ∃ g, a6 = some ⟨g, 0, none⟩ ∧ ∀ j, j < L.length → w2.cell? ⟨g, j, none⟩ = some (.int .i64 ((ends L (j + 1) : Nat) : Int)) := by
            rcases HIn.out with h | h
            · exact absurd hlt2 (by omega)
            · exact h
          have hck := hcell k hlt2
          clear hcell
          by_cases hle : ends L (k + 1) ≤ cut
          · have hlez : ((ends L (k + 1) : Nat) : Int) ≤ (cut : Int) := by omega
            go_wp2
            go_round
            case rel => exact ⟨k + 1, k + 1, hlt2, by go_num, Nat.le_refl _, by go_num, rfl, hle, fun j hj _ => hj⟩
            case measure => simp [intOf]; omega
          · have hlez : ¬ (((ends L (k + 1) : Nat) : Int) ≤ (cut : Int)) := by omega
            go_wp2
            go_round
            case rel => exact ⟨k + 1, wh, hlt2, by go_num, by omega, rfl, rfl, hwc, fun j hj hjc => by
              by_cases e : j = k + 1
              · rw [e] at hjc; exact absurd hjc hle
              · exact HM.out j (by omega) hjc⟩
            case measure => simp [intOf]; omega
        · have hke2 : k = L.length := by omega
          have hscn := HCut.out cut wh (by omega) hwc hcut (fun j hj hjc => HM.out j (by omega) hjc)
          have K3 := hide (fun u => scan_any (S.extract 0 cut) u (by rw [ByteArray.size_extract]; omega))
          unfold Told at K3
          rw [hscn] at K3
          clear hscn HM
          subst hke2
          have hwl : (wh : Int) ≤ (L.length : Int) := by omega
          have hcz : (cut : Int) ≤ (S.size : Int) := by omega
          generalize hgd : ends L wh = good at *
          clear hgd
          have hwn : (L.take wh).length = wh := by rw [List.length_take]; omega
          have HST3 : Hid (∀ u, Below w2.heap.size w2 u → StrsAt u A (L.take wh)) := fun u hu => (HS3.out.below hu).take wh
          rw [hwn] at K3
          by_cases hgc : good = cut
          · rw [if_pos hgc] at K3
            subst hgc
            go_wp2_with fail
            refine (K3.out _).mono ?_
            rintro e w3 ⟨a3, c3, rfl, hst, hb⟩
            have HB3 := hide (bnext HB2.out hb)
            have HSame := hide (same_any a3 A c3 cap (L.take wh) w3 hst (HST3.out _ hb) (by omega))
            rw [hwn] at HSame
            clear hst hb
            go_wp2_with fail
            refine HSame.out.mono ?_
            rintro e w4 ⟨rfl, q4, rfl⟩
            have HB4 := hide (below_drewN HB3.out q4)
            clear HB3 HSame
            generalize w3.drewN q4 = w4 at *
            go_wp2_with fail
            refine (alive_any _).mono ?_
            rintro e w5 ⟨rfl, hb5⟩
            have HB5 := hide (bnext HB4.out hb5)
            clear hb5
            go_wp2
            go_ret
            exact ⟨rfl, HB5.out⟩
          · rw [if_neg hgc] at K3
            have hgz : ¬ ((good : Int) = (cut : Int)) := by omega
            go_wp2_with fail
            refine (K3.out _).mono ?_
            rintro e w3 ⟨a3, c3, rfl, hst, hb⟩
            have HB3 := hide (bnext HB2.out hb)
            have HSame := hide (same_any a3 A c3 cap (L.take wh) w3 hst (HST3.out _ hb) (by omega))
            rw [hwn] at HSame
            clear hst hb
            go_wp2_with fail
            refine HSame.out.mono ?_
            rintro e w4 ⟨rfl, q4, rfl⟩
            have HB4 := hide (below_drewN HB3.out q4)
            clear HB3 HSame
            generalize w3.drewN q4 = w4 at *
            go_wp2_with fail
            refine (alive_any _).mono ?_
            rintro e w5 ⟨rfl, hb5⟩
            have HB5 := hide (bnext HB4.out hb5)
            clear hb5
            go_wp2
            go_ret
            exact ⟨congrArg (fun x => Ending.returned (.bool x)) (show (!((good : Int) == (cut : Int))) = true by simpa using hgz), HB5.out⟩
end Go.Proofs.Ytnmbojgjefhoaaa
