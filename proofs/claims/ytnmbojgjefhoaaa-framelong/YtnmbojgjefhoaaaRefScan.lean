/- What the document's own Scan does. -/
import Derived.Test.YtnmbojgjefhoaaaSame
namespace Go.Proofs.Ytnmbojgjefhoaaa
open Go Go.RowKit
theorem own_base {w : World} {base : Nat} {v : Value} {l : List ByteArray} (h : OwnL w base v l) : ∀ j, v.ownBlock = some j → base ≤ j := fun j hj => (World.ownsRow.lt h j hj).1
theorem map_snoc (l : List ByteArray) (t : ByteArray) : l.map Value.string ++ [.string t] = (l ++ [t]).map Value.string := by simp
theorem extract_all (s : ByteArray) : s.extract 0 s.size = s := by
  apply bytesOf_inj; rw [bytesOf_extract, List.drop_zero, List.take_of_length_le (by rw [bytesOf_length]; exact Nat.le_refl _)]
theorem extract_extract (s : ByteArray) (g k : Nat) : (s.extract g s.size).extract k (s.extract g s.size).size = s.extract (g + k) s.size := by
  apply bytesOf_inj
  rw [bytesOf_extract, bytesOf_extract, bytesOf_extract, ByteArray.size_extract, Nat.min_self]
  rw [List.take_of_length_le (l := bytesOf s) (by rw [bytesOf_length]; exact Nat.le_refl _)]
  rw [List.take_of_length_le (by rw [List.length_drop, bytesOf_length]; exact Nat.le_refl _), List.drop_drop]
/-- What Scan tells. -/
def Told (s : ByteArray) (w : World) (e : Ending) (w' : World) : Prop :=
  ∃ a c, e = .returned (.tuple #[.slice a (scn s).1.length c, .int .i64 (((scn s).2.1 : Nat) : Int), .int .i64 (((scn s).2.2 : Nat) : Int)]) ∧ StrsAt w' a (scn s).1 ∧ Below w.heap.size w w'
theorem Told.mk {s : ByteArray} {w w' : World} {l : List ByteArray} {g x : Nat} (hs : scn s = (l, g, x)) (a : Option Addr) (c : Nat) (hst : StrsAt w' a l) (hb : Below w.heap.size w w') :
    Told s w (.returned (.tuple #[.slice a l.length c, .int .i64 (g : Int), .int .i64 (x : Int)])) w' := by
  refine ⟨a, c, ?_, ?_, hb⟩
  · rw [hs]
  · rw [hs]; exact hst
set_option maxRecDepth 10000 in
set_option maxHeartbeats 2000000 in
theorem refScan_any (s : ByteArray) (w : World) (hs : s.size ≤ 65536) :
    Calls Try.prog 13 #[.string s] w (Told s w) := by
  obtain ⟨i0, hi, hz0, hz1, hz2⟩ := info_parts (P := Try.prog) (e := 9) (z := .string ⟨#[]⟩) (size := 1) (bytes := 16) (by kernel_rfl)
  have HI := hide (And.intro hi (And.intro hz0 (And.intro hz1 hz2)))
  clear hi hz0 hz1 hz2
  go_enter Try.func13, Try.ntmps13
  go_wp2_with fail
  go_loopw [5, 6, 7, 8, 9] (fun lv i _ _ _ wr => ∃ (g : Nat) (pre : List ByteArray), i = .int .i64 (g : Int) ∧ g ≤ s.size ∧ pre.length ≤ g ∧
      scn s = (pre ++ (scn (s.extract g s.size)).1, g + (scn (s.extract g s.size)).2.1, (scn (s.extract g s.size)).2.2) ∧ OwnL wr w.heap.size lv pre ∧ Below w.heap.size w wr) (fun _ i _ _ _ _ => s.size - (intOf i).toNat)
  case atStart => exact ⟨0, [], rfl, Nat.zero_le _, Nat.le_refl _, by rw [extract_all]; simp, World.ownsRow_nil _ _ _ _, Below.refl _ _⟩
  case round =>
    obtain ⟨g, pre, rfl, hg, hpl, hscn, hown, hbl⟩ := hrel
    by_cases hlt : g < s.size
    · have hgz : (g : Int) < (s.size : Int) := by omega
      have hne : (s.extract g s.size).size ≠ 0 := by rw [ByteArray.size_extract]; omega
      have KR := hide (fun u => refRead_any (s.extract g s.size) u (by rw [ByteArray.size_extract]; omega))
      have hsz := hbl.size
      have HO := hide hown
      have HB := hide hbl
      clear hown hbl
      by_cases he : (rdf (s.extract g s.size)).2.2 = 0
      · have hok := rdf_ok _ he
        rw [ByteArray.size_extract] at hok
        rw [scn_ok _ hne he, extract_extract s g _] at hscn
        have HS := hide hscn
        clear hscn
        rw [he] at KR
        generalize (rdf (s.extract g s.size)).1 = t at *
        generalize (rdf (s.extract g s.size)).2.1 = k at *
        clear he hne
        go_wp2_with fail
        refine (KR.out _).mono ?_
        rintro e w1 ⟨rfl, hb⟩
        have HO1 := hide (HO.out.below hb)
        have HB1 := hide (bnext HB.out hb)
        have hsz1 : w.heap.size ≤ w1.heap.size := Nat.le_trans hsz hb.size
        clear hb
        go_wp2_with (at_builtin; refine wpList_append_own _ rfl _ _ 32 rfl w.heap.size 9 i0 (.string ⟨#[]⟩) 1 16 Try.underlying32 HI.out.1 HI.out.2.1 HI.out.2.2.1 HI.out.2.2.2 rfl (by decide) _ _ _ rfl (World.ownsRow.alloc HO1.out _) ⟨w1.heap.size, 0, none⟩ 1 1 [.string t] rfl rfl ?c1 ?c2 ?c3 ?c4 ?c5 ?_)
        case c1 =>
          intro j u hj
          match j, hj with
          | 0, hj => simp at hj; subst hj; simp [Addr.add, go_sem]
        case c2 => first | rfl | (intro u hu; simp at hu; subst hu; rfl)
        case c3 => unfold maxLen; omega
        case c4 => omega
        case c5 => first | omega | (simp; omega)
        · intro lv' w2 hown2 hgrow2 _
          rw [map_snoc] at hown2
          have HO2 : Hid (OwnL w2 w.heap.size lv' (pre ++ [t])) := by
            unfold Hid OwnL; rw [List.length_append]; exact hown2
          have HB2 := hide ((HB1.out.alloc hsz1 (.cells #[.string t] 9)).grown hgrow2 (by simp; omega) (own_base HO1.out))
          clear hown2 hgrow2
          go_wp2
          go_roundw
          case rel => exact ⟨g + k, pre ++ [t], by go_num, by omega, by simp; omega, by rw [HS.out]; simp [Nat.add_assoc], HO2.out, HB2.out⟩
          case measure => simp [intOf]; omega
      · rw [scn_err _ hne he, List.append_nil, Nat.add_zero] at hscn
        have HS := hide hscn
        clear hscn
        have hez : ¬ ((((rdf (s.extract g s.size)).2.2 : Nat) : Int) = 0) := by omega
        generalize (rdf (s.extract g s.size)).1 = t at *
        generalize (rdf (s.extract g s.size)).2.1 = k at *
        generalize (rdf (s.extract g s.size)).2.2 = x at *
        clear he hne
        obtain ⟨a0, c0, rfl, hst⟩ := HO.out.strs
        have HST := hide hst
        clear hst
        go_wp2_with fail
        refine (KR.out _).mono ?_
        rintro e w1 ⟨rfl, hb⟩
        have HST1 := hide (HST.out.below hb)
        have HB1 := hide (bnext HB.out hb)
        clear hb
        go_wp2
        go_ret3
        exact Told.mk HS.out a0 c0 HST1.out HB1.out
    · have hge : g = s.size := by omega
      subst hge
      rw [scn_nil (s.extract s.size s.size) (by rw [ByteArray.size_extract]; omega), List.append_nil, Nat.add_zero] at hscn
      have HS := hide hscn
      clear hscn
      obtain ⟨a0, c0, rfl, hst⟩ := hown.strs
      have HST := hide hst
      have HB := hide hbl
      clear hst hown hbl
      go_wp2
      go_ret3
      exact Told.mk HS.out a0 c0 HST.out HB.out
end Go.Proofs.Ytnmbojgjefhoaaa
