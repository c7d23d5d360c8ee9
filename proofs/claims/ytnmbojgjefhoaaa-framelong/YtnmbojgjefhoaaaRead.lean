/- What Read does, and the document's own. -/
import Derived.Test.YtnmbojgjefhoaaaFrame
import Derived.Test.YtnmbojgjefhoaaaClone
import Derived.Deep.RegionHeld3
namespace Go.Proofs.Ytnmbojgjefhoaaa
open Go Go.RowKit
theorem ret_three {t u : ByteArray} {a b c d : Int} (ht : t = u) (h : a = b) (k : c = d) : Ending.returned (.tuple #[.string t, .int .i64 a, .int .i64 c]) = .returned (.tuple #[.string u, .int .i64 b, .int .i64 d]) := by rw [ht, h, k]
set_option maxRecDepth 10000 in
set_option maxHeartbeats 1000000 in
theorem read_any (s : ByteArray) (w : World) (hs : s.size ≤ 140737488351232) :
    Calls Try.prog 10 #[.string s] w fun e w' => e = .returned (.tuple #[.string (rdf s).1, .int .i64 (((rdf s).2.1 : Nat) : Int), .int .i64 (((rdf s).2.2 : Nat) : Int)]) ∧ Below w.heap.size w w' := by
  by_cases h4 : s.size < 4
  · have HR : Hid (rdf s = (⟨#[]⟩, 0, 40)) := by unfold Hid rdf; rw [if_pos h4]
    have hz : (s.size : Int) < 4 := by omega
    clear h4
    go_enter Try.func10, Try.ntmps10
    go_wp2
    go_ret3
    exact ⟨by rw [HR.out]; rfl, Below.refl _ _⟩
  · have hz4 : ¬ ((s.size : Int) < 4) := by omega
    have hml : s.size ≤ maxLen := by unfold maxLen; omega
    have KN := hide (fun u => numberOf_any s u (by omega) hml)
    have hnl : num4 (bytesOf s) < 4294967296 := num4_lt _ (bytesOf_lt s)
    by_cases hl : 65536 < num4 (bytesOf s)
    · have HR : Hid (rdf s = (⟨#[]⟩, 0, 4)) := by unfold Hid rdf; rw [if_neg h4, if_pos hl]
      generalize num4 (bytesOf s) = k at *
      have hz : (65536 : Int) < (k : Int) := by omega
      clear h4 hl
      go_enter Try.func10, Try.ntmps10
      go_wp2_with fail
      refine (KN.out _).mono ?_
      rintro e w1 ⟨rfl, n, rfl⟩
      go_wp2
      go_ret3
      exact ⟨by rw [HR.out]; rfl, below_drewN (Below.refl _ _) _⟩
    · by_cases ht : s.size < num4 (bytesOf s) + 8
      · have HR : Hid (rdf s = (⟨#[]⟩, 0, 40)) := by unfold Hid rdf; rw [if_neg h4, if_neg hl, if_pos ht]
        generalize num4 (bytesOf s) = k at *
        have hz : ¬ ((65536 : Int) < (k : Int)) := by omega
        have hz2 : (s.size : Int) < (k : Int) + 8 := by omega
        clear h4 hl
        go_enter Try.func10, Try.ntmps10
        go_wp2_with fail
        refine (KN.out _).mono ?_
        rintro e w1 ⟨rfl, n, rfl⟩
        go_wp2
        go_ret3
        exact ⟨by rw [HR.out]; rfl, below_drewN (Below.refl _ _) _⟩
      · have hk : num4 (bytesOf s) + 4 ≤ s.size := by omega
        have e1 : bytesOf (s.extract 0 (num4 (bytesOf s) + 4)) = (bytesOf s).take (num4 (bytesOf s) + 4) := by rw [bytesOf_extract, List.drop_zero]
        have e2 : bytesOf (s.extract (num4 (bytesOf s) + 4) s.size) = (bytesOf s).drop (num4 (bytesOf s) + 4) := by
          rw [bytesOf_extract, List.take_of_length_le (by rw [bytesOf_length]; exact Nat.le_refl _)]
        have KO := hide (fun u => of_any (s.extract 0 (num4 (bytesOf s) + 4)) u (by rw [ByteArray.size_extract]; omega))
        have KM := hide (fun u => numberOf_any (s.extract (num4 (bytesOf s) + 4) s.size) u (by rw [ByteArray.size_extract]; omega) (by rw [ByteArray.size_extract]; omega))
        rw [e1] at KO
        rw [e2] at KM
        have KC := hide (fun u => clone_any (s.extract 4 (num4 (bytesOf s) + 4)) u (by rw [ByteArray.size_extract]; omega))
        have HR : Hid (rdf s = if more 0 ((bytesOf s).take (num4 (bytesOf s) + 4)) ≠ num4 ((bytesOf s).drop (num4 (bytesOf s) + 4)) then (⟨#[]⟩, 0, 41) else (s.extract 4 (num4 (bytesOf s) + 4), num4 (bytesOf s) + 8, 0)) := by unfold Hid rdf; rw [if_neg h4, if_neg hl, if_neg ht]
        generalize more 0 ((bytesOf s).take (num4 (bytesOf s) + 4)) = a at *
        generalize num4 ((bytesOf s).drop (num4 (bytesOf s) + 4)) = b at *
        clear e1 e2
        generalize num4 (bytesOf s) = k at *
        obtain ⟨m, hm⟩ : ∃ m : Nat, m = k + 4 := ⟨_, rfl⟩
        rw [← hm] at KO KM KC HR hk
        have hz : ¬ ((65536 : Int) < (k : Int)) := by omega
        have hz2 : ¬ ((s.size : Int) < (k : Int) + 8) := by omega
        have HMZ : Hid ((4 : Int) + (k : Int) = (m : Int)) := by unfold Hid; omega
        have hz5 : (m : Int) ≤ (s.size : Int) := by omega
        have hz6 : (4 : Int) ≤ (m : Int) := by omega
        clear h4 hl hm
        go_enter Try.func10, Try.ntmps10
        go_wp2_with fail
        refine (KN.out _).mono ?_
        rintro e w1 ⟨rfl, n, rfl⟩
        go_wp2_with fail
        rw [HMZ.out]
        have HB0 := hide (below_drewN (Below.refl w.heap.size w) n)
        generalize w.drewN n = W at *
        go_region_held3 (fun u => Below w.heap.size w u) (first | (with_reducible exact HB0.out.drew) | ((with_reducible refine bnext ?_ hb2); with_reducible assumption) | ((with_reducible refine below_drewN ?_ n3); with_reducible assumption) | (with_reducible assumption))
          (first
          | (go_at_call 16; refine (KO.out _).mono ?_; rintro e w2 ⟨rfl, hb2⟩)
          | (go_at_call 19; refine (KM.out _).mono ?_; rintro e w3 ⟨rfl, n3, rfl⟩))
        all_goals
          rename_i hHeld
          have HH := hide hHeld
          clear hHeld
          by_cases hab : a = b
          · subst hab
            have hne : (((a : Int) != (a : Int)) = true) = False := by simp
            go_wp2_with fail
            refine (KC.out _).mono ?_
            rintro e w4 ⟨rfl, hb4⟩
            have HB4 := hide (bnext HH.out hb4)
            clear hb4
            go_wp2
            go_ret3
            exact ⟨by rw [HR.out, if_neg (by simp)]; exact ret_three rfl (by have h := HMZ.out; show (m : Int) + 4 = ((k + 8 : Nat) : Int); omega) rfl, HB4.out⟩
          · have hne : ¬ ((a : Int) = (b : Int)) := by omega
            have hneb : ((a : Int) != (b : Int)) = true := by simpa using hne
            go_wp2
            go_ret3
            exact ⟨by rw [HR.out, if_pos hab]; rfl, HH.out⟩
set_option maxRecDepth 10000 in
set_option maxHeartbeats 1000000 in
theorem refRead_any (s : ByteArray) (w : World) (hs : s.size ≤ 140737488351232) :
    Calls Try.prog 11 #[.string s] w fun e w' => e = .returned (.tuple #[.string (rdf s).1, .int .i64 (((rdf s).2.1 : Nat) : Int), .int .i64 (((rdf s).2.2 : Nat) : Int)]) ∧ Below w.heap.size w w' := by
  by_cases h4 : s.size < 4
  · have HR : Hid (rdf s = (⟨#[]⟩, 0, 40)) := by unfold Hid rdf; rw [if_pos h4]
    have hz : (s.size : Int) < 4 := by omega
    clear h4
    go_enter Try.func11, Try.ntmps11
    go_wp2
    go_ret3
    exact ⟨by rw [HR.out]; rfl, Below.refl _ _⟩
  · have hz4 : ¬ ((s.size : Int) < 4) := by omega
    have hml : s.size ≤ maxLen := by unfold maxLen; omega
    have KN := hide (fun u => refNumber_any s u (by omega) hml)
    have hnl : num4 (bytesOf s) < 4294967296 := num4_lt _ (bytesOf_lt s)
    by_cases hl : 65536 < num4 (bytesOf s)
    · have HR : Hid (rdf s = (⟨#[]⟩, 0, 4)) := by unfold Hid rdf; rw [if_neg h4, if_pos hl]
      generalize num4 (bytesOf s) = k at *
      have hz : (65536 : Int) < (k : Int) := by omega
      clear h4 hl
      go_enter Try.func11, Try.ntmps11
      go_wp2_with fail
      refine (KN.out _).mono ?_
      rintro e w1 ⟨rfl, n, rfl⟩
      go_wp2
      go_ret3
      exact ⟨by rw [HR.out]; rfl, below_drewN (Below.refl _ _) _⟩
    · by_cases ht : s.size < num4 (bytesOf s) + 8
      · have HR : Hid (rdf s = (⟨#[]⟩, 0, 40)) := by unfold Hid rdf; rw [if_neg h4, if_neg hl, if_pos ht]
        generalize num4 (bytesOf s) = k at *
        have hz : ¬ ((65536 : Int) < (k : Int)) := by omega
        have hz2 : (s.size : Int) < (k : Int) + 8 := by omega
        clear h4 hl
        go_enter Try.func11, Try.ntmps11
        go_wp2_with fail
        refine (KN.out _).mono ?_
        rintro e w1 ⟨rfl, n, rfl⟩
        go_wp2
        go_ret3
        exact ⟨by rw [HR.out]; rfl, below_drewN (Below.refl _ _) _⟩
      · have hk : num4 (bytesOf s) + 4 ≤ s.size := by omega
        have e1 : bytesOf (s.extract 0 (num4 (bytesOf s) + 4)) = (bytesOf s).take (num4 (bytesOf s) + 4) := by rw [bytesOf_extract, List.drop_zero]
        have e2 : bytesOf (s.extract (num4 (bytesOf s) + 4) s.size) = (bytesOf s).drop (num4 (bytesOf s) + 4) := by
          rw [bytesOf_extract, List.take_of_length_le (by rw [bytesOf_length]; exact Nat.le_refl _)]
        have KO := hide (fun u => refOf_any (s.extract 0 (num4 (bytesOf s) + 4)) u (by rw [ByteArray.size_extract]; omega))
        have KM := hide (fun u => refNumber_any (s.extract (num4 (bytesOf s) + 4) s.size) u (by rw [ByteArray.size_extract]; omega) (by rw [ByteArray.size_extract]; omega))
        change Hid (∀ u, Calls Try.prog 18 #[.string (s.extract 0 (num4 (bytesOf s) + 4))] u fun e w1 => e = .returned (.int .u32 ((more 0 (bytesOf (s.extract 0 (num4 (bytesOf s) + 4))) : Nat) : Int)) ∧ w1 = u) at KO
        rw [e1] at KO
        rw [e2] at KM
        have HR : Hid (rdf s = if more 0 ((bytesOf s).take (num4 (bytesOf s) + 4)) ≠ num4 ((bytesOf s).drop (num4 (bytesOf s) + 4)) then (⟨#[]⟩, 0, 41) else (s.extract 4 (num4 (bytesOf s) + 4), num4 (bytesOf s) + 8, 0)) := by unfold Hid rdf; rw [if_neg h4, if_neg hl, if_neg ht]
        generalize more 0 ((bytesOf s).take (num4 (bytesOf s) + 4)) = a at *
        generalize num4 ((bytesOf s).drop (num4 (bytesOf s) + 4)) = b at *
        clear e1 e2
        generalize num4 (bytesOf s) = k at *
        have hz : ¬ ((65536 : Int) < (k : Int)) := by omega
        have hz2 : ¬ ((s.size : Int) < (k : Int) + 8) := by omega
        obtain ⟨m, hm⟩ : ∃ m : Nat, m = k + 4 := ⟨_, rfl⟩
        rw [← hm] at KO KM HR hk
        have HMZ : Hid ((k : Int) + 4 = (m : Int)) := by unfold Hid; omega
        have hz5 : (m : Int) ≤ (s.size : Int) := by omega
        have hz6 : (4 : Int) ≤ (m : Int) := by omega
        clear h4 hl hm
        go_enter Try.func11, Try.ntmps11
        go_wp2_with fail
        refine (KN.out _).mono ?_
        rintro e w1 ⟨rfl, n, rfl⟩
        go_wp2_with fail
        have HB0 := hide (below_drewN (Below.refl w.heap.size w) n)
        generalize w.drewN n = W at *
        have hw : IntKind.i64.wrap ((k : Int) + 4) = (m : Int) := by rw [IntKind.wrap_i64, HMZ.out]; omega
        go_region_held3 (fun u => Below w.heap.size w u) (first | (with_reducible exact HB0.out.drew) | (with_reducible exact below_drewN HB0.out _) | ((with_reducible refine below_drewN ?_ n3); with_reducible assumption) | (with_reducible assumption))
          (first
          | (go_at_call 18; refine (KO.out _).mono ?_; rintro e w2 ⟨rfl, rfl⟩)
          | (go_at_call 21; refine (KM.out _).mono ?_; rintro e w3 ⟨rfl, n3, rfl⟩))
        all_goals
          rename_i hHeld
          have HH := hide hHeld
          clear hHeld
          by_cases hab : a = b
          · subst hab
            have hne : (((a : Int) != (a : Int)) = true) = False := by simp
            clear hw
            go_wp2_with (rw [HMZ.out])
            go_ret3
            exact ⟨by rw [HR.out, if_neg (by simp)]; rfl, HH.out⟩
          · have hne : ¬ ((a : Int) = (b : Int)) := by omega
            have hneb : ((a : Int) != (b : Int)) = true := by simpa using hne
            go_wp2
            go_ret3
            exact ⟨by rw [HR.out, if_pos hab]; rfl, HH.out⟩
end Go.Proofs.Ytnmbojgjefhoaaa
