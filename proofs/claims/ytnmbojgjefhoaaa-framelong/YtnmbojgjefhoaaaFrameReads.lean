/- The law FrameReads, walked. -/
import Derived.Test.YtnmbojgjefhoaaaAlive
namespace Go.Proofs.Ytnmbojgjefhoaaa
open Go Go.RowKit
set_option maxRecDepth 10000 in
set_option maxHeartbeats 1000000 in
theorem FrameReads_any (t s : ByteArray) (w : World) (ht : t.size ≤ 140737488351232) (hs : s.size ≤ 140737488351232) :
    Calls Try.prog 3 #[.string t, .string s] w fun e w' => e = .returned (.bool true) ∧ Below w.heap.size w w' := by
  by_cases h1 : 4096 < t.size
  · have hz : (4096 : Int) < (t.size : Int) := by omega
    go_enter Try.func3, Try.ntmps3
    go_wp2_with fail
    refine (alive_any _).mono ?_
    rintro e w1 ⟨rfl, hb⟩
    have HB := hide hb
    clear hb
    go_wp2
    go_ret
    exact ⟨rfl, HB.out⟩
  · have hz1 : ¬ ((4096 : Int) < (t.size : Int)) := by omega
    by_cases h2 : 4096 < s.size
    · have hz : (4096 : Int) < (s.size : Int) := by omega
      go_enter Try.func3, Try.ntmps3
      go_wp2_with fail
      refine (alive_any _).mono ?_
      rintro e w1 ⟨rfl, hb⟩
      have HB := hide hb
      clear hb
      go_wp2
      go_ret
      exact ⟨rfl, HB.out⟩
    · have hz2 : ¬ ((4096 : Int) < (s.size : Int)) := by omega
      have K1 := hide (fun u => frame_any t u (by omega))
      have K2 := hide (fun u => refFrame_any t u (by omega))
      have K3 := hide (fun u => read_any s u (by omega))
      have K4 := hide (fun u => refRead_any s u (by omega))
      have K5 := hide (fun u => scan_any s u (by omega))
      have K6 := hide (fun u => refScan_any s u (by omega))
      have HL := hide (scn_bound s.size s (Nat.le_refl _)).2
      unfold Told at K5 K6
      generalize frm t = ft at *
      generalize (rdf s).1 = r1 at *
      generalize (rdf s).2.1 = r2 at *
      generalize (rdf s).2.2 = r3 at *
      generalize (scn s).1 = c1 at *
      generalize (scn s).2.1 = c2 at *
      generalize (scn s).2.2 = c3 at *
      go_enter Try.func3, Try.ntmps3
      go_wp2_with fail
      refine (K1.out _).mono ?_
      rintro e w1 ⟨rfl, hb⟩
      have HB1 := hide hb
      clear hb
      go_wp2_with fail
      refine (K2.out _).mono ?_
      rintro e w2 ⟨rfl, hb⟩
      have HB2 := hide (bnext HB1.out hb)
      clear hb HB1
      go_wp2_with fail
      refine (K3.out _).mono ?_
      rintro e w3 ⟨rfl, hb⟩
      have HB3 := hide (bnext HB2.out hb)
      clear hb HB2
      go_wp2_with fail
      refine (K4.out _).mono ?_
      rintro e w4 ⟨rfl, hb⟩
      have HB4 := hide (bnext HB3.out hb)
      clear hb HB3
      go_wp2_with fail
      refine (K5.out _).mono ?_
      rintro e w5 ⟨a, c, rfl, hst, hb⟩
      have HB5 := hide (bnext HB4.out hb)
      have HS5 := hide hst
      clear hb HB4 hst
      go_wp2_with fail
      refine (K6.out _).mono ?_
      rintro e w6 ⟨a', c', rfl, hst, hb⟩
      have HB6 := hide (bnext HB5.out hb)
      have HS6 := hide (HS5.out.below hb)
      have HS7 := hide hst
      clear hb HB5 hst HS5
      go_wp2_with fail
      refine (same_any a a' c c' c1 _ HS6.out HS7.out (by have := HL.out; omega)).mono ?_
      rintro e w7 ⟨rfl, q, rfl⟩
      have HB7 := hide (below_drewN HB6.out q)
      clear HB6
      go_wp2_with fail
      refine (alive_any _).mono ?_
      rintro e w8 ⟨rfl, hb⟩
      have HB8 := hide (bnext HB7.out hb)
      clear hb HB7
      go_wp2
      go_ret
      exact ⟨rfl, HB8.out⟩
end Go.Proofs.Ytnmbojgjefhoaaa
