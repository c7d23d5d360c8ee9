/- The program's disk meets the contracts. The program's checkpoints: its small functions. -/
import Derived.Test.YtchhojkhfdkhfaaGreatDoorK08
import Derived.Test.YtchhojkhfdkhfaaGreatDoorK22
import Derived.Test.YtchhojkhfdkhfaaGreatDoorK09
import Derived.Test.YtchhojkhfdkhfaaGreatDoorK17
import Derived.Test.YtchhojkhfdkhfaaGreatDoorK00
import Derived.Laws.BitsAllLaws
namespace Go.Proofs.YtchhojkhfdkhfaaGreatDoor
open Go Go.RowKit
/-- The program's disk lies at block p, is st, and its blocks are F. -/
def DAt (u : World) (p : Nat) (st : St) (F : Nat → Prop) : Prop := ∃ vS vL x, F = DF p vS vL ∧ PAt u p vS vL x st
theorem stays {u v : World} (h : v = u) : Below u.heap.size u v := by rw [h]; exact Below.refl _ _
theorem con : Con DAt where
  lt := by
    rintro u p st F ⟨vS, vL, x, rfl, h⟩ k hk
    exact h.lt k hk
  same := by
    rintro u v p st F ⟨vS, vL, x, rfl, h⟩ hb
    exact ⟨vS, vL, x, rfl, h.same hb⟩
  new := by
    intro n u h1 h2
    refine (pNew n u h1 h2).mono ?_
    rintro e v ⟨p, vS, vL, x, rfl, h, hF, hb⟩
    exact ⟨p, _, rfl, ⟨vS, vL, x, rfl, h⟩, hF, hb⟩
  newNot := by
    intro n u _ hn
    refine (pNew_not n u hn).mono ?_
    rintro e v ⟨rfl, hv⟩
    exact ⟨rfl, stays hv⟩
  size := by
    rintro p st F u ⟨vS, vL, x, rfl, h⟩ _
    refine (pSize p vS vL x st u h).mono ?_
    rintro e v ⟨rfl, hv⟩
    exact ⟨rfl, stays hv⟩
  read := by
    rintro p st F b u ⟨vS, vL, x, rfl, h⟩ hok hl _
    exact pRead p vS vL x st b u h hok hl
  write := by
    rintro p st F b d u ⟨vS, vL, x, rfl, h⟩ hok hl _ _
    refine (pWrite p vS vL x st b d u h hok hl).mono ?_
    rintro e v ⟨rfl, vL', y, h2, l2⟩
    exact ⟨rfl, _, ⟨vS, vL', y, rfl, h2⟩, l2⟩
  sync := by
    rintro p st F u ⟨vS, vL, x, rfl, h⟩ hok hl
    refine (pSync p vS vL x st u h hok hl).mono ?_
    rintro e v ⟨rfl, vL', y, h2, l2⟩
    exact ⟨rfl, _, ⟨vS, vL', y, rfl, h2⟩, l2⟩
  fuse := by
    rintro p st F n u ⟨vS, vL, x, rfl, h⟩ hok hn
    refine (pFuse p vS vL x st n u h hok hn).mono ?_
    rintro e v ⟨rfl, h2, l2⟩
    exact ⟨rfl, _, ⟨vS, vL, n, rfl, h2⟩, l2⟩
  crash := by
    rintro p st F a c picks u ⟨vS, vL, x, rfl, h⟩ hok hl hP hap hpl hpi
    refine (pCrash p vS vL x st a c picks u h hok hl hP hap hpl hpi).mono ?_
    rintro e v ⟨rfl, vL', y, h2, l2⟩
    exact ⟨rfl, _, ⟨vS, vL', y, rfl, h2⟩, l2⟩
  loose := by
    rintro p st F u ⟨vS, vL, x, rfl, h⟩ hok hl
    exact pLoose p vS vL x st u h hok hl
  sure := by
    rintro p st F u ⟨vS, vL, x, rfl, h⟩ hok
    exact pSure p vS vL x st u h hok
  nread := by
    intro b u
    refine (nRead b u).mono ?_
    rintro e v ⟨rfl, hv⟩
    exact ⟨rfl, stays hv⟩
  nwrite := by
    intro b s u
    refine (nWrite b s u).mono ?_
    rintro e v ⟨rfl, hv⟩
    exact ⟨rfl, stays hv⟩
  nsync := by
    intro u
    refine (nSync u).mono ?_
    rintro e v ⟨rfl, hv⟩
    exact ⟨rfl, stays hv⟩
  nfuse := by
    intro n u
    refine (nFuse n u).mono ?_
    rintro e v ⟨rfl, hv⟩
    exact ⟨rfl, stays hv⟩
  ncrash := by
    intro u
    refine (nCrash u).mono ?_
    rintro e v ⟨rfl, hv⟩
    exact ⟨rfl, stays hv⟩
  nsize := by
    intro u
    refine (nSize u).mono ?_
    rintro e v ⟨rfl, hv⟩
    exact ⟨rfl, stays hv⟩
  nloose := by
    intro u
    refine (nLoose u).mono ?_
    rintro e v ⟨rfl, hv⟩
    exact ⟨none, 0, rfl, stays hv⟩
  nsure := by
    intro u
    refine (nSure u).mono ?_
    rintro e v ⟨rfl, hv⟩
    exact ⟨rfl, stays hv⟩
end Go.Proofs.YtchhojkhfdkhfaaGreatDoor
namespace Go.Proofs.YtchhojkhfdkhfaaGreatDoor
open Go Go.RowKit Frm
theorem tmod2 {n : Int} (h : 0 ≤ n) : Int.tmod n 2 = n % 2 := Int.tmod_eq_emod_of_nonneg h
theorem tdiv2 {n : Int} (h : 0 ≤ n) : Int.tdiv n 2 = n / 2 := Int.tdiv_eq_ediv_of_nonneg h
set_option maxHeartbeats 400000 in
theorem room_any7 (n : Int) (w : World) (hn : -9223372036854775808 ≤ n ∧ n ≤ 9223372036854775807) :
    Calls Tryz.prog 87 #[.int .i64 n] w fun e w' => e = .returned (.int .i64 (room n)) ∧ w' = w := by
  by_cases h1 : n < 4
  · have hr : room n = 0 := by unfold room; rw [if_pos (Or.inl h1)]
    rw [hr]
    have HN := hide hn
    clear hn hr
    go_enter Tryz.func87, Tryz.ntmps87
    go_wp2
    go_ret
    exact ⟨rfl, rfl⟩
  · by_cases h2 : 4096 < n
    · have hr : room n = 0 := by unfold room; rw [if_pos (Or.inr (Or.inl h2))]
      rw [hr]
      have HN := hide hn
      clear hn hr
      go_enter Tryz.func87, Tryz.ntmps87
      go_wp2
      go_ret
      exact ⟨rfl, rfl⟩
    · have ht := tmod2 (n := n) (by omega)
      have hq := tdiv2 (n := n) (by omega)
      by_cases h3 : n % 2 = 0
      · have hr : room n = (n / 2 - 1) * 256 := by unfold room; rw [if_neg (by omega)]
        have hw1 : wrap64 (n / 2) = n / 2 := by unfold wrap64; omega
        have hw2 : wrap64 (n / 2 - 1) = n / 2 - 1 := by unfold wrap64; omega
        have hw3 : wrap64 ((n / 2 - 1) * 256) = (n / 2 - 1) * 256 := by unfold wrap64; omega
        rw [hr]
        have HN := hide hn
        clear hn hr
        go_enter Tryz.func87, Tryz.ntmps87
        go_wp2
        go_ret
        exact ⟨rfl, rfl⟩
      · have hr : room n = 0 := by unfold room; rw [if_pos (Or.inr (Or.inr h3))]
        rw [hr]
        have HN := hide hn
        clear hn hr
        go_enter Tryz.func87, Tryz.ntmps87
        go_wp2
        go_ret
        exact ⟨rfl, rfl⟩
set_option maxHeartbeats 400000 in
theorem mayBe_any (g : Nat) (w : World) :
    Calls Tryz.prog 107 #[.int .u64 (g : Int)] w fun e w' => e = .returned (.bool (decide (1 ≤ g ∧ g ≤ 4611686018427387904))) ∧ w' = w := by
  by_cases h1 : 1 ≤ g
  · by_cases h2 : g ≤ 4611686018427387904
    · have hd : decide (1 ≤ g ∧ g ≤ 4611686018427387904) = true := decide_eq_true ⟨h1, h2⟩
      rw [hd]
      have h1' : (1 : Int) ≤ (g : Int) := by omega
      have h2' : (g : Int) ≤ 4611686018427387904 := by omega
      clear hd h1 h2
      go_enter Tryz.func107, Tryz.ntmps107
      go_wp2
      go_ret
      exact ⟨rfl, rfl⟩
    · have hd : decide (1 ≤ g ∧ g ≤ 4611686018427387904) = false := decide_eq_false (fun h => h2 h.2)
      rw [hd]
      have h1' : (1 : Int) ≤ (g : Int) := by omega
      have h2' : ¬ (g : Int) ≤ 4611686018427387904 := by omega
      clear hd h1 h2
      go_enter Tryz.func107, Tryz.ntmps107
      go_wp2
      go_ret
      exact ⟨rfl, rfl⟩
  · have hd : decide (1 ≤ g ∧ g ≤ 4611686018427387904) = false := decide_eq_false (fun h => h1 h.1)
    rw [hd]
    have h1' : ¬ (1 : Int) ≤ (g : Int) := by omega
    clear hd h1
    go_enter Tryz.func107, Tryz.ntmps107
    go_wp2
    go_ret
    exact ⟨rfl, rfl⟩
set_option maxHeartbeats 400000 in
theorem blocksFor_any (n : Nat) (w : World) (hn : n ≤ 281474976710656) :
    Calls Tryz.prog 115 #[.int .i64 (n : Int)] w fun e w' => e = .returned (.int .i64 ((nb n : Nat) : Int)) ∧ w' = w := by
  have h1 : wrap64 ((n : Int) + 256) = (n : Int) + 256 := by unfold wrap64; omega
  have h2 : wrap64 ((n : Int) + 256 - 1) = (n : Int) + 255 := by unfold wrap64; omega
  have h3 : Int.tdiv ((n : Int) + 255) 256 = ((nb n : Nat) : Int) := by rw [Int.tdiv_eq_ediv_of_nonneg (by omega)]; unfold nb; omega
  have h4 : wrap64 ((nb n : Nat) : Int) = ((nb n : Nat) : Int) := by unfold nb wrap64; omega
  generalize nb n = k at *
  have HN := hide hn
  clear hn
  go_enter Tryz.func115, Tryz.ntmps115
  go_wp2
  go_ret
  exact ⟨congrArg (fun x => Ending.returned (.int .i64 x)) h4, rfl⟩
end Go.Proofs.YtchhojkhfdkhfaaGreatDoor
