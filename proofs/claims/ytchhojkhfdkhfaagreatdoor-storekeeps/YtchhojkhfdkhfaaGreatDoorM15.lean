/- The program's disk meets the contracts. -/
import Derived.Test.YtchhojkhfdkhfaaGreatDoorM09
import Derived.Test.YtchhojkhfdkhfaaGreatDoorM12
import Derived.Test.YtchhojkhfdkhfaaGreatDoorM10
namespace Go.Proofs.YtchhojkhfdkhfaaGreatDoor
open Go Go.RowKit
/-- The program's disk lies at block p, is st, and its blocks are F. -/
def DAt (u : World) (p : Nat) (st : St) (F : Nat → Prop) : Prop := ∃ vS vL x, F = DF p vS vL ∧ PAt u p vS vL x st
theorem stays {u v : World} (h : v = u) : Below u.heap.size u v := by rw [h]; exact Below.refl _ _
theorem con : Con DAt where
  lt := by
    rintro u p st F ⟨vS, vL, x, rfl, h⟩ k hk
    exact h.lt k hk
  same := by
    rintro u v p st F ⟨vS, vL, x, rfl, h⟩ hb
    exact ⟨vS, vL, x, rfl, h.same hb⟩
  new := by
    intro n u h1 h2
    refine (pNew n u h1 h2).mono ?_
    rintro e v ⟨p, vS, vL, x, rfl, h, hF, hb⟩
    exact ⟨p, _, rfl, ⟨vS, vL, x, rfl, h⟩, hF, hb⟩
  newNot := by
    intro n u _ hn
    refine (pNew_not n u hn).mono ?_
    rintro e v ⟨rfl, hv⟩
    exact ⟨rfl, stays hv⟩
  size := by
    rintro p st F u ⟨vS, vL, x, rfl, h⟩ _
    refine (pSize p vS vL x st u h).mono ?_
    rintro e v ⟨rfl, hv⟩
    exact ⟨rfl, stays hv⟩
  read := by
    rintro p st F b u ⟨vS, vL, x, rfl, h⟩ hok hl _
    exact pRead p vS vL x st b u h hok hl
  write := by
    rintro p st F b d u ⟨vS, vL, x, rfl, h⟩ hok hl _ _
    refine (pWrite p vS vL x st b d u h hok hl).mono ?_
    rintro e v ⟨rfl, vL', y, h2, l2⟩
    exact ⟨rfl, _, ⟨vS, vL', y, rfl, h2⟩, l2⟩
  sync := by
    rintro p st F u ⟨vS, vL, x, rfl, h⟩ hok hl
    refine (pSync p vS vL x st u h hok hl).mono ?_
    rintro e v ⟨rfl, vL', y, h2, l2⟩
    exact ⟨rfl, _, ⟨vS, vL', y, rfl, h2⟩, l2⟩
  fuse := by
    rintro p st F n u ⟨vS, vL, x, rfl, h⟩ hok hn
    refine (pFuse p vS vL x st n u h hok hn).mono ?_
    rintro e v ⟨rfl, h2, l2⟩
    exact ⟨rfl, _, ⟨vS, vL, n, rfl, h2⟩, l2⟩
  crash := by
    rintro p st F a c picks u ⟨vS, vL, x, rfl, h⟩ hok hl hP hap hpl hpi
    refine (pCrash p vS vL x st a c picks u h hok hl hP hap hpl hpi).mono ?_
    rintro e v ⟨rfl, vL', y, h2, l2⟩
    exact ⟨rfl, _, ⟨vS, vL', y, rfl, h2⟩, l2⟩
  loose := by
    rintro p st F u ⟨vS, vL, x, rfl, h⟩ hok hl
    exact pLoose p vS vL x st u h hok hl
  sure := by
    rintro p st F u ⟨vS, vL, x, rfl, h⟩ hok
    exact pSure p vS vL x st u h hok
  nread := by
    intro b u
    refine (nRead b u).mono ?_
    rintro e v ⟨rfl, hv⟩
    exact ⟨rfl, stays hv⟩
  nwrite := by
    intro b s u
    refine (nWrite b s u).mono ?_
    rintro e v ⟨rfl, hv⟩
    exact ⟨rfl, stays hv⟩
  nsync := by
    intro u
    refine (nSync u).mono ?_
    rintro e v ⟨rfl, hv⟩
    exact ⟨rfl, stays hv⟩
  nfuse := by
    intro n u
    refine (nFuse n u).mono ?_
    rintro e v ⟨rfl, hv⟩
    exact ⟨rfl, stays hv⟩
  ncrash := by
    intro u
    refine (nCrash u).mono ?_
    rintro e v ⟨rfl, hv⟩
    exact ⟨rfl, stays hv⟩
  nsize := by
    intro u
    refine (nSize u).mono ?_
    rintro e v ⟨rfl, hv⟩
    exact ⟨rfl, stays hv⟩
  nloose := by
    intro u
    refine (nLoose u).mono ?_
    rintro e v ⟨rfl, hv⟩
    exact ⟨none, 0, rfl, stays hv⟩
  nsure := by
    intro u
    refine (nSure u).mono ?_
    rintro e v ⟨rfl, hv⟩
    exact ⟨rfl, stays hv⟩
end Go.Proofs.YtchhojkhfdkhfaaGreatDoor
