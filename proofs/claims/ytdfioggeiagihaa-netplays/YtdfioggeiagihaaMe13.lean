/- container/heap over the program's row: Push, Pop. -/
import Derived.Test.YtdfioggeiagihaaMe12
namespace Go.Proofs.Ytdfioggeiagihaa
open Go Go.RowKit

theorem heap_putAt {f : Nat → Lt} {n : Nat} (h : IsHeap aheadB f n) (x : Lt) : IsHeap aheadB (putAt f n x) n := fun i h0 hn => by
  have hp := par_lt h0
  unfold putAt
  rw [if_neg (by omega), if_neg (by omega)]
  exact h i h0 hn
set_option maxRecDepth 10000 in
set_option maxHeartbeats 2000000 in
theorem pHeapPush (r : Nat) (v : Value) (f : Nat → Lt) (n : Nat) (x : Lt) (w : World) (h : HAt w r v (rowL f n)) (hh : IsHeap aheadB f n) (hn : n < 4096) :
    Calls Try.prog 46 #[.iface 76 (.pointer (some ⟨r, 0, none⟩)), .iface 41 x.val] w fun e w' => e = .returned (.tuple #[]) ∧ ∃ v' f', HAt w' r v' (rowL f' (n + 1)) ∧ IsHeap aheadB f' (n + 1) ∧ Mixed (putAt f n x) f' (n + 1) ∧ Loc (HF r v) (HF r v') w w' := by
  have mP := mPush
  have mL := mLen
  have KP := hide (pPush r v (rowL f n) x w h (by rw [rowL_len]; exact hn))
  have HU : Hid (UpInv aheadB (putAt f n x) (n + 1) n) := (heap_putAt hh x).push
  clear h hh
  go_enter Try.func46, Try.ntmps46
  go_wp2_with fail
  refine KP.out.mono ?_
  rintro e w1 ⟨rfl, v', ha, hl⟩
  rw [rowL_push] at ha
  have H1 := hide ha
  have HL1 := hide hl
  have c1 := ha.cell
  obtain ⟨a1, k1, rfl, -⟩ := ha.slice
  have KL : ∀ a : World, Hid (Calls Try.prog 47 #[.slice a1 (n + 1) k1] a fun e w' => e = .returned (.int .i64 ((n + 1 : Nat) : Int)) ∧ w' = a) := fun a => pRowLen a1 (n + 1) k1 a
  clear ha hl KP
  go_wp2_with fail
  refine (KL _).out.mono ?_
  rintro e w2 ⟨rfl, hw⟩
  obtain rfl := hw.symm
  clear hw
  have KU := hide (pUp r (.slice a1 (n + 1) k1) (putAt f n x) (n + 1) n w1 H1.out (by omega) (by omega) HU.out)
  go_wp2_with fail
  refine KU.out.mono ?_
  rintro e w3 ⟨rfl, f', ha3, hh3, hm3, hl3⟩
  have H3 := hide (And.intro ha3 (And.intro hh3 (And.intro hm3 (HL1.out.trans hl3))))
  clear ha3 hh3 hm3 hl3 KU HL1 H1 HU
  go_wp2_with fail
  exact bodyPost_end (results_none rfl _ _ _) rfl ⟨rfl, _, f', H3.out⟩
set_option maxRecDepth 10000 in
set_option maxHeartbeats 2000000 in
theorem pHeapPop (r : Nat) (v : Value) (f : Nat → Lt) (n : Nat) (w : World) (h : HAt w r v (rowL f (n + 1))) (hh : IsHeap aheadB f (n + 1)) (hn : n < 4096) :
    Calls Try.prog 48 #[.iface 76 (.pointer (some ⟨r, 0, none⟩))] w fun e w' => e = .returned (.iface 41 (f 0).val) ∧ ∃ v' f', HAt w' r v' (rowL f' n) ∧ IsHeap aheadB f' n ∧ Mixed (swp f 0 n) f' n ∧ Loc (HF r v) (HF r v') w w' := by
  have mP := mPop
  have mL := mLen
  have mS := mSwap
  have c0 := h.cell
  obtain ⟨a1, k1, rfl, -⟩ := h.slice
  have KL : ∀ a : World, Hid (Calls Try.prog 47 #[.slice a1 (n + 1) k1] a fun e w' => e = .returned (.int .i64 ((n + 1 : Nat) : Int)) ∧ w' = a) := fun a => pRowLen a1 (n + 1) k1 a
  have KS := hide (pSwap r (.slice a1 (n + 1) k1) f (n + 1) 0 n w h (by omega) (by omega))
  have HD : Hid (DownInv aheadB (swp f 0 n) n 0) := hh.pop
  have H := hide h
  clear h hh
  go_enter Try.func48, Try.ntmps48
  go_wp2_with fail
  refine (KL _).out.mono ?_
  rintro e w1 ⟨rfl, hw⟩
  obtain rfl := hw.symm
  clear hw
  go_wp2_with fail
  refine KS.out.mono ?_
  rintro e w2 ⟨rfl, ha2, hl2⟩
  have HL2 := hide hl2
  have KD := hide (pDown r (.slice a1 (n + 1) k1) (swp f 0 n) (n + 1) n w2 ha2 (by omega) (by omega) HD.out)
  clear ha2 hl2 KS c0 H
  go_wp2_with fail
  refine KD.out.mono ?_
  rintro e w3 ⟨⟨b3, rfl⟩, f', ha3, hh3, hm3, hl3⟩
  have KR := hide (pRowPop r (.slice a1 (n + 1) k1) f' n w3 ha3 hn)
  have H3 := hide (And.intro hh3 (And.intro hm3 (HL2.out.trans hl3)))
  have hf : f' n = f 0 := by
    rw [hm3.far n (Nat.le_refl _)]
    unfold swp
    by_cases e : n = 0
    · subst e; rw [if_pos rfl]
    · rw [if_neg e, if_pos rfl]
  rw [hf] at KR
  clear ha3 hh3 hm3 hl3 KD HL2 HD hf
  go_wp2_with fail
  refine KR.out.mono ?_
  rintro e w4 ⟨rfl, v', ha4, hl4⟩
  have H4 := hide (And.intro ha4 (H3.out.2.2.trans hl4))
  clear ha4 hl4 KR
  go_wp2
  go_ret
  exact ⟨rfl, v', f', H4.out.1, H3.out.1, H3.out.2.1, H4.out.2⟩
end Go.Proofs.Ytdfioggeiagihaa
