/- For every two numbers and every list of steps the law CkptPlays returns true and leaves them as they were: Save and Load answer, and leave the disk, as the document's do, call by call (over 60 steps, and over 8192 picks and bytes, are let go by the law itself); the library's tables unicode/utf8.acceptRanges and unicode/utf8.first read as the program's text lays them (tied; first: pinned); no other condition. -/
import Derived.Test.YtiebhdgpnloieaaDoorGP
import Derived.Test.YtiebhdgpnloieaaDoorGSteps
import Derived.Test.YtiebhdgpnloieaaDoorCards
import Derived.Test.YtiebhdgpnloieaaDoorTie
import Derived.SevenTiedAt
namespace Go.Proofs.YtiebhdgpnloieaaDoor
open Go Go.ChangeShapes Go.WideShapes Go.ChangeAt Go.RowKit Go.Joins

set_option maxRecDepth 100000 in
theorem ckptPlays_lifted (os : Os) (started : os.Started) (H : Type) (enc : TypeId × Value → H) :
    ReturnsInHanded {} Tryd.checked os 3 .any (fun w args => (Rows.ckptPlaysSpec.pre enc Tryd.prog Tryd.f3 [] false w args ∧ laidMetH Tryd.prog listed w) ∧ sizedMet enc Tryd.prog Tryd.f3 (OpenSpec.ofChange Rows.ckptPlaysSpec) false w args)
      (Rows.ckptPlaysSpec.post enc Tryd.prog Tryd.f3 false true false false) := by
  refine returnsInHanded_of_change_and (C := Tryd.checked) (X := fun w _ => laidMetH Tryd.prog listed w) (fun _ _ _ hh h => h.of_heap hh) Tryd.own started (by kernel_rfl) Tryd.func3
    (ChangeSpec.witness_shaped (enc := enc) (C := Tryd.checked) (os := os) (X := fun w _ => laidMetH Tryd.prog listed w) false (World.laidAll Tryd.prog os listed) #[.int .i64 0, .int .i64 0, .slice none 0 0] 8 (World.laidAll_os _ _ _) (tabled_shaped os) (by kernel_rfl) (by kernel_rfl) (by kernel_rfl) (tabled_met os _)) ?_
  intro W base args ds gs before hval0 hW _ hsz hL _
  have hval : ∀ (j : Nat) t v, Tryd.f3.params[j]? = some t → args[j]? = some v → Value.okWide Tryd.prog W .any base t v := hval0
  have hW' := hW
  obtain ⟨p, q, hA0, hV, rfl, hfz, hnd⟩ := hW
  have hA : DataW.TrodAll enc Tryd.prog W 0 (fun _ => true) true Tryd.f3.params.toList args.toList ds p := hA0
  rw [Tryd.params3] at hA hval
  obtain ⟨v0, v1, v2, d0, d1, d2, p0, p1, p2, rfl, rfl, rfl, h0, h1, h2⟩ := trodAll_three hA
  obtain ⟨rfl, rfl⟩ := trodVars_none hV
  obtain ⟨n0, rfl, rfl, rfl, w0⟩ := open_int Tryd.underlying3 (hval 0 3 v0 rfl rfl) h0
  obtain ⟨n1, rfl, rfl, rfl, w1⟩ := open_int Tryd.underlying3 (hval 1 3 v1 rfl rfl) h1
  obtain ⟨a2, len2, cap2, rfl⟩ := okWide_slice Tryd.underlying22 (hval 2 22 v2 rfl rfl)
  have k2 := h2
  have lt2 : ∀ x ∈ p2, x.block < W.heap.size := by obtain ⟨m, hm⟩ := k2; exact DataW.trod_lt m _ _ _ hm
  obtain ⟨l2, rfl, hst2, hok2, hlen2⟩ := open_steps h2 (reach_of hsz 2 rfl rfl)
  clear hA0 hval0
  simp only [List.nil_append] at hW'
  refine (CkptPlays_any n0 n1 a2 cap2 l2 W hst2 hok2 hlen2 (int_of_wf64 w1)).mono fun e W' ⟨he, hg⟩ => ?_
  subst he
  exact ⟨_, rfl, _, _, _, [], _, [], hW', trodAll_mk1 (shut_bool Tryd.underlying4 _), trodAll_mk3 (shut_int Tryd.underlying3 w0) (shut_int Tryd.underlying3 w1) (Below.trod Tryd.laidOut (by kernel_rfl) (of_decide_eq_true (by kernel_rfl)) k2 hg lt2), rfl, hg.frame _, fun h => by cases h⟩

theorem ckptPlays_holds : Rows.CkptPlaysSaid :=
  OpenClaim.holds_of_wide 3 Tryd.f3 rfl rfl rfl rfl rfl rfl rfl ⟨rfl, rfl, rfl, rfl, rfl⟩ rfl rfl rfl rfl rfl (by kernel_rfl) Tryd.func3 (by kernel_rfl)
    (of_decide_eq_true (by kernel_rfl)) (by unfold Func.isWrapper; first | (rw [if_pos (by decide +kernel)]; kernel_rfl) | (rw [if_neg (by decide +kernel)]; exact ⟨rfl, rfl⟩))
    (fun os started H enc _ => ckptPlays_lifted os started H enc)

theorem ckptPlays_card_holds : Rows.CkptPlaysCardSaid :=
  Claim7.holds_tied_plain_at .later [] [.data, .pinned] true (true, "f445a3f75ee55a83bf0191b4cdb8b1df2d02193fab29279773dfd0ef6eeaec95") false
    ckptPlays_holds (fun _ h => by cases h) (by kernel_rfl) (fun _ h => by cases h) ckptPlays_row_tie rfl ⟨rfl, rfl⟩ (by kernel_rfl) rfl
    (fun f fn hf hfn => by
      obtain rfl : f = 3 := Option.some.inj ((show Tryd.prog.funcNamed "reeve/reevelaw07.CkptPlays" = some 3 by kernel_rfl).symm.trans hf) |>.symm
      obtain rfl : fn = Tryd.f3 := (Option.some.inj (Tryd.func3.symm.trans hfn)).symm
      exact ⟨by kernel_rfl, fun j t ht => by
        rw [Tryd.params3] at ht
        have ht2 : t ∈ [3, 3, 22] := by
          have := Array.mem_of_getElem? ht
          simpa using this
        have hall : ([3, 3, 22] : List TypeId).all (fun t => Tryd.prog.wantsStandIn t == false) = true := by kernel_rfl
        have hone : Tryd.prog.wantsStandIn t = false := by simpa using List.all_eq_true.1 hall t ht2
        exact hone⟩)
    (by kernel_rfl)
#print axioms ckptPlays_card_holds
end Go.Proofs.YtiebhdgpnloieaaDoor
