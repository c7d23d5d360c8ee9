/- For every two numbers and every text the law CkptNil returns true and leaves them as they were: what no disk answers (texts of over 4096 bytes are let go by the law itself); the library's tables unicode/utf8.acceptRanges and unicode/utf8.first read as the program's text lays them (tied; first: pinned); no other condition. -/
import Derived.Test.YtiebhdgpnloieaaDoorAl
import Derived.Test.YtiebhdgpnloieaaDoorIn7
import Derived.Test.YtiebhdgpnloieaaDoorCards
import Derived.Test.YtiebhdgpnloieaaDoorTie
import Derived.SevenTiedAt
namespace Go.Proofs.YtiebhdgpnloieaaDoor
open Go Go.ChangeShapes Go.WideShapes Go.ChangeAt Go.RowKit Go.Joins

set_option maxRecDepth 100000 in
theorem ckptNil_lifted (os : Os) (started : os.Started) (H : Type) (enc : TypeId × Value → H) :
    ReturnsInHanded {} Tryd.checked os 5 .any (fun w args => (Rows.ckptNilSpec.pre enc Tryd.prog Tryd.f5 [] false w args ∧ laidMetH Tryd.prog listed w) ∧ sizedMet enc Tryd.prog Tryd.f5 (OpenSpec.ofChange Rows.ckptNilSpec) false w args)
      (Rows.ckptNilSpec.post enc Tryd.prog Tryd.f5 false true false false) := by
  refine returnsInHanded_of_change_and (C := Tryd.checked) (X := fun w _ => laidMetH Tryd.prog listed w) (fun _ _ _ hh h => h.of_heap hh) Tryd.own started (by kernel_rfl) Tryd.func5
    (ChangeSpec.witness_shaped (enc := enc) (C := Tryd.checked) (os := os) (X := fun w _ => laidMetH Tryd.prog listed w) false (World.laidAll Tryd.prog os listed) #[.int .i64 0, .int .u64 0, .string { data := #[] }] 8 (World.laidAll_os _ _ _) (tabled_shaped os) (by kernel_rfl) (by kernel_rfl) (by kernel_rfl) (tabled_met os _)) ?_
  intro W base args ds gs before hval0 hW _ hsz hL _
  have hval : ∀ (j : Nat) t v, Tryd.f5.params[j]? = some t → args[j]? = some v → Value.okWide Tryd.prog W .any base t v := hval0
  have hW' := hW
  obtain ⟨p, q, hA0, hV, rfl, hfz, hnd⟩ := hW
  have hA : DataW.TrodAll enc Tryd.prog W 0 (fun _ => true) true Tryd.f5.params.toList args.toList ds p := hA0
  rw [Tryd.params5] at hA hval
  obtain ⟨v0, v1, v2, d0, d1, d2, p0, p1, p2, rfl, rfl, rfl, h0, h1, h2⟩ := trodAll_three hA
  obtain ⟨rfl, rfl⟩ := trodVars_none hV
  obtain ⟨n0, rfl, rfl, rfl, w0⟩ := open_int Tryd.underlying3 (hval 0 3 v0 rfl rfl) h0
  obtain ⟨n1, rfl, rfl, rfl, w1⟩ := open_int Tryd.underlying34 (hval 1 34 v1 rfl rfl) h1
  obtain ⟨s2, rfl, rfl, rfl, m2⟩ := ChangeMaps.open_string Tryd.underlying9 (hval 2 9 v2 rfl rfl) h2
  obtain ⟨g, rfl, hg⟩ := nat_of_wf64 w1
  clear hA0 hval0
  simp only [List.append_nil] at hW'
  refine (CkptNil_any n0 g s2 W (int_of_wf64 w0)).mono fun e W' ⟨he, hg⟩ => ?_
  subst he
  exact ⟨_, rfl, _, _, _, [], [], [], hW', trodAll_mk1 (shut_bool Tryd.underlying4 _), trodAll_mk3 (shut_int Tryd.underlying3 w0) (shut_int Tryd.underlying34 w1) (shut_text m2), rfl, hg.frame _, fun h => by cases h⟩

theorem ckptNil_holds : Rows.CkptNilSaid :=
  OpenClaim.holds_of_wide 5 Tryd.f5 rfl rfl rfl rfl rfl rfl rfl ⟨rfl, rfl, rfl, rfl, rfl⟩ rfl rfl rfl rfl rfl (by kernel_rfl) Tryd.func5 (by kernel_rfl)
    (of_decide_eq_true (by kernel_rfl)) (by unfold Func.isWrapper; first | (rw [if_pos (by decide +kernel)]; kernel_rfl) | (rw [if_neg (by decide +kernel)]; exact ⟨rfl, rfl⟩))
    (fun os started H enc _ => ckptNil_lifted os started H enc)

theorem ckptNil_card_holds : Rows.CkptNilCardSaid :=
  Claim7.holds_tied_plain_at .later [] [.data, .pinned] true (true, "f445a3f75ee55a83bf0191b4cdb8b1df2d02193fab29279773dfd0ef6eeaec95") false
    ckptNil_holds (fun _ h => by cases h) (by kernel_rfl) (fun _ h => by cases h) ckptNil_row_tie rfl ⟨rfl, rfl⟩ (by kernel_rfl) rfl
    (fun f fn hf hfn => by
      obtain rfl : f = 5 := Option.some.inj ((show Tryd.prog.funcNamed "reeve/reevelaw07.CkptNil" = some 5 by kernel_rfl).symm.trans hf) |>.symm
      obtain rfl : fn = Tryd.f5 := (Option.some.inj (Tryd.func5.symm.trans hfn)).symm
      exact ⟨by kernel_rfl, fun j t ht => by
        rw [Tryd.params5] at ht
        have ht2 : t ∈ [3, 34, 9] := by
          have := Array.mem_of_getElem? ht
          simpa using this
        have hall : ([3, 34, 9] : List TypeId).all (fun t => Tryd.prog.wantsStandIn t == false) = true := by kernel_rfl
        have hone : Tryd.prog.wantsStandIn t = false := by simpa using List.all_eq_true.1 hall t ht2
        exact hone⟩)
    (by kernel_rfl)
#print axioms ckptNil_card_holds
end Go.Proofs.YtiebhdgpnloieaaDoor
