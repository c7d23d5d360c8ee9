/- For every three vecs the law VecLaws returns true and leaves them as they were: a sum does not hang on the order, what is added is taken away again, and what fits stays so when the same is added to both; no condition. -/
import Derived.Test.YtklekpbfjcpjlaaVecLaws
import Derived.Test.YtklekpbfjcpjlaaVecIn
namespace Go.Proofs.Ytklekpbfjcpjlaa
open Go.ChangeShapes Go.WideShapes Go.ChangeAt Go.RowKit Go.Joins

set_option maxRecDepth 100000 in
theorem vecLaws_lifted (os : Os) (started : os.Started) (H : Type) (enc : TypeId × Value → H) :
    ReturnsInHanded {} Try.checked os 6 .any (Rows.vecLawsSpec.pre6 enc Try.prog Try.f6 Rows.vecLawsRow.domain false) (Rows.vecLawsSpec.post enc Try.prog Try.f6 false true false false) := by
  refine returnsInHanded_of_change (C := Try.checked) Try.own started (by kernel_rfl) Try.func6
    (ChangeSpec.witness6 (enc := enc) (C := Try.checked) false ⟨#[], #[.agg #[.int .i64 0, .int .i64 0, .int .i64 0], .agg #[.int .i64 0, .int .i64 0, .int .i64 0], .agg #[.int .i64 0, .int .i64 0, .int .i64 0]], []⟩ 8 (by kernel_rfl) (by kernel_rfl) (by kernel_rfl) (by kernel_rfl)) ?_
  intro W base args ds gs before hval0 hW hcnd _
  have hval : ∀ (j : Nat) t v, Try.f6.params[j]? = some t → args[j]? = some v → Value.okWide Try.prog W .any base t v := hval0
  have hW' := hW
  obtain ⟨p, q, hA0, hV, rfl, hfz, hnd⟩ := hW
  have hA : DataW.TrodAll enc Try.prog W 0 (fun _ => true) true Try.f6.params.toList args.toList ds p := hA0
  rw [Try.params6] at hA hval
  obtain ⟨v0, v1, v2, d0, d1, d2, p0, p1, p2, rfl, rfl, rfl, h0, h1, h2⟩ := trodAll_three hA
  obtain ⟨rfl, rfl⟩ := trodVars_none hV
  obtain ⟨x0, x1, x2, rfl, rfl, rfl, i00, i01, i02⟩ := open_vec (hval 0 23 v0 rfl rfl) h0
  obtain ⟨y0, y1, y2, rfl, rfl, rfl, i10, i11, i12⟩ := open_vec (hval 1 23 v1 rfl rfl) h1
  obtain ⟨z0, z1, z2, rfl, rfl, rfl, i20, i21, i22⟩ := open_vec (hval 2 23 v2 rfl rfl) h2
  clear hA0 hval0
  simp only [List.append_nil] at hW'
  refine (VecLaws_any x0 x1 x2 y0 y1 y2 z0 z1 z2 ⟨i00, i01, i02, i10, i11, i12, i20, i21, i22⟩ W).mono fun e W' ⟨he, hg⟩ => ?_
  subst he
  exact ⟨_, rfl, _, _, _, [], [], [], hW', trodAll_mk1 (shut_bool Try.underlying4 _), trodAll_mk3 (shut_vec i00 i01 i02) (shut_vec i10 i11 i12) (shut_vec i20 i21 i22), rfl, hg.frame _, fun h => by cases h⟩

theorem vecLaws_holds : Rows.VecLawsSaid :=
  OpenClaim.holds_of_wide 6 Try.f6 rfl rfl rfl rfl rfl rfl rfl ⟨rfl, rfl, rfl, rfl, rfl⟩ rfl rfl rfl rfl rfl (by kernel_rfl) Try.func6 (by kernel_rfl)
    (of_decide_eq_true (by kernel_rfl)) (by unfold Func.isWrapper; first | (rw [if_pos (by decide +kernel)]; kernel_rfl) | (rw [if_neg (by decide +kernel)]; exact ⟨rfl, rfl⟩))
    (fun os started H enc _ => vecLaws_lifted os started H enc)
#print axioms vecLaws_holds
end Go.Proofs.Ytklekpbfjcpjlaa
