/- 'FnExactAreSlides' returns true for every input, each argument reads behind the call as it read before it, and nothing else that was there has turned. There is no condition. -/
import Derived.Test.YtbilpjlbbglccaaRow
import Derived.Test.YtbilpjlbbglccaaHead
import Derived.Test.YtbilpjlbbglccaaL1AreSlides
namespace Go.Proofs.Ytbilpjlbbglccaa
open Go Go.ChangeShapes Go.WideShapes Go.ChangeAt Go.RowKit

set_option linter.unusedVariables false in
set_option maxRecDepth 100000 in
theorem liftedAreSlides (os : Os) (started : os.Started) (H : Type) (enc : TypeId × Value → H) :
    ReturnsInHanded {} Try.checked os 8 .any (Rows.fnExactAreSlidesSpec.pre6 enc Try.prog Try.f8 Rows.fnExactAreSlidesRow.domain false) (Rows.fnExactAreSlidesSpec.post enc Try.prog Try.f8 false true false false) := by
  refine returnsInHanded_of_change (C := Try.checked) ownK started (by kernel_rfl) Try.func8
    (ChangeSpec.witness6 (enc := enc) (C := Try.checked) false ⟨#[], #[.agg #[.int .i64 0, .slice none 0 0], .agg #[.int .i64 0, .slice none 0 0]], []⟩ 8 (by kernel_rfl) (by kernel_rfl) (by kernel_rfl) (by kernel_rfl)) ?_
  intro W base args ds gs before hval0 hW hcnd _
  have hval : ∀ (j : Nat) t v, Try.f8.params[j]? = some t → args[j]? = some v → Value.okWide Try.prog W .any base t v := hval0
  have hW' := hW
  obtain ⟨p, q, hA0, hV, rfl, hfz, hnd⟩ := hW
  have hA : DataW.TrodAll enc Try.prog W 0 (fun _ => true) true Try.f8.params.toList args.toList ds p := hA0
  rw [Try.params8] at hA hval
  obtain ⟨v0, v1, d0, d1, p0, p1, rfl, rfl, rfl, h0, h1⟩ := trodAll_two hA
  obtain ⟨rfl, rfl⟩ := trodVars_none hV
  obtain ⟨X0, A0, n0, c0, zs0, rfl, hr0, hn0⟩ := openLad (hval 0 _ v0 rfl rfl) h0
  obtain ⟨X1, A1, n1, c1, zs1, rfl, hr1, hn1⟩ := openLad (hval 1 _ v1 rfl rfl) h1
  clear hA0 hval0
  refine (lawAreSlides_any X0 A0 n0 c0 zs0 X1 A1 n1 c1 zs1 W hr0 hn0 hr1 hn1).mono fun e W' ⟨he, hb⟩ => ?_
  subst he
  exact ⟨_, rfl, postTrue hW' hb rfl rfl (by rw [Try.params8]; intro t ht; simp at ht; subst ht; exact ⟨by kernel_rfl, of_decide_eq_true (by kernel_rfl)⟩) rfl rfl rfl⟩

theorem closedAreSlides : joinedFacts Try.prog 8 Try.f8 Rows.fnExactAreSlidesSpec Rows.fnExactAreSlidesRow = true := by
  unfold joinedFacts
  rw [fkEnter, fkLifts, fkMake]
  kernel_rfl

theorem provedAreSlides : Rows.FnExactAreSlidesSaid :=
  OpenClaim.holds_of_wide 8 Try.f8 rfl rfl rfl rfl rfl rfl rfl ⟨rfl, rfl, rfl, rfl, rfl⟩ rfl rfl rfl rfl rfl (by kernel_rfl) Try.func8 closedAreSlides
    (of_decide_eq_true (by kernel_rfl)) (by unfold Func.isWrapper; first | (rw [if_pos (by decide +kernel)]; kernel_rfl) | (rw [if_neg (by decide +kernel)]; exact ⟨rfl, rfl⟩))
    (fun os started H enc _ => liftedAreSlides os started H enc)
end Go.Proofs.Ytbilpjlbbglccaa
