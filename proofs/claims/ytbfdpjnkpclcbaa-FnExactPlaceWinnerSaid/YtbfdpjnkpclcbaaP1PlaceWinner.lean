/- 'FnExactPlaceWinner' returns true for every input, each argument reads behind the call as it read before it, and nothing else that was there has turned. There is no condition. -/
import Derived.Test.YtbfdpjnkpclcbaaMgN
import Derived.Test.YtbfdpjnkpclcbaaL1PlaceWinner
import Derived.Carry
namespace Go.Proofs.Ytbfdpjnkpclcbaa
open Go Go.ChangeShapes Go.WideShapes Go.ChangeAt Go.RowKit

set_option linter.unusedVariables false in
set_option maxRecDepth 100000 in
theorem liftedPlaceWinner (os : Os) (started : os.Started) (H : Type) (enc : TypeId × Value → H) :
    ReturnsInHanded {} Try.checked os 7 .any (Rows.fnExactPlaceWinnerSpec.pre6 enc Try.prog Try.f7 Rows.fnExactPlaceWinnerRow.domain false) (Rows.fnExactPlaceWinnerSpec.post enc Try.prog Try.f7 false true false false) := by
  refine returnsInHanded_of_change (C := Try.checked) ownK started (by kernel_rfl) Try.func7
    (ChangeSpec.witness6 (enc := enc) (C := Try.checked) false ⟨#[], #[.int .i64 0, .int .i64 0, .int .i64 0, .int .i64 0], []⟩ 8 (by kernel_rfl) (by kernel_rfl) (by kernel_rfl) (by kernel_rfl)) ?_
  intro W base args ds gs before hval0 hW hcnd _
  have hval : ∀ (j : Nat) t v, Try.f7.params[j]? = some t → args[j]? = some v → Value.okWide Try.prog W .any base t v := hval0
  have hW' := hW
  obtain ⟨p, q, hA0, hV, rfl, hfz, hnd⟩ := hW
  have hA : DataW.TrodAll enc Try.prog W 0 (fun _ => true) true Try.f7.params.toList args.toList ds p := hA0
  rw [Try.params7] at hA hval
  obtain ⟨v0, v1, v2, v3, d0, d1, d2, d3, p0, p1, p2, p3, rfl, rfl, rfl, h0, h1, h2, h3⟩ := trodAll_four hA
  obtain ⟨rfl, rfl⟩ := trodVars_none hV
  obtain ⟨x0, rfl, lo0, hi0⟩ := openInt (hval 0 _ v0 rfl rfl) h0
  obtain ⟨x1, rfl, lo1, hi1⟩ := openInt (hval 1 _ v1 rfl rfl) h1
  obtain ⟨x2, rfl, lo2, hi2⟩ := openInt (hval 2 _ v2 rfl rfl) h2
  obtain ⟨x3, rfl, lo3, hi3⟩ := openInt (hval 3 _ v3 rfl rfl) h3
  clear hA0 hval0
  refine (lawPlaceWinner_any x0 x1 x2 x3 W lo0 hi0 lo1 hi1 lo2 hi2 lo3 hi3).mono fun e W' ⟨he, hb⟩ => ?_
  subst he
  exact ⟨_, rfl, postTrue hW' hb rfl rfl (by rw [Try.params7]; intro t ht; simp at ht; subst ht; exact ⟨by kernel_rfl, of_decide_eq_true (by kernel_rfl)⟩) rfl rfl rfl⟩

theorem closedPlaceWinner : joinedFacts Try.prog 7 Try.f7 Rows.fnExactPlaceWinnerSpec Rows.fnExactPlaceWinnerRow = true := by
  unfold joinedFacts
  rw [fkEnter, fkLifts, fkMake]
  kernel_rfl

theorem provedPlaceWinner : Rows.FnExactPlaceWinnerSaid :=
  OpenClaim.holds_of_wide 7 Try.f7 rfl rfl rfl rfl rfl rfl rfl ⟨rfl, rfl, rfl, rfl, rfl⟩ rfl rfl rfl rfl rfl (by kernel_rfl) Try.func7 closedPlaceWinner
    (of_decide_eq_true (by kernel_rfl)) (by unfold Func.isWrapper; first | (rw [if_pos (by decide +kernel)]; kernel_rfl) | (rw [if_neg (by decide +kernel)]; exact ⟨rfl, rfl⟩))
    (fun os started H enc _ => liftedPlaceWinner os started H enc)
end Go.Proofs.Ytbfdpjnkpclcbaa
