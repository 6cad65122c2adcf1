/- 'FnExactFirstDesk' returns true whatever lies in memory, and nothing that was there has turned. There is no condition. -/
import Derived.Test.YtalbmgapahbanaaRow7
import Derived.Test.YtalbmgapahbanaaMgN
import Derived.Test.YtalbmgapahbanaaL1FirstDesk
namespace Go.Proofs.Ytalbmgapahbanaa
open Go Go.ChangeShapes Go.WideShapes Go.ChangeAt Go.RowKit

set_option maxRecDepth 100000 in
theorem liftedFirstDesk (os : Os) (started : os.Started) (H : Type) (enc : TypeId × Value → H) :
    ReturnsInHanded {} Try.checked os 3 .any (Rows.fnExactFirstDeskSpec.pre6 enc Try.prog Try.f3 Rows.fnExactFirstDeskRow.domain false) (Rows.fnExactFirstDeskSpec.post enc Try.prog Try.f3 false true false false) := by
  refine returnsInHanded_of_change (C := Try.checked) ownK started (by kernel_rfl) Try.func3
    (ChangeSpec.witness6 (enc := enc) (C := Try.checked) false ⟨#[], #[], []⟩ 8 (by kernel_rfl) (by kernel_rfl) (by kernel_rfl) (by kernel_rfl)) ?_
  intro W base args ds gs before hval0 hW hcnd _
  have hval : ∀ (j : Nat) t v, Try.f3.params[j]? = some t → args[j]? = some v → Value.okWide Try.prog W .any base t v := hval0
  have hW' := hW
  obtain ⟨p, q, hA0, hV, rfl, hfz, hnd⟩ := hW
  have hA : DataW.TrodAll enc Try.prog W 0 (fun _ => true) true Try.f3.params.toList args.toList ds p := hA0
  rw [Try.params3] at hA hval
  obtain ⟨ha, rfl, rfl⟩ := trodAll_nil hA
  obtain ⟨rfl, rfl⟩ := trodVars_none hV
  have ha' : args = #[] := by cases args; simp at ha; subst ha; rfl
  subst ha'
  clear hA0 hval0
  refine (lawFirstDesk_any W).mono fun e W' ⟨he, hb⟩ => ?_
  subst he
  exact ⟨_, rfl, postTrue hW' hb rfl rfl (by rw [Try.params3]; intro t ht; simp at ht) rfl rfl rfl⟩

theorem closedFirstDesk : joinedFacts Try.prog 3 Try.f3 Rows.fnExactFirstDeskSpec Rows.fnExactFirstDeskRow = true := by
  unfold joinedFacts
  rw [fkEnter, fkLifts, fkMake]
  kernel_rfl

theorem provedFirstDesk : Rows.FnExactFirstDeskSaid :=
  OpenClaim.holds_of_wide 3 Try.f3 rfl rfl rfl rfl rfl rfl rfl ⟨rfl, rfl, rfl, rfl, rfl⟩ rfl rfl rfl rfl rfl (by kernel_rfl) Try.func3 closedFirstDesk
    (of_decide_eq_true (by kernel_rfl)) (by unfold Func.isWrapper; first | (rw [if_pos (by decide +kernel)]; kernel_rfl) | (rw [if_neg (by decide +kernel)]; exact ⟨rfl, rfl⟩))
    (fun os started H enc _ => liftedFirstDesk os started H enc)
end Go.Proofs.Ytalbmgapahbanaa
