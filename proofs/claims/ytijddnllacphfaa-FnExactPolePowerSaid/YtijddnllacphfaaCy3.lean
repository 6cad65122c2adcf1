/- The contracts of CyclesOf, of the program and of its model. -/
import Derived.Test.YtijddnllacphfaaCy2
import Derived.Test.YtijddnllacphfaaMgG
namespace Go.Proofs.Ytijddnllacphfaa
open Go Go.RowKit

def cycN (zs : List Int) : List (List Int) := if ord zs = true then cycles zs else []
theorem cycN_yes {zs : List Int} (h : ord zs = true) : cycN zs = cycles zs := by unfold cycN; rw [if_pos h]
theorem cycN_no {zs : List Int} (h : ord zs = false) : cycN zs = [] := by unfold cycN; rw [h]; rfl
theorem cycN_sum (zs : List Int) : sumL (cycN zs) ≤ 8 ∧ (cycN zs).length ≤ 8 := by
  rcases h : ord zs with _ | _
  · rw [cycN_no h]; simp [sumL]
  · rw [cycN_yes h]
    have h8 := (ord_iff.1 h).2.1
    have := cycles_sum (ord_inn h) h8
    omega

end Go.Proofs.Ytijddnllacphfaa
