/- The contracts of SignOf, of the program and of its model. -/
import Derived.Test.YtijddnllacphfaaCy3
import Derived.IntWalk
namespace Go.Proofs.Ytijddnllacphfaa
open Go Go.RowKit

def signN (zs : List Int) : Int := if ord zs = true then sg (cycles zs) (cycles zs).length else 0
theorem signN_yes {zs : List Int} (h : ord zs = true) : signN zs = sg (cycles zs) (cycles zs).length := by unfold signN; rw [if_pos h]
theorem signN_no {zs : List Int} (h : ord zs = false) : signN zs = 0 := by unfold signN; rw [h]; rfl
theorem sg_two (zss : List (List Int)) (j : Nat) : sg zss j = 1 ∨ sg zss j = -1 := by
  rw [sg_par]; split
  · exact .inl rfl
  · exact .inr rfl

end Go.Proofs.Ytijddnllacphfaa
