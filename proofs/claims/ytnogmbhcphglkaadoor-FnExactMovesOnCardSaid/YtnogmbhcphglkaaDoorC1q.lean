/- The contracts of AddRung for every argument, of the program. -/
import Derived.Test.YtnogmbhcphglkaaDoorC1p
namespace Go.Proofs.YtnogmbhcphglkaaDoor
open Go Go.RowKit

theorem addB_1 {W : Int} {zs : List Int} {a r : Int} (h : lad W zs = false) : addB W zs a r = false := by unfold addB; rw [h]; rfl
theorem addB_2 {W : Int} {zs : List Int} {a r : Int} (h : ¬ (0 ≤ a ∧ a ≤ (zs.length : Int))) : addB W zs a r = false := by unfold addB; rw [inB_false h]; simp
theorem addB_3 {W : Int} {zs : List Int} {a r : Int} (h : lad W zs = true) (h2 : 0 ≤ a ∧ a ≤ (zs.length : Int)) : addB W zs a r = lad W (addL zs a.toNat r) := by unfold addB; rw [h, inB_true h2]; rfl
theorem addN_len (W : Int) (zs : List Int) (a r : Int) : (ifL (addB W zs a r) (addL zs a.toNat r)).length ≤ 1000 := by
  rcases h : addB W zs a r with _ | _
  · rw [ifL_no]; simp
  · rw [ifL_yes]
    unfold addB at h
    simp only [Bool.and_eq_true] at h
    have := (lad_iff.1 h.2.2).2.1
    omega

end Go.Proofs.YtnogmbhcphglkaaDoor
