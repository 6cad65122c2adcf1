/- Sliding, flipping and dropping on lists of rungs, as the program does it. -/
import Derived.Test.YtnogmbhcphglkaaDoorMv1
import Derived.Test.YtnogmbhcphglkaaDoorSSI
import Derived.Test.YtnogmbhcphglkaaDoorC1d
namespace Go.Proofs.YtnogmbhcphglkaaDoor
open Go Go.RowKit

/-- numbers that are no greater than ten -/
def Small (zs : List Int) : Prop := ∀ j, j < zs.length → 0 ≤ gi zs j ∧ gi zs j ≤ 10
theorem bnd_yes {zs : List Int} {k m : Nat} (h : k + m ≤ zs.length) : decide (0 ≤ (k : Int) ∧ (k : Int) + (m : Int) ≤ zs.length) = true := decide_eq_true (by omega)
theorem sldOk_no1 {zs : List Int} {a : Int} (h : ¬ (0 ≤ a ∧ a + 2 ≤ zs.length)) : sldOk zs a = false := by unfold sldOk; rw [decide_eq_false h]; rfl
theorem flpOk_no1 {zs : List Int} {a : Int} (h : ¬ (0 ≤ a ∧ a + 3 ≤ zs.length)) : flpOk zs a = false := by unfold flpOk; rw [decide_eq_false h]; rfl
theorem drpOk_no1 {zs : List Int} {a : Int} (h : ¬ (0 ≤ a ∧ a + 2 ≤ zs.length)) : drpOk zs a = false := by unfold drpOk; rw [decide_eq_false h]; rfl
theorem sldOk_at {zs : List Int} {k : Nat} (h : k + 2 ≤ zs.length) : sldOk zs (k : Int) = decide (2 ≤ absd (gi zs k - gi zs (k + 1))) := by
  unfold sldOk; rw [decide_eq_true (by omega), Int.toNat_natCast, far_abs]; rfl
theorem flpOk_at {zs : List Int} {k : Nat} (h : k + 3 ≤ zs.length) : flpOk zs (k : Int) = (decide (gi zs k = gi zs (k + 2)) && decide (absd (gi zs k - gi zs (k + 1)) = 1)) := by
  unfold flpOk; rw [decide_eq_true (by omega), Int.toNat_natCast, nigh_abs]; rfl
theorem drpOk_at {zs : List Int} {k : Nat} (h : k + 2 ≤ zs.length) : drpOk zs (k : Int) = decide (gi zs k = gi zs (k + 1)) := by
  unfold drpOk; rw [decide_eq_true (by omega), Int.toNat_natCast]; rfl
end Go.Proofs.YtnogmbhcphglkaaDoor
