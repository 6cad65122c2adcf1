/- How long the list of inversions is. -/
import Derived.Test.YtcomgoapekkleaaIv2
namespace Go.Proofs.Ytcomgoapekkleaa
open Go Go.RowKit

theorem pairsN_len (zs : List Int) : (pairsN zs).length ≤ 64 := by
  rcases h : ord zs with _ | _
  · rw [pairsN_no h]; simp
  · rw [pairsN_yes h]
    have h8 := (ord_iff.1 h).2.1
    have h1 := invs_len zs
    have h2 : zs.length * zs.length ≤ 8 * 8 := Nat.mul_le_mul h8 h8
    omega
theorem pairsN_two (zs : List Int) (j : Nat) : (gz (pairsN zs) j).length ≤ 2 := by
  by_cases hj : j < (pairsN zs).length
  · have e : gz (pairsN zs) j = (pairsN zs)[j] := by simp [gz, List.getD, hj]
    have hm : gz (pairsN zs) j ∈ pairsN zs := by rw [e]; exact List.getElem_mem hj
    rcases h : ord zs with _ | _
    · rw [pairsN_no h] at hj; simp at hj
    · rw [pairsN_yes h] at hm ⊢
      exact Nat.le_of_eq (invK_two _ hm)
  · have e : gz (pairsN zs) j = [] := by simp [gz, List.getD, List.getElem?_eq_none (Nat.le_of_not_lt hj)]
    rw [e]; simp
theorem pairsN_tot (zs : List Int) : ∀ (k : Nat), tot (pairsN zs) k ≤ 2 * k
  | 0 => Nat.le_refl _
  | k + 1 => by
    have h1 := pairsN_tot zs k
    have h2 := pairsN_two zs k
    simp only [tot]; omega
end Go.Proofs.Ytcomgoapekkleaa
