/- The code of an order, and the order of a code: mathematics. -/
import Derived.Test.YtcomgoapekkleaaIv1
namespace Go.Proofs.Ytcomgoapekkleaa
open Go Go.RowKit

/-- how many of the m places behind i have less -/
def cntB (zs : List Int) (i : Nat) : Nat → Nat
  | 0 => 0
  | m + 1 => cntB zs i m + (if gi zs (i + 1 + m) < gi zs i then 1 else 0)
theorem cntB_le (zs : List Int) (i : Nat) : ∀ m, cntB zs i m ≤ m
  | 0 => Nat.le_refl _
  | m + 1 => by have := cntB_le zs i m; simp only [cntB]; split <;> omega
theorem cntB_yes {zs : List Int} {i m : Nat} (h : gi zs (i + 1 + m) < gi zs i) : cntB zs i (m + 1) = cntB zs i m + 1 := by simp only [cntB]; rw [if_pos h]
theorem cntB_no {zs : List Int} {i m : Nat} (h : ¬ gi zs (i + 1 + m) < gi zs i) : cntB zs i (m + 1) = cntB zs i m := by simp only [cntB]; rw [if_neg h, Nat.add_zero]
theorem cntB_rowP (zs : List Int) (i : Nat) : ∀ m, (rowP zs i m).length = cntB zs i m
  | 0 => rfl
  | m + 1 => by simp only [rowP, cntB, List.length_append]; rw [cntB_rowP zs i m]; split <;> simp
/-- the code of the first k places -/
def codeK (zs : List Int) : Nat → List Int
  | 0 => []
  | k + 1 => codeK zs k ++ [(cntB zs k (zs.length - (k + 1)) : Int)]
theorem codeK_len (zs : List Int) : ∀ k, (codeK zs k).length = k
  | 0 => rfl
  | k + 1 => by simp [codeK, codeK_len zs k]
def codeL (zs : List Int) : List Int := codeK zs zs.length
/-- how many inversions the first k places have -/
def invN (zs : List Int) : Nat → Nat
  | 0 => 0
  | k + 1 => invN zs k + cntB zs k (zs.length - (k + 1))
theorem invN_len (zs : List Int) : ∀ k, (invK zs k).length = invN zs k
  | 0 => rfl
  | k + 1 => by simp only [invK, invN, List.length_append]; rw [invN_len zs k, cntB_rowP]
/-- the first k places that have more than the next -/
def dscK (zs : List Int) : Nat → List Int
  | 0 => []
  | k + 1 => dscK zs k ++ (if gi zs (k + 1) < gi zs k then [(k : Int)] else [])
theorem dscK_len (zs : List Int) : ∀ k, (dscK zs k).length ≤ k
  | 0 => Nat.le_refl _
  | k + 1 => by have := dscK_len zs k; simp only [dscK, List.length_append]; split <;> simp <;> omega
def dscL (zs : List Int) : List Int := dscK zs (zs.length - 1)
/-- the order of a code, out of the places that are left; none where there is none -/
def orderC : List Int → List Int → Option (List Int)
  | _, [] => some []
  | left, x :: xs => if 0 ≤ x ∧ x < left.length then (orderC (left.eraseIdx x.toNat) xs).map fun r => gi left x.toNat :: r else none
def upto (n : Nat) : List Int := (List.range n).map fun (k : Nat) => (k : Int)
theorem upto_len (n : Nat) : (upto n).length = n := by simp [upto]
theorem upto_succ (n : Nat) : upto (n + 1) = upto n ++ [(n : Int)] := by simp [upto, List.range_succ]
def orderL (xs : List Int) : Option (List Int) := orderC (upto xs.length) xs
theorem orderC_len : ∀ (xs left r : List Int), orderC left xs = some r → r.length = xs.length
  | [], _, r, h => by simp only [orderC] at h; cases h; rfl
  | x :: xs, left, r, h => by
    simp only [orderC] at h
    split at h
    · obtain ⟨r2, hr2, rfl⟩ := Option.map_eq_some_iff.1 h
      simp [orderC_len xs _ _ hr2]
    · cases h
end Go.Proofs.Ytcomgoapekkleaa
