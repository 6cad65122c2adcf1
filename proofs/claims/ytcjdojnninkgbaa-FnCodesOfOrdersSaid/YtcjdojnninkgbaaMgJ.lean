/- The inversions of a list, as the model counts them. The code of an order, and the order of a code: mathematics. -/
import Derived.Test.YtcjdojnninkgbaaMgA
namespace Go.Proofs.Ytcjdojnninkgbaa
open Go Go.RowKit

/-- the pairs with first place i whose second place is one of the m places behind i -/
def rowP (zs : List Int) (i : Nat) : Nat → List (List Int)
  | 0 => []
  | m + 1 => rowP zs i m ++ (if gi zs (i + 1 + m) < gi zs i then [[(i : Int), ((i + 1 + m : Nat) : Int)]] else [])
/-- the pairs with first places below k -/
def invK (zs : List Int) : Nat → List (List Int)
  | 0 => []
  | k + 1 => invK zs k ++ rowP zs k (zs.length - (k + 1))
def invs (zs : List Int) : List (List Int) := invK zs zs.length
theorem rowP_yes {zs : List Int} {i m : Nat} (h : gi zs (i + 1 + m) < gi zs i) : rowP zs i (m + 1) = rowP zs i m ++ [[(i : Int), ((i + 1 + m : Nat) : Int)]] := by simp only [rowP]; rw [if_pos h]
theorem rowP_no {zs : List Int} {i m : Nat} (h : ¬ gi zs (i + 1 + m) < gi zs i) : rowP zs i (m + 1) = rowP zs i m := by simp only [rowP]; rw [if_neg h, List.append_nil]
theorem rowP_len (zs : List Int) (i : Nat) : ∀ m, (rowP zs i m).length ≤ m
  | 0 => Nat.le_refl _
  | m + 1 => by
    have := rowP_len zs i m
    simp only [rowP, List.length_append]
    split <;> simp <;> omega
theorem invK_len (zs : List Int) : ∀ k, (invK zs k).length ≤ k * zs.length
  | 0 => by simp [invK]
  | k + 1 => by
    have := invK_len zs k
    have := rowP_len zs k (zs.length - (k + 1))
    simp only [invK, List.length_append]
    rw [Nat.add_mul]
    omega
theorem rowP_two {zs : List Int} {i : Nat} {x : List Int} : ∀ m, x ∈ rowP zs i m → x.length = 2
  | 0, h => by simp [rowP] at h
  | m + 1, h => by
    simp only [rowP, List.mem_append] at h
    rcases h with h | h
    · exact rowP_two m h
    · split at h
      · simp at h; subst h; rfl
      · simp at h
theorem invK_two {zs : List Int} {x : List Int} : ∀ k, x ∈ invK zs k → x.length = 2
  | 0, h => by simp [invK] at h
  | k + 1, h => by
    simp only [invK, List.mem_append] at h
    rcases h with h | h
    · exact invK_two k h
    · exact rowP_two _ h
theorem invs_len (zs : List Int) : (invs zs).length ≤ zs.length * zs.length := invK_len _ _
/-- the pairs with first place k whose second place is below p -/
def rowQ (zs : List Int) (k p : Nat) : List (List Int) := rowP zs k (p - (k + 1))
theorem rowQ_start (zs : List Int) (k : Nat) : rowQ zs k (k + 1) = [] := by simp [rowQ, rowP]
theorem rowQ_yes {zs : List Int} {k p : Nat} (h : k + 1 ≤ p) (hlt : gi zs p < gi zs k) : rowQ zs k (p + 1) = rowQ zs k p ++ [[(k : Int), (p : Int)]] := by
  have e : p + 1 - (k + 1) = p - (k + 1) + 1 := by omega
  have e2 : k + 1 + (p - (k + 1)) = p := by omega
  unfold rowQ
  rw [e, rowP_yes (by rw [e2]; exact hlt), e2]
theorem rowQ_no {zs : List Int} {k p : Nat} (h : k + 1 ≤ p) (hlt : ¬ gi zs p < gi zs k) : rowQ zs k (p + 1) = rowQ zs k p := by
  have e : p + 1 - (k + 1) = p - (k + 1) + 1 := by omega
  have e2 : k + 1 + (p - (k + 1)) = p := by omega
  unfold rowQ
  rw [e, rowP_no (by rw [e2]; exact hlt)]
theorem invK_row (zs : List Int) (k : Nat) : invK zs (k + 1) = invK zs k ++ rowQ zs k zs.length := rfl
theorem invQ_len {zs : List Int} {k p : Nat} (hk : k ≤ 8) (hp : p ≤ 9) (h8 : zs.length ≤ 8) : (invK zs k ++ rowQ zs k p).length ≤ 100 := by
  have h1 := invK_len zs k
  have h2 := rowP_len zs k (p - (k + 1))
  have h3 : k * zs.length ≤ 8 * 8 := Nat.mul_le_mul hk h8
  simp only [List.length_append, rowQ]
  omega
end Go.Proofs.Ytcjdojnninkgbaa
namespace Go.Proofs.Ytcjdojnninkgbaa
open Go Go.RowKit

/-- how many of the m places behind i have less -/
def cntB (zs : List Int) (i : Nat) : Nat → Nat
  | 0 => 0
  | m + 1 => cntB zs i m + (if gi zs (i + 1 + m) < gi zs i then 1 else 0)
theorem cntB_le (zs : List Int) (i : Nat) : ∀ m, cntB zs i m ≤ m
  | 0 => Nat.le_refl _
  | m + 1 => by have := cntB_le zs i m; simp only [cntB]; split <;> omega
theorem cntB_yes {zs : List Int} {i m : Nat} (h : gi zs (i + 1 + m) < gi zs i) : cntB zs i (m + 1) = cntB zs i m + 1 := by simp only [cntB]; rw [if_pos h]
theorem cntB_no {zs : List Int} {i m : Nat} (h : ¬ gi zs (i + 1 + m) < gi zs i) : cntB zs i (m + 1) = cntB zs i m := by simp only [cntB]; rw [if_neg h, Nat.add_zero]
theorem cntB_rowP (zs : List Int) (i : Nat) : ∀ m, (rowP zs i m).length = cntB zs i m
  | 0 => rfl
  | m + 1 => by simp only [rowP, cntB, List.length_append]; rw [cntB_rowP zs i m]; split <;> simp
/-- the code of the first k places -/
def codeK (zs : List Int) : Nat → List Int
  | 0 => []
  | k + 1 => codeK zs k ++ [(cntB zs k (zs.length - (k + 1)) : Int)]
theorem codeK_len (zs : List Int) : ∀ k, (codeK zs k).length = k
  | 0 => rfl
  | k + 1 => by simp [codeK, codeK_len zs k]
def codeL (zs : List Int) : List Int := codeK zs zs.length
/-- how many inversions the first k places have -/
def invN (zs : List Int) : Nat → Nat
  | 0 => 0
  | k + 1 => invN zs k + cntB zs k (zs.length - (k + 1))
theorem invN_len (zs : List Int) : ∀ k, (invK zs k).length = invN zs k
  | 0 => rfl
  | k + 1 => by simp only [invK, invN, List.length_append]; rw [invN_len zs k, cntB_rowP]
/-- the first k places that have more than the next -/
def dscK (zs : List Int) : Nat → List Int
  | 0 => []
  | k + 1 => dscK zs k ++ (if gi zs (k + 1) < gi zs k then [(k : Int)] else [])
theorem dscK_len (zs : List Int) : ∀ k, (dscK zs k).length ≤ k
  | 0 => Nat.le_refl _
  | k + 1 => by have := dscK_len zs k; simp only [dscK, List.length_append]; split <;> simp <;> omega
def dscL (zs : List Int) : List Int := dscK zs (zs.length - 1)
/-- the order of a code, out of the places that are left; none where there is none -/
def orderC : List Int → List Int → Option (List Int)
  | _, [] => some []
  | left, x :: xs => if 0 ≤ x ∧ x < left.length then (orderC (left.eraseIdx x.toNat) xs).map fun r => gi left x.toNat :: r else none
def upto (n : Nat) : List Int := (List.range n).map fun (k : Nat) => (k : Int)
theorem upto_len (n : Nat) : (upto n).length = n := by simp [upto]
theorem upto_succ (n : Nat) : upto (n + 1) = upto n ++ [(n : Int)] := by simp [upto, List.range_succ]
def orderL (xs : List Int) : Option (List Int) := orderC (upto xs.length) xs
theorem orderC_len : ∀ (xs left r : List Int), orderC left xs = some r → r.length = xs.length
  | [], _, r, h => by simp only [orderC] at h; cases h; rfl
  | x :: xs, left, r, h => by
    simp only [orderC] at h
    split at h
    · obtain ⟨r2, hr2, rfl⟩ := Option.map_eq_some_iff.1 h
      simp [orderC_len xs _ _ hr2]
    · cases h
end Go.Proofs.Ytcjdojnninkgbaa
