/- The inversions of a list, as the model counts them. -/
import Derived.Test.YtcomgoapekkleaaWords
namespace Go.Proofs.Ytcomgoapekkleaa
open Go Go.RowKit

/-- the pairs with first place i whose second place is one of the m places behind i -/
def rowP (zs : List Int) (i : Nat) : Nat → List (List Int)
  | 0 => []
  | m + 1 => rowP zs i m ++ (if gi zs (i + 1 + m) < gi zs i then [[(i : Int), ((i + 1 + m : Nat) : Int)]] else [])
/-- the pairs with first places below k -/
def invK (zs : List Int) : Nat → List (List Int)
  | 0 => []
  | k + 1 => invK zs k ++ rowP zs k (zs.length - (k + 1))
def invs (zs : List Int) : List (List Int) := invK zs zs.length
theorem rowP_yes {zs : List Int} {i m : Nat} (h : gi zs (i + 1 + m) < gi zs i) : rowP zs i (m + 1) = rowP zs i m ++ [[(i : Int), ((i + 1 + m : Nat) : Int)]] := by simp only [rowP]; rw [if_pos h]
theorem rowP_no {zs : List Int} {i m : Nat} (h : ¬ gi zs (i + 1 + m) < gi zs i) : rowP zs i (m + 1) = rowP zs i m := by simp only [rowP]; rw [if_neg h, List.append_nil]
theorem rowP_len (zs : List Int) (i : Nat) : ∀ m, (rowP zs i m).length ≤ m
  | 0 => Nat.le_refl _
  | m + 1 => by
    have := rowP_len zs i m
    simp only [rowP, List.length_append]
    split <;> simp <;> omega
theorem invK_len (zs : List Int) : ∀ k, (invK zs k).length ≤ k * zs.length
  | 0 => by simp [invK]
  | k + 1 => by
    have := invK_len zs k
    have := rowP_len zs k (zs.length - (k + 1))
    simp only [invK, List.length_append]
    rw [Nat.add_mul]
    omega
theorem rowP_two {zs : List Int} {i : Nat} {x : List Int} : ∀ m, x ∈ rowP zs i m → x.length = 2
  | 0, h => by simp [rowP] at h
  | m + 1, h => by
    simp only [rowP, List.mem_append] at h
    rcases h with h | h
    · exact rowP_two m h
    · split at h
      · simp at h; subst h; rfl
      · simp at h
theorem invK_two {zs : List Int} {x : List Int} : ∀ k, x ∈ invK zs k → x.length = 2
  | 0, h => by simp [invK] at h
  | k + 1, h => by
    simp only [invK, List.mem_append] at h
    rcases h with h | h
    · exact invK_two k h
    · exact rowP_two _ h
theorem invs_len (zs : List Int) : (invs zs).length ≤ zs.length * zs.length := invK_len _ _
/-- the pairs with first place k whose second place is below p -/
def rowQ (zs : List Int) (k p : Nat) : List (List Int) := rowP zs k (p - (k + 1))
theorem rowQ_start (zs : List Int) (k : Nat) : rowQ zs k (k + 1) = [] := by simp [rowQ, rowP]
theorem rowQ_yes {zs : List Int} {k p : Nat} (h : k + 1 ≤ p) (hlt : gi zs p < gi zs k) : rowQ zs k (p + 1) = rowQ zs k p ++ [[(k : Int), (p : Int)]] := by
  have e : p + 1 - (k + 1) = p - (k + 1) + 1 := by omega
  have e2 : k + 1 + (p - (k + 1)) = p := by omega
  unfold rowQ
  rw [e, rowP_yes (by rw [e2]; exact hlt), e2]
theorem rowQ_no {zs : List Int} {k p : Nat} (h : k + 1 ≤ p) (hlt : ¬ gi zs p < gi zs k) : rowQ zs k (p + 1) = rowQ zs k p := by
  have e : p + 1 - (k + 1) = p - (k + 1) + 1 := by omega
  have e2 : k + 1 + (p - (k + 1)) = p := by omega
  unfold rowQ
  rw [e, rowP_no (by rw [e2]; exact hlt)]
theorem invK_row (zs : List Int) (k : Nat) : invK zs (k + 1) = invK zs k ++ rowQ zs k zs.length := rfl
theorem invQ_len {zs : List Int} {k p : Nat} (hk : k ≤ 8) (hp : p ≤ 9) (h8 : zs.length ≤ 8) : (invK zs k ++ rowQ zs k p).length ≤ 100 := by
  have h1 := invK_len zs k
  have h2 := rowP_len zs k (p - (k + 1))
  have h3 : k * zs.length ≤ 8 * 8 := Nat.mul_le_mul hk h8
  simp only [List.length_append, rowQ]
  omega
end Go.Proofs.Ytcomgoapekkleaa
