/- Least poles: few inversions keep winds small. -/
import Derived.Test.YtpkdeoehfnnchaaLp3
namespace Go.Proofs.Ytpkdeoehfnnchaa
open Go Go.RowKit

theorem sumN_le {n : Nat} {f g : Nat → Nat} (h : ∀ i, i < n → f i ≤ g i) : sumN n f ≤ sumN n g := by
  induction n with
  | zero => exact Nat.le_refl _
  | succ n ih =>
    have h1 := ih (fun i hi => h i (by omega))
    have h2 := h n (by omega)
    rw [sumN, sumN]; omega
theorem sumN_ge {n i : Nat} (f : Nat → Nat) (hi : i < n) : f i ≤ sumN n f := by
  induction n with
  | zero => omega
  | succ n ih =>
    rw [sumN]
    by_cases h : i = n
    · subst h; omega
    · have := ih (by omega); omega
/-- a row and a column that meet in 0 are no more than the whole -/
theorem cross_le {n i : Nat} (h : Nat → Nat → Nat) (hi : i < n) (h0 : h i i = 0) : sumN n (fun j => h i j + h j i) ≤ sq n h := by
  rw [sumN_both]
  have e : sumN n (fun a => (if a = i then sumN n (fun j => h i j) else 0) + h a i) = sumN n (fun j => h i j) + sumN n (fun j => h j i) := by
    rw [sumN_both, sumN_one hi]
  rw [← e]
  unfold sq
  refine sumN_le fun a ha => ?_
  by_cases hai : a = i
  · subst hai; rw [if_pos rfl, h0]; omega
  · rw [if_neg hai]
    have := sumN_ge (fun j => h a j) hi
    omega
section
variable {zs us : List Int} (n3 : 3 ≤ zs.length) (n8 : zs.length ≤ 8) (hl : us.length = zs.length) (zr : ∀ j, j < zs.length → 0 ≤ gi zs j ∧ gi zs j < zs.length)
include n3 zr
theorem fl_two (i j : Nat) (hi : i < zs.length) (hj : j < zs.length) : flP zs us i j = gi us j - gi us i ∨ flP zs us i j = gi us j - gi us i - 1 := by
  have at' : ∀ r : Nat, r < zs.length → plc zs us (r : Int) = gi zs r + (zs.length : Int) * gi us r := fun r h => by
    unfold plc
    rw [Int.emod_eq_of_lt (by omega) (by omega), Int.toNat_natCast]
    omega
  unfold flP
  rw [at' i hi, at' j hj]
  have a1 := zr i hi; have a2 := zr j hj
  obtain ⟨N, hN⟩ : ∃ N : Int, N = (zs.length : Int) := ⟨_, rfl⟩
  rw [← hN] at a1 a2 ⊢
  have e : gi zs j + N * gi us j - (gi zs i + N * gi us i) = (gi zs j - gi zs i) + N * (gi us j - gi us i) := by rw [Int.mul_sub]; omega
  rw [e, Int.add_mul_ediv_left _ _ (by omega)]
  have h1 : (gi zs j - gi zs i) / N = 0 ∨ (gi zs j - gi zs i) / N = -1 := by
    rcases Int.lt_or_le (gi zs j - gi zs i) 0 with h | h
    · right
      have := Int.ediv_emod_unique (a := gi zs j - gi zs i) (b := N) (q := -1) (r := gi zs j - gi zs i + N) (by omega)
      exact (this.2 (by omega)).1
    · left; exact Int.ediv_eq_zero_of_lt h (by omega)
  omega
theorem sym_low (i j : Nat) (hi : i < zs.length) (hj : j < zs.length) (hij : j ≠ i) : gi us i - gi us j - 1 ≤ (symP zs us i j : Int) ∧ gi us j - gi us i - 1 ≤ (symP zs us i j : Int) := by
  rcases Nat.lt_or_ge i j with h | h
  · rw [symP_lt h]
    have := fl_two n3 zr i j (us := us) hi hj
    omega
  · rw [symP_gt (by omega)]
    have := fl_two n3 zr j i (us := us) hj hi
    omega
include hl
theorem row_low (i : Nat) (hi : i < zs.length) (k : Nat) (hk : k ≤ zs.length) : (k : Int) * gi us i - sumK us k - k + (if i < k then 1 else 0) ≤ ((sumN k (fun j => symP zs us i j) : Nat) : Int) ∧ sumK us k - (k : Int) * gi us i - k + (if i < k then 1 else 0) ≤ ((sumN k (fun j => symP zs us i j) : Nat) : Int) := by
  induction k with
  | zero => rw [sumK_zero]; simp [sumN]
  | succ k ih =>
    have h1 := ih (by omega)
    rw [sumN, sumK_succ _ _ (by omega)]
    have e : ((k + 1 : Nat) : Int) * gi us i = (k : Int) * gi us i + gi us i := by rw [Int.natCast_add, Int.add_mul]; omega
    rw [e, Int.natCast_add]
    by_cases h : k = i
    · subst h
      rw [if_neg (by omega)] at h1
      rw [if_pos (by omega), symP_self]
      omega
    · have h2 := sym_low n3 zr i k (us := us) hi (by omega) h
      by_cases h3 : i < k
      · rw [if_pos h3] at h1; rw [if_pos (by omega)]; omega
      · rw [if_neg h3] at h1; rw [if_neg (by omega)]; omega
include n8
/-- at most sixty inversions: no wind is beyond twenty -/
theorem wind_in (hs : us.sum = 0) (hv : invT zs us ≤ 60) (i : Nat) (hi : i < zs.length) : -20 ≤ gi us i ∧ gi us i ≤ 20 := by
  have h1 := row_low n3 hl zr i hi zs.length (Nat.le_refl _)
  have h2 := cross_le (invP zs us) hi (by unfold invP; rw [if_neg (by omega)])
  have e1 : sumK us zs.length = 0 := by rw [← hl, sumK_all, hs]
  rw [e1, if_pos hi] at h1
  have h3 : sumN zs.length (fun j => symP zs us i j) ≤ 60 := Nat.le_trans h2 hv
  obtain ⟨S, hS⟩ : ∃ S, S = sumN zs.length (fun j => symP zs us i j) := ⟨_, rfl⟩
  rw [← hS] at h1 h3
  obtain ⟨n, hn⟩ : ∃ n, n = zs.length := ⟨_, rfl⟩
  rw [← hn] at h1 n3 n8
  obtain ⟨u, hu⟩ : ∃ u, u = gi us i := ⟨_, rfl⟩
  rw [← hu] at h1 ⊢
  clear hS hn hu hv h2 e1
  obtain rfl | rfl | rfl | rfl | rfl | rfl : n = 3 ∨ n = 4 ∨ n = 5 ∨ n = 6 ∨ n = 7 ∨ n = 8 := by omega
  all_goals omega
end
end Go.Proofs.Ytpkdeoehfnnchaa
