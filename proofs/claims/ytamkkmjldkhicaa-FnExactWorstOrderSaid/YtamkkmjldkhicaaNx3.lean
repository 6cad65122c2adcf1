/- All orders, one the next of the other. -/
import Derived.Test.YtamkkmjldkhicaaNx2
namespace Go.Proofs.Ytamkkmjldkhicaa
open Go Go.RowKit

/-- each is the next of the one before, behind the last there is none -/
def chainB : List (List Int) → Bool
  | [] => false
  | [p] => (nxI p (p.length - 1)).isNone
  | p :: q :: r => (match nxI p (p.length - 1) with | some i => nxL p i == q | none => false) && chainB (q :: r)
def okAll (n : Nat) : Bool := chainB (ordAll n) && (ordAll n).head? == some (upsN n)
set_option maxRecDepth 100000 in
theorem ok_two : okAll 2 = true := by decide +kernel
set_option maxRecDepth 100000 in
theorem ok_three : okAll 3 = true := by decide +kernel
set_option maxRecDepth 100000 in
theorem ok_four : okAll 4 = true := by decide +kernel
set_option maxRecDepth 100000 in
theorem ok_five : okAll 5 = true := by decide +kernel
set_option maxRecDepth 100000 in
theorem ok_six : okAll 6 = true := by decide +kernel
theorem ok_all {n : Nat} (h2 : 2 ≤ n) (h6 : n ≤ 6) : okAll n = true := by
  obtain rfl | rfl | rfl | rfl | rfl : n = 2 ∨ n = 3 ∨ n = 4 ∨ n = 5 ∨ n = 6 := by omega
  · exact ok_two
  · exact ok_three
  · exact ok_four
  · exact ok_five
  · exact ok_six
theorem chain_step : ∀ {L : List (List Int)}, chainB L = true → ∀ j, j + 1 < L.length → ∃ i, nxI (gz L j) ((gz L j).length - 1) = some i ∧ nxL (gz L j) i = gz L (j + 1)
  | [], h, _, _ => by simp [chainB] at h
  | [p], _, j, hj => by simp at hj
  | p :: q :: r, h, 0, _ => by
    simp only [chainB, Bool.and_eq_true] at h
    have h1 := h.1
    show ∃ i, nxI p (p.length - 1) = some i ∧ nxL p i = q
    split at h1
    · rename_i i hi
      exact ⟨i, hi, by simpa using h1⟩
    · cases h1
  | p :: q :: r, h, j + 1, hj => by
    simp only [chainB, Bool.and_eq_true] at h
    have := chain_step h.2 j (by simpa using hj)
    exact this
theorem chain_last : ∀ {L : List (List Int)}, chainB L = true → ∀ j, j + 1 = L.length → nxI (gz L j) ((gz L j).length - 1) = none
  | [], h, _, _ => by simp [chainB] at h
  | [p], h, j, hj => by
    obtain rfl : j = 0 := by simpa using hj
    simp only [chainB, Option.isNone_iff_eq_none] at h
    exact h
  | p :: q :: r, h, 0, hj => by simp at hj
  | p :: q :: r, h, j + 1, hj => by
    simp only [chainB, Bool.and_eq_true] at h
    exact chain_last h.2 j (by simpa using hj)
theorem ord_first {n : Nat} (h2 : 2 ≤ n) (h6 : n ≤ 6) : gz (ordAll n) 0 = upsN n ∧ 0 < (ordAll n).length := by
  have h := ok_all h2 h6
  unfold okAll at h
  simp only [Bool.and_eq_true, beq_iff_eq] at h
  have h3 := h.2
  cases hL : ordAll n with
  | nil => rw [hL] at h3; simp at h3
  | cons p r => rw [hL] at h3; simp at h3; exact ⟨h3, by simp⟩
theorem ord_row {n j : Nat} (hj : j < (ordAll n).length) : (gz (ordAll n) j).length = n := allF_row hj
theorem ord_len {n : Nat} (h6 : n ≤ 6) : (ordAll n).length ≤ 50000 := Nat.le_trans (allF_lenN ordF n n) (six_pow h6 (Nat.le_refl _))
theorem ord_step {n : Nat} (h2 : 2 ≤ n) (h6 : n ≤ 6) {j : Nat} (hj : j + 1 < (ordAll n).length) : ∃ i, nxI (gz (ordAll n) j) (n - 1) = some i ∧ nxL (gz (ordAll n) j) i = gz (ordAll n) (j + 1) := by
  have h := ok_all h2 h6
  unfold okAll at h
  simp only [Bool.and_eq_true] at h
  have := chain_step h.1 j hj
  rwa [ord_row (by omega)] at this
theorem ord_last {n : Nat} (h2 : 2 ≤ n) (h6 : n ≤ 6) {j : Nat} (hj : j + 1 = (ordAll n).length) : nxI (gz (ordAll n) j) (n - 1) = none := by
  have h := ok_all h2 h6
  unfold okAll at h
  simp only [Bool.and_eq_true] at h
  have := chain_last h.1 j hj
  rwa [ord_row (by omega)] at this
end Go.Proofs.Ytamkkmjldkhicaa
