/- Lists made number by number, in order, of those that fit. Mathematics alone. -/
import Derived.Test.YtbfilmdociemmaaMgF
namespace Go.Proofs.Ytbfilmdociemmaa
open Go

/-- a list, followed by each of the first so many numbers that fit behind it -/
def extF (fits : List Int → Nat → Bool) (q : List Int) : Nat → List (List Int)
  | 0 => []
  | x + 1 => extF fits q x ++ (if fits q x = true then [q ++ [(x : Int)]] else [])
def lvlF (fits : List Int → Nat → Bool) (c : Nat) (L : List (List Int)) : Nat → List (List Int)
  | 0 => []
  | j + 1 => lvlF fits c L j ++ extF fits (gz L j) c
def allF (fits : List Int → Nat → Bool) (c : Nat) : Nat → List (List Int)
  | 0 => [[]]
  | k + 1 => lvlF fits c (allF fits c k) (allF fits c k).length
section
variable {fits : List Int → Nat → Bool} {c : Nat}
theorem extF_yes {q : List Int} {x : Nat} (h : fits q x = true) : extF fits q (x + 1) = extF fits q x ++ [q ++ [(x : Int)]] := by simp only [extF]; rw [if_pos h]
theorem extF_no {q : List Int} {x : Nat} (h : fits q x = false) : extF fits q (x + 1) = extF fits q x := by simp only [extF]; rw [if_neg (by rw [h]; simp), List.append_nil]
theorem extF_len (q : List Int) : ∀ x, (extF fits q x).length ≤ x
  | 0 => by simp [extF]
  | x + 1 => by
    have := extF_len q x
    rcases h : fits q x with _ | _
    · rw [extF_no h]; omega
    · rw [extF_yes h, List.length_append]; simp; omega
theorem lvlF_len (L : List (List Int)) : ∀ j, (lvlF fits c L j).length ≤ j * c
  | 0 => by simp [lvlF]
  | j + 1 => by
    simp only [lvlF]
    rw [List.length_append, Nat.succ_mul]
    have := lvlF_len L j
    have := extF_len (fits := fits) (gz L j) c
    omega
theorem mem_extF {q r : List Int} : ∀ x, r ∈ extF fits q x → ∃ y : Nat, y < x ∧ r = q ++ [(y : Int)]
  | 0, h => by simp [extF] at h
  | x + 1, h => by
    rcases hf : fits q x with _ | _
    · rw [extF_no hf] at h
      obtain ⟨y, h1, h2⟩ := mem_extF x h
      exact ⟨y, by omega, h2⟩
    · rw [extF_yes hf, List.mem_append, List.mem_singleton] at h
      rcases h with h | h
      · obtain ⟨y, h1, h2⟩ := mem_extF x h
        exact ⟨y, by omega, h2⟩
      · exact ⟨x, by omega, h⟩
theorem mem_lvlF {L : List (List Int)} {r : List Int} : ∀ j, r ∈ lvlF fits c L j → ∃ i, i < j ∧ r ∈ extF fits (gz L i) c
  | 0, h => by simp [lvlF] at h
  | j + 1, h => by
    simp only [lvlF] at h
    rcases List.mem_append.1 h with h | h
    · obtain ⟨i, h1, h2⟩ := mem_lvlF j h
      exact ⟨i, by omega, h2⟩
    · exact ⟨j, by omega, h⟩
theorem gz_mem {L : List (List Int)} {i : Nat} (h : i < L.length) : gz L i ∈ L := by
  have : gz L i = L[i] := by simp [gz, List.getD, h]
  rw [this]; exact List.getElem_mem h
theorem allF_mem : ∀ k (r : List Int), r ∈ allF fits c k → r.length = k
  | 0, r, h => by simp [allF] at h; rw [h]; rfl
  | k + 1, r, h => by
    simp only [allF] at h
    obtain ⟨i, h1, h2⟩ := mem_lvlF _ h
    obtain ⟨y, _, rfl⟩ := mem_extF _ h2
    have := allF_mem k _ (gz_mem h1)
    simp [this]
theorem allF_row {k j : Nat} (hj : j < (allF fits c k).length) : (gz (allF fits c k) j).length = k := allF_mem k _ (gz_mem hj)
end
end Go.Proofs.Ytbfilmdociemmaa
