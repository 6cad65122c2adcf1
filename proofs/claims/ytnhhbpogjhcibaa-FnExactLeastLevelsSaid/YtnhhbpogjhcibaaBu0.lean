/- LeastSorting, and the rungs of bubbling, as a list. -/
import Derived.Test.YtnhhbpogjhcibaaMgC
import Derived.Test.YtnhhbpogjhcibaaMgD
import Derived.Test.YtnhhbpogjhcibaaMgE
import Derived.Test.YtnhhbpogjhcibaaApS
namespace Go.Proofs.Ytnhhbpogjhcibaa
open Go Go.RowKit

def lsN (x : Int) : Int := if inB x 2 8 = true then (x * (x - 1)).tdiv 2 else 0

/-- 0, 1, .., k - 1 -/
def upsN (k : Nat) : List Int := (List.range k).map fun i : Nat => (i : Int)
theorem upsN_len (k : Nat) : (upsN k).length = k := by simp [upsN]
theorem upsN_succ (k : Nat) : upsN (k + 1) = upsN k ++ [(k : Int)] := by simp [upsN, List.range_succ]
/-- the rungs of bubbling, of the first j rounds -/
def bubK (n : Nat) : Nat → List Int
  | 0 => []
  | j + 1 => bubK n j ++ upsN (n - 1 - j)
theorem bubK_len (n : Nat) (h : n ≤ 8) : ∀ j, (bubK n j).length ≤ 7 * j
  | 0 => by simp [bubK]
  | j + 1 => by
    have := bubK_len n h j
    simp only [bubK, List.length_append, upsN_len]
    omega
def bubL (x : Int) : List Int := ifL (inB x 2 8) (bubK x.toNat (x.toNat - 1))
theorem giMem {zs : List Int} {j : Nat} (h : j < zs.length) : gi zs j ∈ zs := by rw [gi_lt h]; exact List.getElem_mem h
theorem upsN_mem {k : Nat} {y : Int} (h : y ∈ upsN k) : 0 ≤ y ∧ y < k := by
  unfold upsN at h
  obtain ⟨i, hi, rfl⟩ := List.mem_map.1 h
  have := List.mem_range.1 hi
  omega
theorem bubK_mem {n : Nat} {y : Int} (h2 : 2 ≤ n) : ∀ j, y ∈ bubK n j → 0 ≤ y ∧ y ≤ (n : Int) - 2
  | 0, h => by simp [bubK] at h
  | j + 1, h => by
    simp only [bubK, List.mem_append] at h
    rcases h with h | h
    · exact bubK_mem h2 j h
    · have := upsN_mem h; omega
theorem bubK_lad {n : Nat} (h2 : 2 ≤ n) (h8 : n ≤ 8) : lad (n : Int) (bubK n (n - 1)) = true := by
  have := bubK_len n h8 (n - 1)
  refine lad_iff.2 ⟨by omega, by omega, allIn_true fun j hj => ?_⟩
  exact inB_true (bubK_mem h2 _ (giMem hj))
theorem bubL_len (x : Int) : (bubL x).length ≤ 1000 := by
  unfold bubL
  rcases h : inB x 2 8 with _ | _
  · rw [ifL_no]; simp
  · rw [ifL_yes]
    have := inB_iff.1 h
    have := bubK_len x.toNat (by omega) (x.toNat - 1)
    omega

/-- the rungs of odd and even levels: of one level those below 2 i + level mod 2 -/
def oeLev (v : Nat) : Nat → List Int
  | 0 => []
  | i + 1 => oeLev v i ++ [((v % 2 + 2 * i : Nat) : Int)]
theorem oeLev_len (v : Nat) : ∀ i, (oeLev v i).length = i
  | 0 => rfl
  | i + 1 => by simp [oeLev, oeLev_len v i]
/-- how many rungs a level has -/
def oeCnt (n v : Nat) : Nat := (n - v % 2) / 2
def oeK (n : Nat) : Nat → List Int
  | 0 => []
  | v + 1 => oeK n v ++ oeLev v (oeCnt n v)
theorem oeK_len (n : Nat) (h : n ≤ 8) : ∀ j, (oeK n j).length ≤ 4 * j
  | 0 => by simp [oeK]
  | j + 1 => by
    have := oeK_len n h j
    simp only [oeK, List.length_append, oeLev_len, oeCnt]
    omega
def oeB (x y : Int) : Bool := inB x 2 8 && inB y 0 10 && lad x (oeK x.toNat y.toNat)
def oeL (x y : Int) : List Int := ifL (oeB x y) (oeK x.toNat y.toNat)
theorem oeL_len (x y : Int) : (oeL x y).length ≤ 1000 := by
  unfold oeL
  rcases h : oeB x y with _ | _
  · rw [ifL_no]; simp
  · rw [ifL_yes]
    unfold oeB at h
    simp only [Bool.and_eq_true] at h
    have h1 := inB_iff.1 h.1.1
    have h2 := inB_iff.1 h.1.2
    have := oeK_len x.toNat (by omega) y.toNat
    omega
end Go.Proofs.Ytnhhbpogjhcibaa
