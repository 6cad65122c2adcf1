/- The mathematics of rungs that compare: what they make of a list, and where they exchange. Nothing of the program is said here. -/
import Derived.Test.YtbfilmdociemmaaMgA
namespace Go.Proofs.Ytbfilmdociemmaa
open Go Go.RowKit

/-- the rung between places r and r + 1 exchanges -/
def exAt (vs : List Int) (r : Nat) : Bool := decide (gi vs (r + 1) < gi vs r)
/-- what it makes of the list -/
def cmpAt (vs : List Int) (r : Nat) : List Int := if exAt vs r = true then (vs.set r (gi vs (r + 1))).set (r + 1) (gi vs r) else vs
/-- what all rungs make of it -/
def runS (zs vs : List Int) : List Int := zs.foldl (fun v r => cmpAt v r.toNat) vs
/-- what the first k rungs make of it -/
def runK (zs vs : List Int) (k : Nat) : List Int := runS (zs.take k) vs
/-- where the first k rungs exchange -/
def exK (zs vs : List Int) (k : Nat) : List Int := ((List.range k).filter fun j => exAt (runK zs vs j) (gi zs j).toNat).map fun (j : Nat) => (j : Int)
def exL (zs vs : List Int) : List Int := exK zs vs zs.length

theorem exAt_iff {vs : List Int} {r : Nat} : exAt vs r = true ↔ gi vs (r + 1) < gi vs r := by unfold exAt; rw [decide_eq_true_iff]
theorem cmpAt_length (vs : List Int) (r : Nat) : (cmpAt vs r).length = vs.length := by
  unfold cmpAt; split <;> simp
theorem cmpAt_no {vs : List Int} {r : Nat} (h : exAt vs r = false) : cmpAt vs r = vs := by unfold cmpAt; rw [if_neg (by rw [h]; decide)]
theorem cmpAt_yes {vs : List Int} {r : Nat} (h : exAt vs r = true) : cmpAt vs r = (vs.set r (gi vs (r + 1))).set (r + 1) (gi vs r) := by unfold cmpAt; rw [if_pos h]
theorem runS_length (zs : List Int) : ∀ vs : List Int, (runS zs vs).length = vs.length := by
  induction zs with
  | nil => intro vs; rfl
  | cons z zs ih => intro vs; exact (ih _).trans (cmpAt_length _ _)
theorem runK_length (zs vs : List Int) (k : Nat) : (runK zs vs k).length = vs.length := runS_length _ _
theorem runK_zero (zs vs : List Int) : runK zs vs 0 = vs := by simp [runK, runS]
theorem runK_succ (zs vs : List Int) (k : Nat) (h : k < zs.length) : runK zs vs (k + 1) = cmpAt (runK zs vs k) (gi zs k).toNat := by
  unfold runK runS
  rw [List.take_succ_eq_append_getElem h, List.foldl_append, gi_lt h]; rfl
theorem runK_all (zs vs : List Int) : runK zs vs zs.length = runS zs vs := by simp [runK]
theorem exK_zero (zs vs : List Int) : exK zs vs 0 = [] := rfl
theorem exK_succ (zs vs : List Int) (k : Nat) : exK zs vs (k + 1) = if exAt (runK zs vs k) (gi zs k).toNat = true then exK zs vs k ++ [(k : Int)] else exK zs vs k := by
  unfold exK
  rw [List.range_succ, List.filter_append]
  by_cases h : exAt (runK zs vs k) (gi zs k).toNat = true
  · rw [if_pos h]; simp [h]
  · rw [if_neg h]
    simp only [Bool.not_eq_true] at h
    simp [h]
theorem exK_le (zs vs : List Int) (k : Nat) : (exK zs vs k).length ≤ k := by
  unfold exK
  rw [List.length_map]
  exact Nat.le_trans (List.length_filter_le _ _) (by simp)
theorem mem_exK {zs vs : List Int} {k : Nat} {j : Int} : j ∈ exK zs vs k ↔ ∃ i : Nat, j = i ∧ i < k ∧ exAt (runK zs vs i) (gi zs i).toNat = true := by
  unfold exK
  simp only [List.mem_map, List.mem_filter, List.mem_range]
  exact ⟨fun ⟨i, ⟨h1, h2⟩, h3⟩ => ⟨i, h3.symm, h1, h2⟩, fun ⟨i, h3, h1, h2⟩ => ⟨i, ⟨h1, h2⟩, h3.symm⟩⟩

/-- element j behind a rung -/
theorem gi_cmpAt (vs : List Int) (r j : Nat) (h : r + 1 < vs.length) :
    gi (cmpAt vs r) j = if j = r then min (gi vs r) (gi vs (r + 1)) else if j = r + 1 then max (gi vs r) (gi vs (r + 1)) else gi vs j := by
  by_cases he : exAt vs r = true
  · have hlt := exAt_iff.1 he
    rw [cmpAt_yes he, gi_set _ _ _ _ (by simpa using h), gi_set _ _ _ _ (by omega)]
    by_cases h1 : j = r + 1
    · rw [if_pos h1, if_neg (by omega), if_pos h1]; omega
    · rw [if_neg h1]
      by_cases h2 : j = r
      · rw [if_pos h2, if_pos h2]; omega
      · rw [if_neg h2, if_neg h2, if_neg h1]
  · have hge : ¬ gi vs (r + 1) < gi vs r := fun x => he (exAt_iff.2 x)
    simp only [Bool.not_eq_true] at he
    rw [cmpAt_no he]
    by_cases h2 : j = r
    · rw [if_pos h2, h2]; omega
    · rw [if_neg h2]
      by_cases h1 : j = r + 1
      · rw [if_pos h1, h1]; omega
      · rw [if_neg h1]

/-- no number is greater than the next one -/
def srtB (vs : List Int) : Bool := decide (∀ i, i < vs.length → i + 1 < vs.length → gi vs i ≤ gi vs (i + 1))
theorem srtB_iff {vs : List Int} : srtB vs = true ↔ ∀ i, i + 1 < vs.length → gi vs i ≤ gi vs (i + 1) := by
  unfold srtB; rw [decide_eq_true_iff]
  exact ⟨fun h i hi => h i (by omega) hi, fun h i _ hi => h i hi⟩
theorem srtB_no {vs : List Int} {i : Nat} (hi : i + 1 < vs.length) (h : gi vs (i + 1) < gi vs i) : srtB vs = false := by
  rcases e : srtB vs with _ | _
  · rfl
  · have := srtB_iff.1 e i hi; omega
/-- all rungs lie within -/
def rungsIn (zs : List Int) (n : Nat) : Prop := ∀ j, j < zs.length → 0 ≤ gi zs j ∧ (gi zs j).toNat + 1 < n
theorem rungsIn_of_lad {W : Int} {zs : List Int} (h : lad W zs = true) : rungsIn zs W.toNat := by
  intro j hj
  have h1 := lad_at h hj
  have h2 := (lad_iff.1 h).1
  omega
theorem cmpAt_sorted {vs : List Int} {r : Nat} (h : srtB vs = true) (hr : r + 1 < vs.length) : exAt vs r = false := by
  rcases e : exAt vs r with _ | _
  · rfl
  · have h1 := exAt_iff.1 e
    have h2 := srtB_iff.1 h r hr
    omega
/-- what is sorted stays -/
theorem runK_sorted {zs vs : List Int} (hz : rungsIn zs vs.length) {k : Nat} (hs : srtB (runK zs vs k) = true) : ∀ j, k ≤ j → j ≤ zs.length → runK zs vs j = runK zs vs k := by
  intro j hkj
  induction j with
  | zero => intro _; obtain rfl : k = 0 := by omega
            rfl
  | succ j ih =>
    intro hj
    by_cases e : k = j + 1
    · rw [e]
    · have h1 := ih (by omega) (by omega)
      rw [runK_succ _ _ _ (by omega), h1, cmpAt_no]
      refine cmpAt_sorted hs ?_
      rw [runK_length]; exact (hz j (by omega)).2
theorem exAt_sorted {zs vs : List Int} (hz : rungsIn zs vs.length) {k : Nat} (hs : srtB (runK zs vs k) = true) {j : Nat} (hkj : k ≤ j) (hj : j < zs.length) : exAt (runK zs vs j) (gi zs j).toNat = false := by
  rw [runK_sorted hz hs j hkj (by omega)]
  exact cmpAt_sorted hs (by rw [runK_length]; exact (hz j hj).2)
/-- where nothing is exchanged any more nothing changes -/
theorem runK_quiet {zs vs : List Int} {k : Nat} : ∀ j, k ≤ j → j ≤ zs.length → (∀ i, k ≤ i → i < j → exAt (runK zs vs i) (gi zs i).toNat = false) → runK zs vs j = runK zs vs k := by
  intro j hkj
  induction j with
  | zero => intro _ _; obtain rfl : k = 0 := by omega
            rfl
  | succ j ih =>
    intro hj hq
    by_cases e : k = j + 1
    · rw [e]
    · rw [runK_succ _ _ _ (by omega), cmpAt_no (hq j (by omega) (by omega)), ih (by omega) (by omega) (fun i h1 h2 => hq i h1 (by omega))]
end Go.Proofs.Ytbfilmdociemmaa
