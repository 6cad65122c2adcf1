/- The mathematics of chapter 1: ladders, ways, ends. Nothing of the program is said here. -/
import Derived.Test.YtnogmbhcphglkaaDoorWords
namespace Go.Proofs.YtnogmbhcphglkaaDoor
open Go Go.RowKit

def inB (n lo hi : Int) : Bool := decide (lo ≤ n ∧ n ≤ hi)
theorem inB_true {n lo hi : Int} (h : lo ≤ n ∧ n ≤ hi) : inB n lo hi = true := decide_eq_true h
theorem inB_false {n lo hi : Int} (h : ¬ (lo ≤ n ∧ n ≤ hi)) : inB n lo hi = false := decide_eq_false h
theorem inB_iff {n lo hi : Int} : inB n lo hi = true ↔ lo ≤ n ∧ n ≤ hi := decide_eq_true_iff

def allIn (zs : List Int) (lo hi : Int) : Bool := zs.all fun z => inB z lo hi
theorem allIn_true {zs : List Int} {lo hi : Int} (h : ∀ j, j < zs.length → inB (gi zs j) lo hi = true) : allIn zs lo hi = true := by
  unfold allIn
  rw [List.all_eq_true]
  intro z hz
  obtain ⟨j, hj, rfl⟩ := List.getElem_of_mem hz
  rw [← gi_lt hj]; exact h j hj
theorem allIn_false {zs : List Int} {lo hi : Int} {j : Nat} (hj : j < zs.length) (h : inB (gi zs j) lo hi = false) : allIn zs lo hi = false := by
  unfold allIn
  rw [List.all_eq_false]
  exact ⟨zs[j], List.getElem_mem hj, by rw [← gi_lt hj, h]; simp⟩
theorem allIn_at {zs : List Int} {lo hi : Int} (h : allIn zs lo hi = true) {j : Nat} (hj : j < zs.length) : lo ≤ gi zs j ∧ gi zs j ≤ hi := by
  unfold allIn at h
  rw [List.all_eq_true] at h
  have := h zs[j] (List.getElem_mem hj)
  rw [← gi_lt hj] at this
  exact inB_iff.1 this

/-- a ladder -/
def lad (W : Int) (zs : List Int) : Bool := inB W 2 8 && (decide (zs.length ≤ 60) && allIn zs 0 (W - 2))
theorem lad_iff {W : Int} {zs : List Int} : lad W zs = true ↔ (2 ≤ W ∧ W ≤ 8) ∧ zs.length ≤ 60 ∧ allIn zs 0 (W - 2) = true := by
  unfold lad
  rw [Bool.and_eq_true, Bool.and_eq_true, inB_iff, decide_eq_true_iff]
theorem lad_at {W : Int} {zs : List Int} (h : lad W zs = true) {j : Nat} (hj : j < zs.length) : 0 ≤ gi zs j ∧ gi zs j ≤ W - 2 := allIn_at (lad_iff.1 h).2.2 hj
theorem lad_no1 {W : Int} {zs : List Int} (h : inB W 2 8 = false) : lad W zs = false := by unfold lad; rw [h]; rfl
theorem lad_no2 {W : Int} {zs : List Int} (h : ¬ zs.length ≤ 60) : lad W zs = false := by unfold lad; rw [decide_eq_false h]; simp
theorem lad_no3 {W : Int} {zs : List Int} (h : allIn zs 0 (W - 2) = false) : lad W zs = false := by unfold lad; rw [h]; simp
theorem lad_yes {W : Int} {zs : List Int} (h1 : inB W 2 8 = true) (h2 : zs.length ≤ 60) : lad W zs = allIn zs 0 (W - 2) := by unfold lad; rw [h1, decide_eq_true h2]; rfl

/-- a ladder and one of its wires -/
def wire (W : Int) (zs : List Int) (s : Int) : Bool := lad W zs && inB s 0 (W - 1)
theorem wire_iff {W : Int} {zs : List Int} {s : Int} : wire W zs s = true ↔ lad W zs = true ∧ 0 ≤ s ∧ s ≤ W - 1 := by
  unfold wire; rw [Bool.and_eq_true, inB_iff]

/-- the wire on which one is behind a rung -/
def over (s r : Int) : Int := if s = r then r + 1 else if s = r + 1 then r else s

/-- the wires on which one is, at first and behind each rung -/
def down (zs : List Int) (s : Int) : List Int := match zs with
  | [] => [s]
  | r :: rs => s :: down rs (over s r)

/-- where one is behind the first k rungs -/
def at_ (zs : List Int) (s : Int) (k : Nat) : Int := (zs.take k).foldl over s

theorem down_length (zs : List Int) (s : Int) : (down zs s).length = zs.length + 1 := by
  induction zs generalizing s with
  | nil => rfl
  | cons r rs ih => simp [down, ih]
theorem gi_down (zs : List Int) (s : Int) (k : Nat) (h : k ≤ zs.length) : gi (down zs s) k = at_ zs s k := by
  induction zs generalizing s k with
  | nil => obtain rfl : k = 0 := by simpa using h
           rfl
  | cons r rs ih =>
    cases k with
    | zero => rfl
    | succ k =>
      have := ih (over s r) k (by simpa using h)
      simp only [down, gi, List.getD_cons_succ] at this ⊢
      rw [this]; rfl
theorem at_zero (zs : List Int) (s : Int) : at_ zs s 0 = s := by simp [at_]
theorem at_succ (zs : List Int) (s : Int) (k : Nat) (h : k < zs.length) : at_ zs s (k + 1) = over (at_ zs s k) (gi zs k) := by
  unfold at_
  rw [List.take_succ_eq_append_getElem h, List.foldl_append, gi_lt h]; rfl

theorem over_le (s r : Int) {W : Int} (h1 : 0 ≤ s ∧ s ≤ W - 1) (h2 : 0 ≤ r ∧ r ≤ W - 2) : 0 ≤ over s r ∧ over s r ≤ W - 1 := by
  unfold over
  split
  · omega
  · split <;> omega
theorem at_le {W : Int} {zs : List Int} {s : Int} (hz : ∀ j, j < zs.length → 0 ≤ gi zs j ∧ gi zs j ≤ W - 2) (hs : 0 ≤ s ∧ s ≤ W - 1) (k : Nat) (hk : k ≤ zs.length) : 0 ≤ at_ zs s k ∧ at_ zs s k ≤ W - 1 := by
  induction k with
  | zero => rw [at_zero]; exact hs
  | succ k ih =>
    rw [at_succ _ _ _ (by omega)]
    exact over_le _ _ (ih (by omega)) (hz k (by omega))

/-- the first k of them, one after the other -/
theorem down_take (zs : List Int) (s : Int) (k : Nat) (h : k ≤ zs.length) : (down zs s).take (k + 1) = (down zs s).take k ++ [at_ zs s k] := by
  have hl := down_length zs s
  rw [List.take_succ_eq_append_getElem (by omega), ← gi_lt, gi_down _ _ _ h]
def endOf (zs : List Int) (s : Int) : Int := at_ zs s zs.length
theorem gi_end (zs : List Int) (s : Int) : gi (down zs s) zs.length = endOf zs s := gi_down _ _ _ (Nat.le_refl _)
end Go.Proofs.YtnogmbhcphglkaaDoor
