/- The mathematics of chapter 5: poles, ways around them, and how often one winds. Nothing of the program is said here. -/
import Derived.Test.YtpkdeoehfnnchaaMgA
namespace Go.Proofs.Ytpkdeoehfnnchaa
open Go Go.RowKit

/-- a pole -/
def pol (W : Int) (zs : List Int) : Bool := inB W 3 8 && (decide (zs.length ≤ 60) && allIn zs 0 (W - 1))
theorem pol_iff {W : Int} {zs : List Int} : pol W zs = true ↔ (3 ≤ W ∧ W ≤ 8) ∧ zs.length ≤ 60 ∧ allIn zs 0 (W - 1) = true := by
  unfold pol
  rw [Bool.and_eq_true, Bool.and_eq_true, inB_iff, decide_eq_true_iff]
theorem pol_at {W : Int} {zs : List Int} (h : pol W zs = true) {j : Nat} (hj : j < zs.length) : 0 ≤ gi zs j ∧ gi zs j ≤ W - 1 := allIn_at (pol_iff.1 h).2.2 hj
theorem pol_no1 {W : Int} {zs : List Int} (h : inB W 3 8 = false) : pol W zs = false := by unfold pol; rw [h]; rfl
theorem pol_no2 {W : Int} {zs : List Int} (h : ¬ zs.length ≤ 60) : pol W zs = false := by unfold pol; rw [decide_eq_false h]; simp
theorem pol_yes {W : Int} {zs : List Int} (h1 : inB W 3 8 = true) (h2 : zs.length ≤ 60) : pol W zs = allIn zs 0 (W - 1) := by unfold pol; rw [h1, decide_eq_true h2]; rfl

/-- a pole and one of its wires -/
def pwire (W : Int) (zs : List Int) (s : Int) : Bool := pol W zs && inB s 0 (W - 1)
theorem pwire_iff {W : Int} {zs : List Int} {s : Int} : pwire W zs s = true ↔ pol W zs = true ∧ 0 ≤ s ∧ s ≤ W - 1 := by
  unfold pwire; rw [Bool.and_eq_true, inB_iff]

/-- the wire behind a rung's own one -/
def pnext (W r : Int) : Int := if r + 1 = W then 0 else r + 1
/-- the wire on which one is behind a rung -/
def pstep (W s r : Int) : Int := if s = r then pnext W r else if s = pnext W r then r else s
/-- by how much one winds there -/
def pwind (W s r : Int) : Int := if r + 1 = W then (if s = r then 1 else if s = 0 then -1 else 0) else 0

/-- the wire and the winds behind the first k rungs -/
def pgo (W : Int) (zs : List Int) (s : Int) : Nat → Int × Int
  | 0 => (s, 0)
  | k + 1 => (pstep W (pgo W zs s k).1 (gi zs k), (pgo W zs s k).2 + pwind W (pgo W zs s k).1 (gi zs k))
def pat (W : Int) (zs : List Int) (s : Int) (k : Nat) : Int := (pgo W zs s k).1
def pwd (W : Int) (zs : List Int) (s : Int) (k : Nat) : Int := (pgo W zs s k).2
theorem pat_zero (W : Int) (zs : List Int) (s : Int) : pat W zs s 0 = s := rfl
theorem pwd_zero (W : Int) (zs : List Int) (s : Int) : pwd W zs s 0 = 0 := rfl
theorem pat_succ (W : Int) (zs : List Int) (s : Int) (k : Nat) : pat W zs s (k + 1) = pstep W (pat W zs s k) (gi zs k) := rfl
theorem pwd_succ (W : Int) (zs : List Int) (s : Int) (k : Nat) : pwd W zs s (k + 1) = pwd W zs s k + pwind W (pat W zs s k) (gi zs k) := rfl

theorem pnext_le {W r : Int} (h : 0 ≤ r ∧ r ≤ W - 1) : 0 ≤ pnext W r ∧ pnext W r ≤ W - 1 := by
  unfold pnext; split <;> omega
theorem pstep_le {W s r : Int} (h1 : 0 ≤ s ∧ s ≤ W - 1) (h2 : 0 ≤ r ∧ r ≤ W - 1) : 0 ≤ pstep W s r ∧ pstep W s r ≤ W - 1 := by
  unfold pstep
  split
  · exact pnext_le h2
  · split <;> omega
theorem pwind_le (W s r : Int) : -1 ≤ pwind W s r ∧ pwind W s r ≤ 1 := by
  unfold pwind; split
  · split
    · omega
    · split <;> omega
  · omega
theorem pat_le {W : Int} {zs : List Int} {s : Int} (hz : ∀ j, j < zs.length → 0 ≤ gi zs j ∧ gi zs j ≤ W - 1) (hs : 0 ≤ s ∧ s ≤ W - 1) (k : Nat) (hk : k ≤ zs.length) : 0 ≤ pat W zs s k ∧ pat W zs s k ≤ W - 1 := by
  induction k with
  | zero => exact hs
  | succ k ih => exact pstep_le (ih (by omega)) (hz k (by omega))
theorem pwd_le (W : Int) (zs : List Int) (s : Int) (k : Nat) : -(k : Int) ≤ pwd W zs s k ∧ pwd W zs s k ≤ k := by
  induction k with
  | zero => rw [pwd_zero]; omega
  | succ k ih => rw [pwd_succ]; have := pwind_le W (pat W zs s k) (gi zs k); omega

/-- the wires on which one is, at first and behind each rung -/
def pway (W : Int) (zs : List Int) (s : Int) : List Int := (List.range (zs.length + 1)).map fun k => pat W zs s k
theorem pway_length (W : Int) (zs : List Int) (s : Int) : (pway W zs s).length = zs.length + 1 := by simp [pway]
theorem gi_pway (W : Int) (zs : List Int) (s : Int) (k : Nat) (h : k ≤ zs.length) : gi (pway W zs s) k = pat W zs s k := by
  rw [gi_lt (by rw [pway_length]; omega)]; simp [pway]
theorem pway_take (W : Int) (zs : List Int) (s : Int) (k : Nat) (h : k ≤ zs.length) : (pway W zs s).take (k + 1) = (pway W zs s).take k ++ [pat W zs s k] := by
  have hl := pway_length W zs s
  rw [List.take_succ_eq_append_getElem (by omega), ← gi_lt, gi_pway _ _ _ _ h]

/-- the ends of those who start at the wires, and how often they wind -/
def pends (W : Int) (zs : List Int) (N : Nat) : List Int := (List.range N).map fun (i : Nat) => pat W zs (i : Int) zs.length
def pwinds (W : Int) (zs : List Int) (N : Nat) : List Int := (List.range N).map fun (i : Nat) => pwd W zs (i : Int) zs.length
theorem pends_length (W : Int) (zs : List Int) (N : Nat) : (pends W zs N).length = N := by simp [pends]
theorem pwinds_length (W : Int) (zs : List Int) (N : Nat) : (pwinds W zs N).length = N := by simp [pwinds]
theorem gi_pends (W : Int) (zs : List Int) {N i : Nat} (h : i < N) : gi (pends W zs N) i = pat W zs (i : Int) zs.length := by
  rw [gi_lt (by rw [pends_length]; exact h)]; simp [pends]
theorem gi_pwinds (W : Int) (zs : List Int) {N i : Nat} (h : i < N) : gi (pwinds W zs N) i = pwd W zs (i : Int) zs.length := by
  rw [gi_lt (by rw [pwinds_length]; exact h)]; simp [pwinds]
theorem pends_take (W : Int) (zs : List Int) {N k : Nat} (h : k < N) : (pends W zs N).take (k + 1) = (pends W zs N).take k ++ [pat W zs (k : Int) zs.length] := by
  have hl := pends_length W zs N
  rw [List.take_succ_eq_append_getElem (by omega), ← gi_lt, gi_pends _ _ h]
theorem pwinds_take (W : Int) (zs : List Int) {N k : Nat} (h : k < N) : (pwinds W zs N).take (k + 1) = (pwinds W zs N).take k ++ [pwd W zs (k : Int) zs.length] := by
  have hl := pwinds_length W zs N
  rw [List.take_succ_eq_append_getElem (by omega), ← gi_lt, gi_pwinds _ _ h]

/-- what a way around a pole wants of the rungs and of the start -/
structure PWires (W : Int) (zs : List Int) (s : Int) : Prop where
  W3 : 3 ≤ W
  W8 : W ≤ 8
  rg : ∀ j, j < zs.length → 0 ≤ gi zs j ∧ gi zs j ≤ W - 1
  st : 0 ≤ s ∧ s ≤ W - 1
  len : zs.length ≤ 60
theorem PWires.at {W : Int} {zs : List Int} {s : Int} (h : PWires W zs s) {k : Nat} (hk : k ≤ zs.length) : 0 ≤ pat W zs s k ∧ pat W zs s k ≤ W - 1 := pat_le h.rg h.st k hk
theorem PWires.of {W : Int} {zs : List Int} {s : Int} (h : pwire W zs s = true) : PWires W zs s :=
  have h1 := pol_iff.1 (pwire_iff.1 h).1
  ⟨by omega, by omega, fun _ hj => pol_at (pwire_iff.1 h).1 hj, (pwire_iff.1 h).2, h1.2.1⟩
theorem PWires.wire {W : Int} {zs : List Int} (h : pol W zs = true) {i : Nat} (hi : (i : Int) < W) : PWires W zs (i : Int) :=
  have h1 := pol_iff.1 h
  ⟨by omega, by omega, fun _ hj => pol_at h hj, by omega, h1.2.1⟩
end Go.Proofs.Ytpkdeoehfnnchaa
