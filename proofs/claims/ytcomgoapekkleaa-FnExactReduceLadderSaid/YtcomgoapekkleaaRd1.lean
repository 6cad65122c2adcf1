/- The result of a ladder is an order; how many rungs a ladder has too many. -/
import Derived.Test.YtcomgoapekkleaaLf5
import Derived.Test.YtcomgoapekkleaaC1f
import Derived.Test.YtcomgoapekkleaaMathO
import Derived.Test.YtcomgoapekkleaaC1m
namespace Go.Proofs.Ytcomgoapekkleaa
open Go Go.RowKit

theorem over_inj {s t r : Int} (h : s ≠ t) : over s r ≠ over t r := by
  unfold over
  split <;> split <;> (try split) <;> (try split) <;> omega
theorem at_inj {zs : List Int} {s t : Int} (h : s ≠ t) : ∀ (k : Nat), k ≤ zs.length → at_ zs s k ≠ at_ zs t k
  | 0, _ => by rw [at_zero, at_zero]; exact h
  | k + 1, hk => by rw [at_succ _ _ _ (by omega), at_succ _ _ _ (by omega)]; exact over_inj (at_inj h k (by omega))
theorem res_ord {N : Nat} {zs : List Int} (h : lad (N : Int) zs = true) : ord (res zs N) = true := by
  have h1 := lad_iff.1 h
  refine ord_iff.2 ⟨by rw [res_length]; omega, by rw [res_length]; omega, fun x hx => ?_, nodup_gi.2 fun i j hij hj => ?_⟩
  · obtain ⟨j, hj, rfl⟩ := mem_gi.1 hx
    rw [res_length] at hj
    rw [gi_res _ _ _ hj, res_length]
    have := at_le (W := (N : Int)) (zs := zs) (s := (j : Int)) (fun j hj => lad_at h hj) (by omega) zs.length (Nat.le_refl _)
    unfold endOf
    omega
  · rw [res_length] at hj
    rw [gi_res _ _ _ (by omega), gi_res _ _ _ hj]
    exact at_inj (by omega) _ (Nat.le_refl _)
theorem res_in {N : Nat} {zs : List Int} (h : lad (N : Int) zs = true) : Inn8 (res zs N) := by
  have h2 := ord_iff.1 (res_ord h)
  refine ⟨h2.2.1, fun j hj => ?_⟩
  have := h2.2.2.1 _ (mem_gi.2 ⟨j, hj, rfl⟩)
  omega
/-- how many rungs a ladder has too many -/
def needN (W : Int) (zs : List Int) : Int := if lad W zs = true then (zs.length : Int) - (invL (res zs W.toNat) : Int) else 0
theorem needN_yes {N : Nat} {zs : List Int} (h : lad (N : Int) zs = true) : needN N zs = (zs.length : Int) - (invL (res zs N) : Int) := by unfold needN; rw [if_pos h, Int.toNat_natCast]
theorem needN_no {W : Int} {zs : List Int} (h : lad W zs = false) : needN W zs = 0 := by unfold needN; rw [h]; rfl
def lstB (W : Int) (zs : List Int) : Bool := lad W zs && decide (needN W zs = 0)
theorem lstB_no {W : Int} {zs : List Int} (h : lad W zs = false) : lstB W zs = false := by simp [lstB, h]
theorem lstB_yes {N : Nat} {zs : List Int} (h : lad (N : Int) zs = true) : lstB N zs = ((zs.length : Int) == (invL (res zs N) : Int)) := by
  unfold lstB
  rw [h, needN_yes h, Bool.true_and]
  by_cases e : (zs.length : Int) = (invL (res zs N) : Int)
  · rw [decide_eq_true (by omega)]; exact (beq_iff_eq.2 e).symm
  · rw [decide_eq_false (by omega)]; exact (beq_eq_false_iff_ne.2 e).symm
def redL (W : Int) (zs : List Int) : List Int := ifL (lad W zs) (firstL (res zs W.toNat))
theorem redL_len (W : Int) (zs : List Int) : (redL W zs).length ≤ 1000 := by
  unfold redL
  rcases lad W zs with _ | _
  · rw [ifL_no]; simp
  · rw [ifL_yes]; have := firstL_len (res zs W.toNat); omega
end Go.Proofs.Ytcomgoapekkleaa
