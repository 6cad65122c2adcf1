/- Least poles: without a descent there is no inversion. -/
import Derived.Test.YtpkdeoehfnnchaaIn1
namespace Go.Proofs.Ytpkdeoehfnnchaa
open Go Go.RowKit

section
variable {zs us : List Int} (ok : TOk zs us) (hs : ∀ r : Nat, r < zs.length → plc zs us (r : Int) ≤ plc zs us ((r : Int) + 1))
include ok hs
/-- places rise from one to the next, wherever -/
theorem plc_next (x : Int) : plc zs us x ≤ plc zs us (x + 1) := by
  have n3 := ok.n3
  have e := emq x (n := (zs.length : Int))
  have h0 := Int.emod_nonneg x (b := (zs.length : Int)) (by omega)
  have h1 := Int.emod_lt_of_pos x (b := (zs.length : Int)) (by omega)
  obtain ⟨r, hr⟩ : ∃ r : Nat, x % (zs.length : Int) = (r : Int) := ⟨(x % (zs.length : Int)).toNat, by omega⟩
  rw [hr] at e h1
  have h2 := hs r (by omega)
  have e1 := plc_turn ok (r : Int) (x / (zs.length : Int))
  have e2 := plc_turn ok ((r : Int) + 1) (x / (zs.length : Int))
  rw [← e] at e1
  rw [show (r : Int) + 1 + (zs.length : Int) * (x / (zs.length : Int)) = x + 1 by omega] at e2
  omega
theorem plc_rise (k : Nat) (x : Int) : plc zs us x ≤ plc zs us (x + (k : Int)) := by
  induction k with
  | zero => rw [show x + ((0 : Nat) : Int) = x by omega]; exact Int.le_refl _
  | succ k ih =>
    have h := plc_next ok hs (x + (k : Int))
    rw [show x + (k : Int) + 1 = x + ((k + 1 : Nat) : Int) by omega] at h
    exact Int.le_trans ih h
theorem inv_none (hd : ∀ i j, i < j → j < zs.length → gi zs i ≠ gi zs j) : invT zs us = 0 := by
  have n3 := ok.n3
  refine sumN_zero _ fun i hi => sumN_zero _ fun j hj => ?_
  unfold invP
  by_cases hij : i < j
  · rw [if_pos hij]
    have h1 := plc_rise ok hs (j - i) (i : Int)
    rw [show (i : Int) + ((j - i : Nat) : Int) = (j : Int) by omega] at h1
    have h2 := plc_rise ok hs (zs.length - (j - i)) (j : Int)
    rw [show (j : Int) + ((zs.length - (j - i) : Nat) : Int) = (i : Int) + (zs.length : Int) * 1 by omega, plc_turn ok] at h2
    have h3 := fl_neg ok hd i j hij hj
    unfold flP
    obtain ⟨D, hD⟩ : ∃ D, D = plc zs us (j : Int) - plc zs us (i : Int) := ⟨_, rfl⟩
    rw [show plc zs us (i : Int) - plc zs us (j : Int) = -D by omega, ← hD] at h3
    rw [← hD]
    by_cases hn : D = (zs.length : Int)
    · rw [hn, Int.ediv_self (by omega), show -(zs.length : Int) = (zs.length : Int) * (-1) by omega, Int.mul_ediv_cancel_left _ (by omega)] at h3
      omega
    · rw [Int.ediv_eq_zero_of_lt (by omega) (by omega)]; rfl
  · rw [if_neg hij]
end
end Go.Proofs.Ytpkdeoehfnnchaa
