/- Least poles: the first descent each time, until none is left. -/
import Derived.Test.YtpkdeoehfnnchaaLp6
import Derived.Test.YtpkdeoehfnnchaaPd1
namespace Go.Proofs.Ytpkdeoehfnnchaa
open Go Go.RowKit

/-- the wire of the first descent -/
def fdI (zs us : List Int) : Int := gi (dscK zs us zs.length) 0
def nxtR (n r : Nat) : Nat := if r + 1 = n then 0 else r + 1
def wndR (n r : Nat) : Int := if r + 1 = n then 1 else 0
/-- what is left below a rung at the first descent -/
def lfE (zs us : List Int) : List Int := topE zs (fdI zs us).toNat (nxtR zs.length (fdI zs us).toNat)
def lfW (zs us : List Int) : List Int := topW us (fdI zs us).toNat (nxtR zs.length (fdI zs us).toNat) (wndR zs.length (fdI zs us).toNat)
/-- what is left below k rungs -/
def stK (zs us : List Int) : Nat → List Int × List Int
  | 0 => (zs, us)
  | k + 1 => (lfE (stK zs us k).1 (stK zs us k).2, lfW (stK zs us k).1 (stK zs us k).2)
/-- the first k rungs -/
def lpK (zs us : List Int) : Nat → List Int
  | 0 => []
  | k + 1 => lpK zs us k ++ [fdI (stK zs us k).1 (stK zs us k).2]
theorem lpK_len (zs us : List Int) : ∀ k, (lpK zs us k).length = k
  | 0 => rfl
  | k + 1 => by simp [lpK, lpK_len zs us k]
theorem dsc_mem {zs us : List Int} {x : Int} : ∀ {k : Nat}, x ∈ dscK zs us k → ∃ r : Nat, r < k ∧ x = (r : Int) ∧ plc zs us ((r : Int) + 1) < plc zs us (r : Int)
  | 0, h => by simp [dscK] at h
  | k + 1, h => by
    by_cases hk : plc zs us ((k : Int) + 1) < plc zs us (k : Int)
    · rw [dscK_yes hk, List.mem_append] at h
      rcases h with h | h
      · obtain ⟨r, h1, h2, h3⟩ := dsc_mem h
        exact ⟨r, by omega, h2, h3⟩
      · exact ⟨k, by omega, by simpa using h, hk⟩
    · rw [dscK_no hk] at h
      obtain ⟨r, h1, h2, h3⟩ := dsc_mem h
      exact ⟨r, by omega, h2, h3⟩
theorem dsc_has {zs us : List Int} {r : Nat} (h : plc zs us ((r : Int) + 1) < plc zs us (r : Int)) : ∀ {k : Nat}, r < k → (r : Int) ∈ dscK zs us k
  | 0, hk => absurd hk (by omega)
  | k + 1, hk => by
    by_cases e : r = k
    · subst e; rw [dscK_yes h]; simp
    · have ih := dsc_has h (k := k) (by omega)
      by_cases h2 : plc zs us ((k : Int) + 1) < plc zs us (k : Int)
      · rw [dscK_yes h2]; exact List.mem_append_left _ ih
      · rw [dscK_no h2]; exact ih
theorem fd_some {zs us : List Int} (h : dscK zs us zs.length ≠ []) : ∃ r : Nat, fdI zs us = (r : Int) ∧ r < zs.length ∧ plc zs us ((r : Int) + 1) < plc zs us (r : Int) := by
  have hl : 0 < (dscK zs us zs.length).length := List.length_pos_iff.2 h
  obtain ⟨r, h1, h2, h3⟩ := dsc_mem (zs := zs) (us := us) (k := zs.length) (x := fdI zs us) (by unfold fdI; rw [gi_lt hl]; exact List.getElem_mem hl)
  exact ⟨r, h2, h1, h3⟩
theorem left_fd {zs us : List Int} (h : trn zs us = true) (hv : invT zs us ≤ 61) (hne : dscK zs us zs.length ≠ []) : trn (lfE zs us) (lfW zs us) = true ∧ invT (lfE zs us) (lfW zs us) + 1 = invT zs us := by
  obtain ⟨r, hr, hlt, hd⟩ := fd_some hne
  unfold lfE lfW
  rw [hr, Int.toNat_natCast]
  unfold nxtR wndR
  by_cases e : r + 1 = zs.length
  · rw [if_pos e, if_pos e]; exact left_out h e hd hv
  · rw [if_neg e, if_neg e]; exact left_in h (by omega) hd hv
theorem dsc_of_inv {zs us : List Int} (h : trn zs us = true) (hv : invT zs us ≠ 0) : dscK zs us zs.length ≠ [] := by
  intro he
  refine hv (inv_none (TOk.of h) (fun r hr => ?_) (ord_ne (trn_iff.1 h).1))
  rcases Int.lt_or_le (plc zs us ((r : Int) + 1)) (plc zs us (r : Int)) with hd | hd
  · have := dsc_has hd hr
    rw [he] at this
    cases this
  · exact hd
theorem lf_len (zs us : List Int) : (lfE zs us).length = zs.length ∧ (lfW zs us).length = us.length := ⟨topE_len _ _ _, topW_len _ _ _ _⟩
theorem st_len (zs us : List Int) : ∀ k, (stK zs us k).1.length = zs.length ∧ (stK zs us k).2.length = us.length
  | 0 => ⟨rfl, rfl⟩
  | k + 1 => by
    have h := st_len zs us k
    have h2 := lf_len (stK zs us k).1 (stK zs us k).2
    exact ⟨h2.1.trans h.1, h2.2.trans h.2⟩
theorem st_inv {zs us : List Int} (h : trn zs us = true) (hv : invT zs us ≤ 60) : ∀ k, k ≤ invT zs us → trn (stK zs us k).1 (stK zs us k).2 = true ∧ invT (stK zs us k).1 (stK zs us k).2 + k = invT zs us
  | 0, _ => ⟨h, rfl⟩
  | k + 1, hk => by
    obtain ⟨h1, h2⟩ := st_inv h hv k (by omega)
    obtain ⟨h3, h4⟩ := left_fd h1 (by omega) (dsc_of_inv h1 (by omega))
    exact ⟨h3, by simp only [stK]; omega⟩
theorem st_some {zs us : List Int} (h : trn zs us = true) (hv : invT zs us ≤ 60) {k : Nat} (hk : k < invT zs us) : dscK (stK zs us k).1 (stK zs us k).2 (stK zs us k).1.length ≠ [] := by
  obtain ⟨h1, h2⟩ := st_inv h hv k (by omega)
  exact dsc_of_inv h1 (by omega)
theorem st_none {zs us : List Int} (h : trn zs us = true) (hv : invT zs us ≤ 60) : dscK (stK zs us (invT zs us)).1 (stK zs us (invT zs us)).2 (stK zs us (invT zs us)).1.length = [] := by
  obtain ⟨h1, h2⟩ := st_inv h hv _ (Nat.le_refl _)
  apply Classical.byContradiction
  intro hne
  have := (left_fd h1 (by omega) hne).2
  omega
/-- the answer -/
def lpQ (zs us : List Int) : Bool := trn zs us && decide (invT zs us ≤ 60)
def lpZ (zs us : List Int) : List Int := if lpQ zs us = true then lpK zs us (invT zs us) else []
def lpN (zs us : List Int) : Int := if lpQ zs us = true then (zs.length : Int) else 0
theorem lpZ_len (zs us : List Int) : (lpZ zs us).length ≤ 60 := by
  unfold lpZ
  by_cases h : lpQ zs us = true
  · rw [if_pos h, lpK_len]
    unfold lpQ at h
    rw [Bool.and_eq_true, decide_eq_true_iff] at h
    exact h.2
  · rw [if_neg h]; simp
end Go.Proofs.Ytpkdeoehfnnchaa
