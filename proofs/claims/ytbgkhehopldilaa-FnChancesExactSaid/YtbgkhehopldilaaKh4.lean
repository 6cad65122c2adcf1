/- Numbers of the law of chances. (No program.) -/
import Derived.Test.YtbgkhehopldilaaKh1
namespace Go.Proofs.Ytbgkhehopldilaa
open Go Go.RowKit

theorem gap_row {n K j x : Nat} (hx : x < n) {v : Int} (h : Top (DifP n K j x 0) 0 v) : ∀ y, y ≤ n → ∃ u, Top (DifP n K j x y) 0 u
  | 0, _ => ⟨v, h⟩
  | y + 1, hy => by
    obtain ⟨u, hu⟩ := gap_row hx h y (by omega)
    exact ⟨_, DifP.step hu hx (by omega)⟩
theorem gap_rows {n K j : Nat} {v : Int} (h : Top (Dif n K j) 0 v) : ∀ x, x ≤ n → ∃ u, Top (DifP n K j x 0) 0 u
  | 0, _ => ⟨v, DifP.start h⟩
  | x + 1, hx => by
    obtain ⟨u, hu⟩ := gap_rows h x (by omega)
    obtain ⟨t, ht⟩ := gap_row (by omega) hu n (Nat.le_refl _)
    exact ⟨t, DifP.next ht⟩
theorem gap_ex (n K : Nat) : ∀ j, ∃ v, Top (Dif n K j) 0 v
  | 0 => ⟨0, Dif.none n K⟩
  | j + 1 => by
    obtain ⟨v, hv⟩ := gap_ex n K j
    obtain ⟨u, hu⟩ := gap_rows hv n (Nat.le_refl _)
    exact ⟨u, DifP.done hu⟩
theorem gap_dif {n K s e e2 : Nat} (hs : s < n) (he : e < n) (he2 : e2 < n) : (wy n K e s : Int) - (wy n K e2 s : Int) ≤ (gapN n K : Int) := by
  obtain ⟨v, hv⟩ := gap_ex n K n
  obtain ⟨g, rfl⟩ : ∃ g : Nat, v = (g : Int) := ⟨v.toNat, by have := hv.lo; omega⟩
  rw [← gapN_of hv]
  exact hv.up _ ⟨s, e, e2, hs, he, he2, by rw [gi_wy he, gi_wy he2]⟩
theorem gapN_le {n K : Nat} (hn : n ≤ 6) (hK : K ≤ 20) : (gapN n K : Int) ≤ 95367431640625 := by
  obtain ⟨v, hv⟩ := gap_ex n K n
  obtain ⟨g, rfl⟩ : ∃ g : Nat, v = (g : Int) := ⟨v.toNat, by have := hv.lo; omega⟩
  rw [← gapN_of hv]
  exact (Dif.small hv hn hK).2
theorem ce_wy {N K s e : Nat} (hQ : fallB (N : Int) (K : Int) = true) (hs : s < N) (he : e < N) : ceQ (N : Int) (K : Int) (s : Int) (e : Int) = true ∧ ceN (N : Int) (K : Int) (s : Int) (e : Int) = (wy N K e s : Int) := by
  have h := ceQ_4 (s := (s : Int)) (e := (e : Int)) hQ (inB_iff.2 ⟨by omega, by omega⟩) (inB_iff.2 ⟨by omega, by omega⟩)
  refine ⟨h, ?_⟩
  rw [ceN_yes h]
  simp only [Int.toNat_natCast]
  exact gi_wy he
theorem wy_le {N K s e : Nat} (hN : N ≤ 6) (hK : K ≤ 20) : (wy N K e s : Int) ≤ 95367431640625 := by
  have := ways_le (n := N) (k := K) hN hK (e : Int) (s : Int)
  unfold wy; omega
theorem sg_le {n j : Nat} (hj : j ≤ n) (F : Nat → Nat) : sg j F ≤ sg n F := by
  induction n with
  | zero => obtain rfl : j = 0 := by omega
            exact Nat.le_refl _
  | succ n ih =>
    by_cases h : j = n + 1
    · subst h; exact Nat.le_refl _
    · have := ih (by omega); rw [sg_succ]; omega
theorem sg_le6 {n j : Nat} (hj : j ≤ 6) (F : Nat → Nat) (h : ∀ x, x < n → F x ≤ 95367431640625) (hn : j ≤ n) : sg j F ≤ j * 95367431640625 := by
  induction j with
  | zero => simp [sg]
  | succ j ih =>
    have h1 := ih (by omega) (by omega)
    have h2 := h j (by omega)
    rw [sg_succ]; omega
theorem gi_chF {N K : Nat} {s : Int} {e : Nat} : ∀ {j : Nat}, e < j → gi (chF N K s j) (e * 2) = rtA (gi (endsC N K s) e).toNat (N : Int) (K : Int) ∧ gi (chF N K s j) (e * 2 + 1) = rtB (gi (endsC N K s) e).toNat (N : Int) (K : Int)
  | 0, h => absurd h (by omega)
  | j + 1, h => by
    rw [chF_succ]
    have hl := chF_length N K s j
    by_cases e1 : e = j
    · subst e1
      obtain ⟨a, ha⟩ : ∃ a, a = rtA (gi (endsC N K s) e).toNat (N : Int) (K : Int) := ⟨_, rfl⟩
      obtain ⟨b, hb⟩ : ∃ a, a = rtB (gi (endsC N K s) e).toNat (N : Int) (K : Int) := ⟨_, rfl⟩
      rw [← ha, ← hb]
      constructor
      · rw [gi_lt (by simp; omega), List.getElem_append_right (by omega)]; simp [hl]
      · rw [gi_lt (by simp; omega), List.getElem_append_right (by omega)]; simp [hl]
    · have ih := gi_chF (N := N) (K := K) (s := s) (e := e) (j := j) (by omega)
      rw [← ih.1, ← ih.2]
      constructor
      · rw [gi_lt (by simp; omega), List.getElem_append_left (by omega)]; exact (gi_lt (by omega)).symm
      · rw [gi_lt (by simp; omega), List.getElem_append_left (by omega)]; exact (gi_lt (by omega)).symm
/-- what a walk wants of a ratio -/
def RatW (al a ra rb : Int) : Prop :=
  ∃ D : Int, IntKind.i64.wrap (Int.tdiv al rb) = D ∧ IntKind.i64.wrap (ra * D) = a ∧ ¬ rb = 0 ∧ decide (rb < 1) = false
theorem rat_w (a : Nat) {n k : Int} (h : fallB n k = true) (ha : a ≤ 4000000000000000000) : RatW (allN n k : Int) (a : Int) (rtA a n k) (rtB a n k) := by
  obtain ⟨h1, h2, h3⟩ := rt_whole a h
  have h4 := (allN_in h).2
  obtain ⟨D, hD⟩ : ∃ D, D = Int.tdiv (allN n k : Int) (rtB a n k) := ⟨_, rfl⟩
  have h5 : 0 ≤ D ∧ D ≤ (allN n k : Int) := by
    rw [hD, Int.tdiv_eq_ediv_of_nonneg (by omega)]
    exact ⟨Int.ediv_nonneg (by omega) (by omega), Int.ediv_le_self _ (by omega)⟩
  rw [← hD] at h1
  refine ⟨D, ?_, ?_, by omega, by rw [decide_eq_false_iff_not]; omega⟩
  · rw [← hD]; exact IntWalk.i64_in _ (by omega)
  · rw [h1]; exact IntWalk.i64_in _ (by omega)
end Go.Proofs.Ytbgkhehopldilaa
