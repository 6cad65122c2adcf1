/- The first least ladder of a list has as many rungs as the list has inversions: mathematics. -/
import Derived.Test.YtcomgoapekkleaaLf1
import Derived.Test.YtcomgoapekkleaaNf1
import Derived.Test.YtcomgoapekkleaaCd1
namespace Go.Proofs.Ytcomgoapekkleaa
open Go Go.RowKit

/-- inversions, counted along the list -/
def invL : List Int → Nat
  | [] => 0
  | x :: xs => xs.countP (fun y => decide (y < x)) + invL xs
theorem invL_swap {x y : Int} (h : y < x) (s : List Int) : ∀ (p : List Int), invL (p ++ x :: y :: s) = invL (p ++ y :: x :: s) + 1
  | [] => by
    have e1 : decide (y < x) = true := by simpa using h
    have e2 : decide (x < y) = false := by simp; omega
    simp only [List.nil_append, invL, List.countP_cons, e1, e2]
    simp
    omega
  | a :: p => by
    have ih := invL_swap h s p
    simp only [List.cons_append, invL, ih]
    have e : (p ++ x :: y :: s).countP (fun z => decide (z < a)) = (p ++ y :: x :: s).countP (fun z => decide (z < a)) :=
      (List.Perm.append_left p (List.Perm.swap y x s)).countP_eq _
    omega
theorem exch_cat {zs : List Int} {i : Nat} (h : i + 1 < zs.length) : exch zs i = zs.take i ++ gi zs (i + 1) :: gi zs i :: zs.drop (i + 2) := by
  have := sldL_cat (zs := zs) (k := i) (by omega)
  rw [show exch zs i = sldL zs i from rfl, this]
  simp
theorem invL_exch {zs : List Int} {i : Nat} (h : i + 1 < zs.length) (hd : gi zs (i + 1) < gi zs i) : invL zs = invL (exch zs i) + 1 := by
  have e := take_drop2 (zs := zs) (k := i) (by omega)
  have e2 : zs = zs.take i ++ gi zs i :: gi zs (i + 1) :: zs.drop (i + 2) := by
    conv => lhs; rw [e]
    simp
  rw [exch_cat h]
  conv => lhs; rw [e2]
  exact invL_swap hd _ _
theorem cntB_count (zs : List Int) (k : Nat) : ∀ (m : Nat), m ≤ zs.length - (k + 1) → cntB zs k m = ((zs.drop (k + 1)).take m).countP (fun y => decide (y < gi zs k))
  | 0, _ => by simp [cntB]
  | m + 1, h => by
    have hlen : m < (zs.drop (k + 1)).length := by simp; omega
    rw [List.take_succ_eq_append_getElem hlen, List.countP_append, ← cntB_count zs k m (by omega)]
    have e : (zs.drop (k + 1))[m] = gi zs (k + 1 + m) := by rw [gi_lt (by omega)]; simp
    rw [e]
    simp only [cntB]
    congr 1
    by_cases hq : gi zs (k + 1 + m) < gi zs k
    · rw [if_pos hq]; simp [hq]
    · rw [if_neg hq]; simp [hq]
theorem invN_drop (zs : List Int) : ∀ (k : Nat), k ≤ zs.length → invN zs k + invL (zs.drop k) = invL zs
  | 0, _ => by simp [invN]
  | k + 1, h => by
    have ih := invN_drop zs k (by omega)
    rw [← ih, List.drop_eq_getElem_cons (i := k) (l := zs) (by omega)]
    simp only [invN, invL]
    rw [cntB_count zs k _ (Nat.le_refl _), List.take_of_length_le (by simp), gi_lt (by omega)]
    omega
theorem invN_all (zs : List Int) : invN zs zs.length = invL zs := by
  have := invN_drop zs zs.length (Nat.le_refl _)
  simpa [invL] using this
theorem invs_invL (zs : List Int) : (invs zs).length = invL zs := by unfold invs; rw [invN_len, invN_all]
theorem invN_le7 {zs : List Int} (h : zs.length ≤ 8) : ∀ (k : Nat), invN zs k ≤ 7 * k
  | 0 => Nat.le_refl _
  | k + 1 => by
    have h1 := invN_le7 h k
    have h2 := cntB_le zs k (zs.length - (k + 1))
    simp only [invN]
    omega
theorem invL_le {zs : List Int} (h : zs.length ≤ 8) : invL zs ≤ 56 := by
  have := invN_le7 h zs.length
  rw [invN_all] at this
  omega
/-- without descents there are no inversions -/
theorem mono_of {zs : List Int} {n : Nat} (h : ∀ j, j < n → ¬ gi zs (j + 1) < gi zs j) {i : Nat} : ∀ (d : Nat), i + d ≤ n → gi zs i ≤ gi zs (i + d)
  | 0, _ => Int.le_refl _
  | d + 1, hd => by
    have h1 := mono_of h (i := i) d (by omega)
    have h2 := h (i + d) (by omega)
    rw [show i + (d + 1) = i + d + 1 by omega]
    omega
theorem cntB_zero {zs : List Int} {n i : Nat} (h : ∀ j, j < n → ¬ gi zs (j + 1) < gi zs j) : ∀ (m : Nat), i + m ≤ n → cntB zs i m = 0
  | 0, _ => rfl
  | m + 1, hm => by
    have h1 := mono_of h (i := i) (m + 1) (by omega)
    rw [cntB_no (by rw [show i + 1 + m = i + (m + 1) by omega]; omega)]
    exact cntB_zero h m (by omega)
theorem invL_zero {zs : List Int} (h : fdsc zs (zs.length - 1) = none) : invL zs = 0 := by
  rw [← invN_all]
  have hn := fdsc_none _ h
  have : ∀ k, k ≤ zs.length → invN zs k = 0 := by
    intro k
    induction k with
    | zero => intro _; rfl
    | succ k ih =>
      intro hk
      simp only [invN]
      rw [ih (by omega), cntB_zero hn _ (by omega)]
  exact this _ (Nat.le_refl _)
theorem firstF_len' : ∀ (f : Nat) (zs : List Int), invL zs ≤ f → (firstF f zs).length = invL zs
  | 0, zs, h => by simp [firstF]; omega
  | f + 1, zs, h => by
    unfold firstF
    cases hd : fdsc zs (zs.length - 1) with
    | none => simp [invL_zero hd]
    | some i =>
      obtain ⟨h1, h2, _⟩ := fdsc_some _ hd
      have e := invL_exch (zs := zs) (i := i) (by omega) h2
      simp only [List.length_cons]
      rw [firstF_len' f _ (by omega), e]
theorem firstL_inv {zs : List Int} (h : zs.length ≤ 8) : (firstL zs).length = invL zs := firstF_len' _ _ (by have := invL_le h; omega)
theorem firstF_in : ∀ (f : Nat) (zs : List Int), ∀ x ∈ firstF f zs, 0 ≤ x ∧ x + 2 ≤ zs.length
  | 0, zs => by simp [firstF]
  | f + 1, zs => by
    intro x hx
    unfold firstF at hx
    cases hd : fdsc zs (zs.length - 1) with
    | none => rw [hd] at hx; simp at hx
    | some i =>
      rw [hd] at hx
      obtain ⟨h1, _, _⟩ := fdsc_some _ hd
      simp only [List.mem_cons] at hx
      rcases hx with rfl | hx
      · omega
      · have := firstF_in f _ x hx
        rwa [exch_length] at this
theorem firstL_in {zs : List Int} : ∀ x ∈ firstL zs, 0 ≤ x ∧ x + 2 ≤ zs.length := firstF_in _ _
end Go.Proofs.Ytcomgoapekkleaa
