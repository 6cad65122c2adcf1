/- How many inversions a turned order has: by counting, and by pairs. -/
import Derived.Test.YtpkdeoehfnnchaaTl1
import Derived.Test.YtpkdeoehfnnchaaBt1
namespace Go.Proofs.Ytpkdeoehfnnchaa
open Go Go.RowKit

def sumN : Nat → (Nat → Nat) → Nat
  | 0, _ => 0
  | k + 1, f => sumN k f + f k
theorem sumN_congr {n : Nat} {f g : Nat → Nat} (h : ∀ i, i < n → f i = g i) : sumN n f = sumN n g := by
  induction n with
  | zero => rfl
  | succ n ih => rw [sumN, sumN, ih (fun i hi => h i (by omega)), h n (by omega)]
theorem sumN_add (a b : Nat) (f : Nat → Nat) : sumN (a + b) f = sumN a f + sumN b (fun s => f (a + s)) := by
  induction b with
  | zero => rfl
  | succ b ih => rw [show a + (b + 1) = (a + b) + 1 from rfl, sumN, ih, sumN]; omega
theorem sumN_both (n : Nat) (f g : Nat → Nat) : sumN n (fun s => f s + g s) = sumN n f + sumN n g := by
  induction n with
  | zero => rfl
  | succ n ih => rw [sumN, sumN, sumN, ih]; omega
theorem sumN_zero (n : Nat) {f : Nat → Nat} (h : ∀ i, i < n → f i = 0) : sumN n f = 0 := by
  induction n with
  | zero => rfl
  | succ n ih => rw [sumN, ih (fun i hi => h i (by omega)), h n (by omega)]
theorem sumN_turn (n T : Nat) (f : Nat → Nat) : sumN (T * n) f = sumN n (fun s => sumN T (fun t => f (t * n + s))) := by
  induction T with
  | zero => rw [Nat.zero_mul]; exact (sumN_zero n (fun _ _ => rfl)).symm
  | succ T ih =>
    rw [Nat.succ_mul, sumN_add, ih, ← sumN_both]
    exact sumN_congr fun s _ => rfl
def sq (n : Nat) (h : Nat → Nat → Nat) : Nat := sumN n (fun i => sumN n (fun j => h i j))
theorem sq_succ (n : Nat) (h : Nat → Nat → Nat) : sq (n + 1) h = sq n h + sumN n (fun i => h i n) + sumN n (fun j => h n j) + h n n := by
  unfold sq
  rw [sumN]
  have e : sumN n (fun i => sumN (n + 1) (fun j => h i j)) = sumN n (fun i => sumN n (fun j => h i j) + h i n) := sumN_congr fun i _ => rfl
  rw [e, sumN_both, sumN]
  omega
theorem sq_pairs (n : Nat) (f g : Nat → Nat → Nat) (h1 : ∀ i j, i < j → j < n → f i j + f j i = g i j + g j i) (h2 : ∀ i, i < n → f i i = g i i) : sq n f = sq n g := by
  induction n with
  | zero => rfl
  | succ n ih =>
    rw [sq_succ, sq_succ, ih (fun i j hij hj => h1 i j hij (by omega)) (fun i hi => h2 i (by omega)), h2 n (by omega)]
    have e : sumN n (fun i => f i n) + sumN n (fun j => f n j) = sumN n (fun i => g i n) + sumN n (fun j => g n j) := by
      rw [← sumN_both, ← sumN_both]
      exact sumN_congr fun i hi => h1 i n hi (by omega)
    omega
def ind (p : Prop) [Decidable p] : Nat := if p then 1 else 0

/-- how many turns up to T leave what lies D apart on the wrong side -/
theorem turns {n : Int} (hn : 0 < n) (D : Int) (T : Nat) : sumN T (fun t => ind (D + n * (t : Int) < 0)) = min T (-(D / n)).toNat := by
  have h0 := Int.emod_nonneg D (b := n) (by omega)
  have h1 := Int.emod_lt_of_pos D hn
  have h2 := Int.emod_add_mul_ediv D n
  induction T with
  | zero => simp [sumN]
  | succ T ih =>
    rw [sumN, ih]
    have key : (D + n * (T : Int) < 0) ↔ (T : Int) < -(D / n) := by
      have e : D + n * (T : Int) = D % n + n * (D / n + (T : Int)) := by rw [Int.mul_add]; omega
      rw [e]
      constructor
      · intro h
        rcases Int.lt_or_le (D / n + (T : Int)) 0 with h3 | h3
        · omega
        · have := Int.mul_nonneg (a := n) (by omega) h3
          omega
      · intro h
        have h3 : D / n + (T : Int) ≤ -1 := by omega
        have h4 : n * (D / n + (T : Int)) ≤ n * (-1) := Int.mul_le_mul_of_nonneg_left h3 (by omega)
        omega
    unfold ind
    by_cases hc : (T : Int) < -(D / n)
    · rw [if_pos (key.2 hc)]; omega
    · rw [if_neg (fun h => hc (key.1 h))]; omega

theorem plc_turn {zs us : List Int} (_ : TOk zs us) (i : Int) (t : Int) : plc zs us (i + (zs.length : Int) * t) = plc zs us i + (zs.length : Int) * t := by
  unfold plc
  rw [Int.add_mul_emod_self_left]
  omega
theorem plc_at {zs us : List Int} (_ : TOk zs us) (r : Nat) (h : r < zs.length) : plc zs us (r : Int) = gi zs r + (zs.length : Int) * gi us r := by
  unfold plc
  rw [Int.emod_eq_of_lt (by omega) (by omega), Int.toNat_natCast]
  omega
section
variable {zs us : List Int} (ok : TOk zs us)
include ok
/-- how far apart two places lie, in whole turns, rounded down -/
theorem fl_in (i r : Nat) (hi : i < zs.length) (hr : r < zs.length) : -41 ≤ (plc zs us (r : Int) - plc zs us (i : Int)) / (zs.length : Int) ∧ (plc zs us (r : Int) - plc zs us (i : Int)) / (zs.length : Int) ≤ 40 := by
  rw [plc_at ok i hi, plc_at ok r hr]
  have n3 := ok.n3
  have a1 := ok.zr i hi; have a2 := ok.zr r hr; have b1 := ok.ur i hi; have b2 := ok.ur r hr
  obtain ⟨N, hN⟩ : ∃ N : Int, N = (zs.length : Int) := ⟨_, rfl⟩
  rw [← hN] at a1 a2 ⊢
  have e : gi zs r + N * gi us r - (gi zs i + N * gi us i) = (gi zs r - gi zs i) + N * (gi us r - gi us i) := by rw [Int.mul_sub]; omega
  rw [e, Int.add_mul_ediv_left _ _ (by omega)]
  have h1 : (gi zs r - gi zs i) / N = 0 ∨ (gi zs r - gi zs i) / N = -1 := by
    rcases Int.lt_or_le (gi zs r - gi zs i) 0 with h | h
    · right
      have := Int.ediv_emod_unique (a := gi zs r - gi zs i) (b := N) (q := -1) (r := gi zs r - gi zs i + N) (by omega)
      exact (this.2 (by omega)).1
    · left; exact Int.ediv_eq_zero_of_lt h (by omega)
  omega
/-- it is not a whole number of turns -/
theorem fl_neg (hd : ∀ i j, i < j → j < zs.length → gi zs i ≠ gi zs j) (i r : Nat) (hir : i < r) (hr : r < zs.length) : (plc zs us (i : Int) - plc zs us (r : Int)) / (zs.length : Int) = -((plc zs us (r : Int) - plc zs us (i : Int)) / (zs.length : Int)) - 1 := by
  rw [plc_at ok i (by omega), plc_at ok r hr]
  have n3 := ok.n3
  have a1 := ok.zr i (by omega); have a2 := ok.zr r hr
  have hne := hd i r hir hr
  obtain ⟨N, hN⟩ : ∃ N : Int, N = (zs.length : Int) := ⟨_, rfl⟩
  rw [← hN] at a1 a2 ⊢
  have e : gi zs r + N * gi us r - (gi zs i + N * gi us i) = (gi zs r - gi zs i) + N * (gi us r - gi us i) := by rw [Int.mul_sub]; omega
  have e' : gi zs i + N * gi us i - (gi zs r + N * gi us r) = (gi zs i - gi zs r) + N * (gi us i - gi us r) := by rw [Int.mul_sub]; omega
  rw [e, e', Int.add_mul_ediv_left _ _ (by omega), Int.add_mul_ediv_left _ _ (by omega)]
  have one : ∀ x : Int, 0 < x → x < N → (-x) / N = -1 := by
    intro x h1 h2
    have := Int.ediv_emod_unique (a := -x) (b := N) (q := -1) (r := -x + N) (by omega)
    exact (this.2 (by omega)).1
  rcases Int.lt_or_le (gi zs r) (gi zs i) with h | h
  · have h1 := one (gi zs i - gi zs r) (by omega) (by omega)
    rw [show -(gi zs i - gi zs r) = gi zs r - gi zs i by omega] at h1
    have h2 : (gi zs i - gi zs r) / N = 0 := Int.ediv_eq_zero_of_lt (by omega) (by omega)
    omega
  · have h1 := one (gi zs r - gi zs i) (by omega) (by omega)
    rw [show -(gi zs r - gi zs i) = gi zs i - gi zs r by omega] at h1
    have h2 : (gi zs r - gi zs i) / N = 0 := Int.ediv_eq_zero_of_lt (by omega) (by omega)
    omega
end

/-- those of the next J places that lie before the place of i -/
def cntI (zs us : List Int) (i J : Nat) : Nat := sumN J (fun j => ind (plc zs us ((i : Int) + (j : Int) + 1) < plc zs us (i : Int)))
/-- whole turns between two places -/
def flP (zs us : List Int) (i j : Nat) : Int := (plc zs us (j : Int) - plc zs us (i : Int)) / (zs.length : Int)
/-- what the program adds for i and j -/
def invP (zs us : List Int) (i j : Nat) : Nat := if i < j then (flP zs us i j).natAbs else 0
def invT (zs us : List Int) : Nat := sq zs.length (invP zs us)

theorem cntI_turns {zs us : List Int} (ok : TOk zs us) (i : Nat) (hi : i < zs.length) :
    cntI zs us i (43 * zs.length) = sumN zs.length (fun r => if r ≤ i then (-(flP zs us i r + 1)).toNat else (-(flP zs us i r)).toNat) := by
  have n3 := ok.n3
  unfold cntI
  rw [sumN_turn]
  have e1 : sumN zs.length (fun s => sumN 43 (fun t => ind (plc zs us ((i : Int) + ((t * zs.length + s : Nat) : Int) + 1) < plc zs us (i : Int)))) = sumN zs.length (fun s => min 43 (-((plc zs us ((i : Int) + (s : Int) + 1) - plc zs us (i : Int)) / (zs.length : Int))).toNat) := by
    refine sumN_congr fun s _ => ?_
    rw [← turns (n := (zs.length : Int)) (by omega)]
    refine sumN_congr fun t _ => ?_
    have e : (i : Int) + ((t * zs.length + s : Nat) : Int) + 1 = ((i : Int) + (s : Int) + 1) + (zs.length : Int) * (t : Int) := by
      rw [Int.natCast_add, Int.natCast_mul, Int.mul_comm]; omega
    rw [e, plc_turn ok]
    unfold ind
    congr 1
    exact propext ⟨fun h => by omega, fun h => by omega⟩
  rw [e1]
  obtain ⟨m, hm⟩ : ∃ m, m + (i + 1) = zs.length := ⟨zs.length - (i + 1), by omega⟩
  have e2 : ∀ f : Nat → Nat, sumN zs.length f = sumN m f + sumN (i + 1) (fun s => f (m + s)) := fun f => by rw [← hm, sumN_add]
  have e3 : ∀ f : Nat → Nat, sumN zs.length f = sumN (i + 1) f + sumN m (fun s => f (i + 1 + s)) := fun f => by rw [← sumN_add]; congr 1; omega
  rw [e2, e3, Nat.add_comm]
  congr 1
  · refine sumN_congr fun r hr => ?_
    rw [if_pos (by omega)]
    have e : (i : Int) + ((m + r : Nat) : Int) + 1 = (r : Int) + (zs.length : Int) * 1 := by omega
    rw [e, plc_turn ok, show plc zs us (r : Int) + (zs.length : Int) * 1 - plc zs us (i : Int) = (plc zs us (r : Int) - plc zs us (i : Int)) + (zs.length : Int) * 1 by omega, Int.add_mul_ediv_left _ _ (by omega)]
    have := fl_in ok i r hi (by omega)
    unfold flP
    omega
  · refine sumN_congr fun s hs => ?_
    rw [if_neg (by omega)]
    have e : (i : Int) + (s : Int) + 1 = ((i + 1 + s : Nat) : Int) := by omega
    rw [e]
    have := fl_in ok i (i + 1 + s) hi (by omega)
    unfold flP
    omega

/-- both counts agree -/
theorem inv_both {zs us : List Int} (h : trn zs us = true) : sumN zs.length (fun i => cntI zs us i (43 * zs.length)) = invT zs us := by
  have ok := TOk.of h
  have hd := ord_ne (trn_iff.1 h).1
  have e1 : sumN zs.length (fun i => cntI zs us i (43 * zs.length)) = sq zs.length (fun i r => if r ≤ i then (-(flP zs us i r + 1)).toNat else (-(flP zs us i r)).toNat) := sumN_congr fun i hi => cntI_turns ok i hi
  rw [e1]
  refine sq_pairs _ _ _ (fun i j hij hj => ?_) (fun i hi => ?_)
  · have h1 := fl_neg ok hd i j hij hj
    unfold invP
    rw [if_neg (by omega), if_pos (by omega), if_pos hij, if_neg (by omega)]
    have e : flP zs us j i = -(flP zs us i j) - 1 := h1
    rw [e]
    omega
  · unfold invP
    rw [if_pos (Nat.le_refl _), if_neg (by omega)]
    unfold flP
    rw [Int.sub_self, Int.zero_ediv]
    rfl
theorem invT_le {zs us : List Int} (ok : TOk zs us) : invT zs us ≤ 2624 := by
  have n8 := ok.n8
  have one : ∀ k, k ≤ zs.length → ∀ i, i < zs.length → sumN k (fun j => invP zs us i j) ≤ 41 * k := by
    intro k hk i hi
    induction k with
    | zero => exact Nat.le_refl _
    | succ k ih =>
      rw [sumN]
      have h1 := ih (by omega)
      have h2 : invP zs us i k ≤ 41 := by
        unfold invP
        split
        · have := fl_in ok i k hi (by omega); unfold flP; omega
        · omega
      omega
  have two : ∀ k, k ≤ zs.length → sumN k (fun i => sumN zs.length (fun j => invP zs us i j)) ≤ 328 * k := by
    intro k hk
    induction k with
    | zero => exact Nat.le_refl _
    | succ k ih =>
      rw [sumN]
      have h1 := ih (by omega)
      have h2 := one zs.length (Nat.le_refl _) k (by omega)
      omega
  have := two zs.length (Nat.le_refl _)
  unfold invT sq
  omega
end Go.Proofs.Ytpkdeoehfnnchaa
