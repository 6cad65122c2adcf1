/- How the model adds up the least ladders of all orders by their lengths: mathematics alone. -/
import Derived.Test.YtgeeifjbfceogaaGreatDoorCb3
import Derived.Test.YtgeeifjbfceogaaGreatDoorMgL
import Derived.Test.YtgeeifjbfceogaaGreatDoorMgM
namespace Go.Proofs.YtgeeifjbfceogaaGreatDoor
open Go

def lf (k : Nat) (c : List Int) : Nat := if ninv c = k then cnt c else 0
def accK (O : List (List Int)) (N : Nat) : Nat → List Int
  | 0 => List.replicate N 0
  | j + 1 => (accK O N j).set (ninv (gz O j)) (gi (accK O N j) (ninv (gz O j)) + (cnt (gz O j) : Int))
theorem accK_len (O : List (List Int)) (N : Nat) : ∀ j, (accK O N j).length = N
  | 0 => by simp [accK]
  | j + 1 => by simp only [accK]; rw [List.length_set]; exact accK_len O N j
theorem sm_append (f : List Int → Nat) (a b : List (List Int)) : sm (a ++ b) f = sm a f + sm b f := by simp [sm, List.sum_append]
theorem take_gz {O : List (List Int)} {j : Nat} (h : j < O.length) : O.take (j + 1) = O.take j ++ [gz O j] := by
  rw [List.take_add_one, gz_at h]; rfl
theorem gi_accK {O : List (List Int)} {N k : Nat} (hk : k < N) : ∀ j, j ≤ O.length → gi (accK O N j) k = ((sm (O.take j) (lf k) : Nat) : Int)
  | 0, _ => by simp [accK, gi, List.getD, sm, hk]
  | j + 1, hj => by
    have ih := gi_accK (O := O) hk j (by omega)
    rw [take_gz (by omega), sm_append, show sm [gz O j] (lf k) = lf k (gz O j) by simp [sm]]
    simp only [accK]
    by_cases e : ninv (gz O j) < N
    · rw [gi_set _ _ _ _ (by rw [accK_len]; exact e)]
      by_cases e2 : k = ninv (gz O j)
      · rw [if_pos e2, ← e2, ih]
        unfold lf
        rw [if_pos e2.symm]
        omega
      · rw [if_neg e2, ih]
        unfold lf
        rw [if_neg (fun h => e2 h.symm)]
        omega
    · rw [List.set_eq_of_length_le (by rw [accK_len]; omega), ih]
      unfold lf
      rw [if_neg (by omega)]
      omega
theorem sm_take_le (f : List Int → Nat) (O : List (List Int)) (j : Nat) : sm (O.take j) f ≤ sm O f := by
  have h := sm_append f (O.take j) (O.drop j)
  rw [List.take_append_drop] at h
  omega
theorem topO_ok {n : Nat} (h1 : 1 ≤ n) (h8 : n ≤ 8) : OKp n (topO n) := (upto_ok h1 h8).cmp
theorem accK_small {n j k N : Nat} (h1 : 2 ≤ n) (h6 : n ≤ 6) (hk : k < N) (hj : j ≤ (ordsK n n).length) : 0 ≤ gi (accK (ordsK n n) N j) k ∧ gi (accK (ordsK n n) N j) k ≤ 30517578125 := by
  rw [gi_accK hk j hj]
  have h2 := sm_take_le (lf k) (ordsK n n) j
  have h3 : sm (ordsK n n) (lf k) = np k (topO n) := by_length (ordsK_all (by omega) (by omega)) (by omega) (by omega) k
  have h4 := np_small k (zs := topO n) (by rw [(topO_ok (by omega) (by omega)).2]; exact h6)
  omega
theorem ninv_tri : ∀ (q : List Int), 2 * ninv q ≤ q.length * (q.length - 1)
  | [] => by simp [ninv]
  | x :: xs => by
    have ih := ninv_tri xs
    have h := lessN_le x xs
    simp only [ninv, List.length_cons]
    rw [Nat.add_sub_cancel]
    have h2 : (xs.length + 1) * xs.length = xs.length * (xs.length - 1) + 2 * xs.length := by
      generalize xs.length = l
      rcases l with _ | m
      · rfl
      · rw [Nat.add_sub_cancel, Nat.add_mul (m + 1) 1 (m + 1), Nat.mul_add (m + 1) m 1]
        omega
    omega
/-- how many lengths there are -/
def lenN (n : Nat) : Nat := n * (n - 1) / 2 + 1
theorem ninv_lt {n : Nat} {q : List Int} (h : q.length = n) : ninv q < lenN n := by
  have := ninv_tri q
  rw [h] at this
  unfold lenN
  omega
theorem six_cases {n : Nat} (h1 : 2 ≤ n) (h6 : n ≤ 6) : n = 2 ∨ n = 3 ∨ n = 4 ∨ n = 5 ∨ n = 6 := by omega
theorem ninv_topO {n : Nat} (h1 : 2 ≤ n) (h6 : n ≤ 6) : ninv (topO n) + 1 = lenN n := by
  rcases six_cases h1 h6 with rfl | rfl | rfl | rfl | rfl <;> decide +kernel
theorem gi_begs {p : List Int} {k : Nat} (h : k < ninv p + 1) : gi (begs p) k = (np k p : Int) := by
  unfold begs gi
  simp [List.getD, h]
theorem accK_all {n : Nat} (h1 : 2 ≤ n) (h6 : n ≤ 6) : accK (ordsK n n) (lenN n) (ordsK n n).length = begs (topO n) := by
  have hl : (begs (topO n)).length = lenN n := by rw [← ninv_topO h1 h6]; simp [begs]
  refine gi_ext (by rw [accK_len, hl]) fun k hk => ?_
  rw [accK_len] at hk
  rw [gi_accK hk _ (Nat.le_refl _), List.take_length, gi_begs (by rw [ninv_topO h1 h6]; exact hk)]
  exact congrArg Nat.cast (by_length (ordsK_all (by omega) (by omega)) (by omega) (by omega) k)
theorem lenN_small {n : Nat} (h6 : n ≤ 6) : lenN n ≤ 16 := by
  unfold lenN
  have : n * (n - 1) ≤ 6 * 5 := Nat.mul_le_mul h6 (by omega)
  omega
end Go.Proofs.YtgeeifjbfceogaaGreatDoor
