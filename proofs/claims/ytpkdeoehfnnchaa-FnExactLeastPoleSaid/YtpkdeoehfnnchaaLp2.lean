/- Least poles: sums over pairs, two indices exchanged. -/
import Derived.Test.YtpkdeoehfnnchaaLp1
namespace Go.Proofs.Ytpkdeoehfnnchaa
open Go Go.RowKit

/-- a and b exchanged -/
def xch (a b i : Nat) : Nat := if i = a then b else if i = b then a else i
theorem xch_l (a b : Nat) : xch a b a = b := if_pos rfl
theorem xch_r (a b : Nat) : xch a b b = a := by
  unfold xch
  by_cases h : b = a
  · rw [if_pos h]; exact h
  · rw [if_neg h, if_pos rfl]
theorem xch_o {a b i : Nat} (h1 : i ≠ a) (h2 : i ≠ b) : xch a b i = i := by unfold xch; rw [if_neg h1, if_neg h2]
theorem sumN_xch {n a b : Nat} (hab : a < b) (hb : b < n) (f : Nat → Nat) : sumN n (fun i => f (xch a b i)) = sumN n f := by
  obtain ⟨k, rfl⟩ : ∃ k, b = a + 1 + k := ⟨b - (a + 1), by omega⟩
  obtain ⟨m, rfl⟩ : ∃ m, n = a + 1 + k + 1 + m := ⟨n - (a + 1 + k + 1), by omega⟩
  have e : ∀ g : Nat → Nat, sumN (a + 1 + k + 1 + m) g = sumN a g + g a + sumN k (fun s => g (a + 1 + s)) + g (a + 1 + k) + sumN m (fun s => g (a + 1 + k + 1 + s)) := fun g => by
    rw [sumN_add, sumN, sumN_add, sumN]
  rw [e, e, xch_l, xch_r]
  rw [sumN_congr (n := a) (g := f) (fun i hi => by rw [xch_o (by omega) (by omega)]),
    sumN_congr (n := k) (g := fun s => f (a + 1 + s)) (fun i hi => by rw [xch_o (by omega) (by omega)]),
    sumN_congr (n := m) (g := fun s => f (a + 1 + k + 1 + s)) (fun i hi => by rw [xch_o (by omega) (by omega)])]
  omega
theorem sq_xch {n a b : Nat} (hab : a < b) (hb : b < n) (h : Nat → Nat → Nat) : sq n (fun i j => h (xch a b i) (xch a b j)) = sq n h := by
  unfold sq
  rw [sumN_xch hab hb (fun i => sumN n (fun j => h i (xch a b j)))]
  exact sumN_congr fun i _ => sumN_xch hab hb (h i)
theorem sq_both (n : Nat) (f g : Nat → Nat → Nat) : sq n (fun i j => f i j + g i j) = sq n f + sq n g := by
  unfold sq
  rw [← sumN_both]
  exact sumN_congr fun i _ => sumN_both n (f i) (g i)
theorem sumN_one {n a : Nat} (ha : a < n) (v : Nat) : sumN n (fun i => if i = a then v else 0) = v := by
  induction n with
  | zero => omega
  | succ n ih =>
    rw [sumN]
    by_cases h : n = a
    · rw [if_pos h, sumN_zero n (fun i hi => if_neg (by omega)), Nat.zero_add]
    · rw [if_neg h, ih (by omega)]; rfl
/-- the pair a, b, in either order -/
def pairB (a b i j : Nat) : Nat := (if i = a then (if j = b then 1 else 0) else 0) + (if i = b then (if j = a then 1 else 0) else 0)
theorem sq_pair {n a b : Nat} (ha : a < n) (hb : b < n) : sq n (pairB a b) = 2 := by
  have one : ∀ a b, a < n → b < n → sq n (fun i j => if i = a then (if j = b then 1 else 0) else 0) = 1 := by
    intro a b ha hb
    unfold sq
    rw [sumN_congr (g := fun i => if i = a then 1 else 0) (fun i _ => by
      by_cases h : i = a
      · simp only [h, if_true]; exact sumN_one hb 1
      · simp only [if_neg h]; exact sumN_zero n (fun _ _ => rfl))]
    exact sumN_one ha 1
  have e := sq_both n (fun i j => if i = a then (if j = b then 1 else 0) else 0) (fun i j => if i = b then (if j = a then 1 else 0) else 0)
  rw [one a b ha hb, one b a hb ha] at e
  exact e

/-- what the program adds for a pair, in either order -/
def symP (zs us : List Int) (i j : Nat) : Nat := invP zs us i j + invP zs us j i
theorem sq_flip (n : Nat) (h : Nat → Nat → Nat) : sq n (fun i j => h j i) = sq n h := by
  induction n with
  | zero => rfl
  | succ n ih =>
    rw [sq_succ, sq_succ, ih]
    omega
theorem sym_two (zs us : List Int) : sq zs.length (symP zs us) = 2 * invT zs us := by
  have e := sq_both zs.length (invP zs us) (fun i j => invP zs us j i)
  have e2 := sq_flip zs.length (invP zs us)
  unfold invT
  have e3 : sq zs.length (symP zs us) = sq zs.length (fun i j => invP zs us i j + invP zs us j i) := rfl
  omega
/-- if behind an exchange of a and b all pairs add what they added, and the pair itself one less, there is one inversion less -/
theorem inv_falls {zs us zs' us' : List Int} {a b : Nat} (hl : zs'.length = zs.length) (hab : a < b) (hb : b < zs.length)
    (h : ∀ i j, i < zs.length → j < zs.length → symP zs' us' i j + pairB a b i j = symP zs us (xch a b i) (xch a b j)) : invT zs' us' + 1 = invT zs us := by
  have h1 := sym_two zs us
  have h2 := sym_two zs' us'
  rw [hl] at h2
  have h3 := sq_both zs.length (symP zs' us') (pairB a b)
  rw [sq_pair (by omega) hb] at h3
  have h4 : sq zs.length (fun i j => symP zs' us' i j + pairB a b i j) = sq zs.length (fun i j => symP zs us (xch a b i) (xch a b j)) := sumN_congr fun i hi => sumN_congr fun j hj => h i j hi hj
  rw [sq_xch hab hb] at h4
  omega
end Go.Proofs.Ytpkdeoehfnnchaa
