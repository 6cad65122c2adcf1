/- Turned orders backwards: the mathematics. -/
import Derived.Test.YtpkdeoehfnnchaaTl1
import Derived.Test.YtpkdeoehfnnchaaMgG
import Derived.Test.YtpkdeoehfnnchaaMgE
namespace Go.Proofs.Ytpkdeoehfnnchaa
open Go Go.RowKit

theorem sum_set (L : List Int) : ∀ (i : Nat) (v : Int), i < L.length → (L.set i v).sum = L.sum - gi L i + v := by
  induction L with
  | nil => intro i v h; simp at h
  | cons a L ih =>
    intro i v h
    cases i with
    | zero => simp [gi, List.getD]; omega
    | succ i =>
      have h1 := ih i v (by simpa using h)
      simp only [List.set_cons_succ, List.sum_cons, h1]
      simp only [gi, List.getD_cons_succ]
      omega
theorem sum_zeros : ∀ n : Nat, (List.replicate n (0 : Int)).sum = 0
  | 0 => rfl
  | n + 1 => by rw [List.replicate_succ, List.sum_cons, sum_zeros n]; rfl

/-- the ends and the winds of the one that undoes it, as far as k -/
def bkE (zs : List Int) : Nat → List Int
  | 0 => List.replicate zs.length 0
  | k + 1 => (bkE zs k).set (gi zs k).toNat (k : Int)
def bkW (zs us : List Int) : Nat → List Int
  | 0 => List.replicate zs.length 0
  | k + 1 => (bkW zs us k).set (gi zs k).toNat (-(gi us k))
theorem bkE_len (zs : List Int) : ∀ k, (bkE zs k).length = zs.length
  | 0 => by simp [bkE]
  | k + 1 => by rw [bkE, List.length_set, bkE_len zs k]
theorem bkW_len (zs us : List Int) : ∀ k, (bkW zs us k).length = zs.length
  | 0 => by simp [bkW]
  | k + 1 => by rw [bkW, List.length_set, bkW_len zs us k]
theorem gi_zeros (n j : Nat) : gi (List.replicate n (0 : Int)) j = 0 := by
  by_cases h : j < n
  · simp [gi, List.getD, h]
  · simp [gi, List.getD, h]

section
variable {zs us : List Int} (ok : TOk zs us) (hd : ∀ i j, i < j → j < zs.length → gi zs i ≠ gi zs j)
include ok
theorem zt (i : Nat) (h : i < zs.length) : ((gi zs i).toNat : Int) = gi zs i ∧ (gi zs i).toNat < zs.length := by
  have := ok.zr i h
  omega
include hd
/-- what is not reached yet is 0, what has been reached tells who reached it -/
theorem bkE_at (k : Nat) (hk : k ≤ zs.length) : (∀ i, i < k → gi (bkE zs k) (gi zs i).toNat = (i : Int)) ∧ (∀ x, x < zs.length → (∀ i, i < k → gi zs i ≠ (x : Int)) → gi (bkE zs k) x = 0) := by
  induction k with
  | zero => exact ⟨fun i h => absurd h (by omega), fun x _ _ => gi_zeros _ _⟩
  | succ k ih =>
    obtain ⟨h1, h2⟩ := ih (by omega)
    have hz := zt ok k (by omega)
    refine ⟨fun i hi => ?_, fun x hx hn => ?_⟩
    · rw [bkE, gi_set _ _ _ _ (by rw [bkE_len]; exact hz.2)]
      by_cases e : i = k
      · subst e; rw [if_pos rfl]
      · have hzi := zt ok i (by omega)
        rw [if_neg (fun e2 => hd i k (by omega) (by omega) (by omega))]
        exact h1 i (by omega)
    · rw [bkE, gi_set _ _ _ _ (by rw [bkE_len]; exact hz.2)]
      rw [if_neg (fun e => hn k (by omega) (by omega))]
      exact h2 x hx (fun i hi => hn i (by omega))
theorem bkW_at (k : Nat) (hk : k ≤ zs.length) : (∀ i, i < k → gi (bkW zs us k) (gi zs i).toNat = -(gi us i)) ∧ (∀ x, x < zs.length → (∀ i, i < k → gi zs i ≠ (x : Int)) → gi (bkW zs us k) x = 0) := by
  induction k with
  | zero => exact ⟨fun i h => absurd h (by omega), fun x _ _ => gi_zeros _ _⟩
  | succ k ih =>
    obtain ⟨h1, h2⟩ := ih (by omega)
    have hz := zt ok k (by omega)
    refine ⟨fun i hi => ?_, fun x hx hn => ?_⟩
    · rw [bkW, gi_set _ _ _ _ (by rw [bkW_len]; exact hz.2)]
      by_cases e : i = k
      · subst e; rw [if_pos rfl]
      · have hzi := zt ok i (by omega)
        rw [if_neg (fun e2 => hd i k (by omega) (by omega) (by omega))]
        exact h1 i (by omega)
    · rw [bkW, gi_set _ _ _ _ (by rw [bkW_len]; exact hz.2)]
      rw [if_neg (fun e => hn k (by omega) (by omega))]
      exact h2 x hx (fun i hi => hn i (by omega))
theorem bkW_sum (k : Nat) (hk : k ≤ zs.length) : (bkW zs us k).sum = -(sumK us k) := by
  induction k with
  | zero => rw [bkW, sum_zeros, sumK_zero]; rfl
  | succ k ih =>
    have hz := zt ok k (by omega)
    rw [bkW, sum_set _ _ _ (by rw [bkW_len]; exact hz.2), ih (by omega), sumK_succ _ _ (by have := ok.len; omega)]
    rw [(bkW_at ok hd k (by omega)).2 _ hz.2 (fun i hi e => hd i k hi (by omega) (by omega))]
    omega
end

theorem home8_gi : ∀ y, y < 8 → gi home8 y = (y : Int) := by decide
/-- each number is at one place -/
theorem ord_has {zs : List Int} (h : ord zs = true) {x : Nat} (hx : x < zs.length) : ∃ i, i < zs.length ∧ gi zs i = (x : Int) := by
  have ho := ord_iff.1 h
  have h1 : (x : Int) ∈ srt (seats zs) := by rw [(seats_ord ho.1 ho.2.1).2 h]; have := ho.2.1; exact mem_gi.2 ⟨x, by show x < 8; omega, home8_gi x (by omega)⟩
  rw [(srt_perm _).mem_iff] at h1
  obtain ⟨j, hj, he⟩ := mem_gi.1 h1
  rw [seats_length] at hj
  rw [gi_seats _ _ hj] at he
  by_cases hjl : j < zs.length
  · rw [if_pos hjl] at he; exact ⟨j, hjl, he⟩
  · rw [if_neg hjl] at he; omega
theorem ord_ne {zs : List Int} (h : ord zs = true) : ∀ i j, i < j → j < zs.length → gi zs i ≠ gi zs j := nodup_gi.1 (ord_iff.1 h).2.2.2
theorem sumK_all (us : List Int) : sumK us us.length = us.sum := by unfold sumK; rw [List.take_of_length_le (Nat.le_refl _)]
/-- the one that undoes a turned order is one -/
theorem trn_back {zs us : List Int} (h : trn zs us = true) : trn (bkE zs zs.length) (bkW zs us zs.length) = true := by
  have ok := TOk.of h
  obtain ⟨ho, h3, hl, ha, hs⟩ := trn_iff.1 h
  have hd := ord_ne ho
  have hE := (bkE_at ok hd zs.length (Nat.le_refl _)).1
  have hW := (bkW_at (us := us) ok hd zs.length (Nat.le_refl _)).1
  have hle := bkE_len zs zs.length
  have hlw := bkW_len zs us zs.length
  have who : ∀ x, x < zs.length → ∃ i, i < zs.length ∧ gi zs i = (x : Int) ∧ gi (bkE zs zs.length) x = (i : Int) ∧ gi (bkW zs us zs.length) x = -(gi us i) := by
    intro x hx
    obtain ⟨i, hi, he⟩ := ord_has ho hx
    have h1 := hE i hi
    have h2 := hW i hi
    rw [he, Int.toNat_natCast] at h1 h2
    exact ⟨i, hi, he, h1, h2⟩
  refine trn_iff.2 ⟨ord_iff.2 ⟨by omega, by have := ok.n8; omega, ?_, ?_⟩, by omega, by omega, ?_, ?_⟩
  · intro v hv
    obtain ⟨x, hx, rfl⟩ := mem_gi.1 hv
    obtain ⟨i, hi, _, e1, _⟩ := who x (by omega)
    rw [e1]; omega
  · refine nodup_gi.2 fun x y hxy hy e => ?_
    obtain ⟨i, hi, a1, e1, _⟩ := who x (by omega)
    obtain ⟨j, hj, a2, e2, _⟩ := who y (by omega)
    have : i = j := by omega
    subst this
    omega
  · refine allIn_true fun x hx => ?_
    obtain ⟨i, hi, _, _, e2⟩ := who x (by omega)
    rw [e2]
    have := ok.ur i hi
    exact inB_true (by omega)
  · rw [sumK_all, bkW_sum ok hd _ (Nat.le_refl _), ← hl, hs]
    rfl
def btE (zs us : List Int) : List Int := ifL (trn zs us) (bkE zs zs.length)
def btW (zs us : List Int) : List Int := ifL (trn zs us) (bkW zs us zs.length)
theorem btE_len (zs us : List Int) : (btE zs us).length ≤ 1000 := by
  unfold btE
  rcases h : trn zs us with _ | _
  · simp [ifL]
  · simp only [ifL, if_true]; rw [bkE_len]; have := (TOk.of h).n8; omega
theorem btW_len (zs us : List Int) : (btW zs us).length ≤ 1000 := by
  unfold btW
  rcases h : trn zs us with _ | _
  · simp [ifL]
  · simp only [ifL, if_true]; rw [bkW_len]; have := (TOk.of h).n8; omega
end Go.Proofs.Ytpkdeoehfnnchaa
