/- Least poles: an exchange at a descent takes one inversion away. -/
import Derived.Test.YtpkdeoehfnnchaaLp2
namespace Go.Proofs.Ytpkdeoehfnnchaa
open Go Go.RowKit

/-- behind a rung between r and r + 1, where r is a descent -/
theorem inv_fall_in {zs us zs' us' : List Int} {r : Nat} (hl : zs'.length = zs.length) (hr : r + 1 < zs.length) (ok : TOk zs us) (hd : ∀ i j, i < j → j < zs.length → gi zs i ≠ gi zs j)
    (hp : ∀ i : Nat, i < zs.length → plc zs' us' (i : Int) = plc zs us ((xch r (r + 1) i : Nat) : Int)) (hlt : plc zs us ((r + 1 : Nat) : Int) < plc zs us (r : Int)) : invT zs' us' + 1 = invT zs us := by
  have n3 := ok.n3
  have hf : ∀ i j, i < zs.length → j < zs.length → flP zs' us' i j = flP zs us (xch r (r + 1) i) (xch r (r + 1) j) := fun i j hi hj => by
    unfold flP; rw [hp i hi, hp j hj, hl]
  have hself : ∀ i, flP zs us i i = 0 := fun i => by unfold flP; rw [Int.sub_self, Int.zero_ediv]
  have hneg : flP zs us (r + 1) r = -(flP zs us r (r + 1)) - 1 := fl_neg ok hd r (r + 1) (by omega) hr
  have hdn : flP zs us r (r + 1) ≤ -1 := by
    unfold flP
    exact Int.le_sub_one_of_lt (Int.ediv_neg_of_neg_of_pos (by omega) (by omega))
  have hx : ∀ i, (i = r ∧ xch r (r + 1) i = r + 1) ∨ (i = r + 1 ∧ xch r (r + 1) i = r) ∨ (i ≠ r ∧ i ≠ r + 1 ∧ xch r (r + 1) i = i) := fun i => by
    by_cases h1 : i = r
    · exact .inl ⟨h1, by rw [h1, xch_l]⟩
    · by_cases h2 : i = r + 1
      · exact .inr (.inl ⟨h2, by rw [h2, xch_r]⟩)
      · exact .inr (.inr ⟨h1, h2, xch_o h1 h2⟩)
  refine inv_falls hl (Nat.lt_succ_self r) hr fun i j hi hj => ?_
  have h1 := hf i j hi hj; have h2 := hf j i hj hi
  rcases hx i with ⟨e1, e2⟩ | ⟨e1, e2⟩ | ⟨e1, e3, e2⟩ <;> rcases hx j with ⟨g1, g2⟩ | ⟨g1, g2⟩ | ⟨g1, g3, g2⟩ <;> rw [e2, g2] at h1 h2 <;> rw [e2, g2] <;> unfold symP invP pairB <;> simp only [h1, h2]
  · subst e1 g1; simp
  · subst e1 g1
    rw [if_pos (by omega), if_neg (by omega), if_pos rfl, if_pos rfl, if_neg (by omega), if_neg (by omega), if_pos (by omega), hneg]
    omega
  · subst e1
    rw [if_neg g3, if_neg (by omega : ¬ i = i + 1)]
    simp only [if_true]
    rcases Nat.lt_or_ge i j with h | h
    · rw [if_pos h, if_neg (by omega), if_pos (by omega), if_neg (by omega)]
    · rw [if_neg (by omega), if_pos (by omega), if_neg (by omega), if_pos (by omega)]; rfl
  · subst e1 g1
    rw [if_neg (by omega), if_pos (by omega), if_neg (by omega), if_pos rfl, if_pos rfl, if_pos (by omega), if_neg (by omega), hneg]
    omega
  · subst e1 g1; simp
  · subst e1
    rw [if_neg g1, if_neg (by omega : ¬ r + 1 = r)]
    simp only [if_true]
    rcases Nat.lt_or_ge r j with h | h
    · rw [if_pos (by omega), if_neg (by omega), if_pos (by omega), if_neg (by omega)]
    · rw [if_neg (by omega), if_pos (by omega), if_neg (by omega), if_pos (by omega)]; rfl
  · subst g1
    rw [if_neg e1, if_neg e3]
    rcases Nat.lt_or_ge i j with h | h
    · rw [if_pos h, if_neg (by omega), if_pos (by omega), if_neg (by omega)]
    · rw [if_neg (by omega), if_pos (by omega), if_neg (by omega), if_pos (by omega)]; rfl
  · subst g1
    rw [if_neg e1, if_neg e3]
    rcases Nat.lt_or_ge i (r + 1) with h | h
    · rw [if_pos h, if_neg (by omega), if_pos (by omega), if_neg (by omega)]
    · rw [if_neg (by omega), if_pos (by omega), if_neg (by omega), if_pos (by omega)]; rfl
  · rw [if_neg e1, if_neg e3]; rfl

theorem symP_lt {zs us : List Int} {i j : Nat} (h : i < j) : symP zs us i j = (flP zs us i j).natAbs := by unfold symP invP; rw [if_pos h, if_neg (by omega)]; rfl
theorem symP_gt {zs us : List Int} {i j : Nat} (h : j < i) : symP zs us i j = (flP zs us j i).natAbs := by unfold symP invP; rw [if_neg (by omega), if_pos h]; omega
theorem symP_self (zs us : List Int) (i : Nat) : symP zs us i i = 0 := by unfold symP invP; rw [if_neg (by omega)]
theorem pairB_l {a b i j : Nat} (h1 : i ≠ a) (h2 : i ≠ b) : pairB a b i j = 0 := by unfold pairB; rw [if_neg h1, if_neg h2]
theorem pairB_r {a b i j : Nat} (h1 : j ≠ a) (h2 : j ≠ b) : pairB a b i j = 0 := by
  unfold pairB; rw [if_neg h1, if_neg h2]
  by_cases h3 : i = a <;> by_cases h4 : i = b <;> simp [h3, h4]
theorem pairB_ab {a b : Nat} (h : a ≠ b) : pairB a b a b = 1 := by unfold pairB; rw [if_pos rfl, if_pos rfl, if_neg h]
theorem pairB_ba {a b : Nat} (h : a ≠ b) : pairB a b b a = 1 := by unfold pairB; rw [if_neg (fun e => h e.symm), if_pos rfl, if_pos rfl]
theorem pairB_aa {a b : Nat} (h : a ≠ b) : pairB a b a a = 0 := by unfold pairB; rw [if_pos rfl, if_neg h, if_neg h]
theorem pairB_bb {a b : Nat} (h : a ≠ b) : pairB a b b b = 0 := by unfold pairB; rw [if_neg (fun e => h e.symm), if_pos rfl, if_neg (fun e => h e.symm)]
/-- behind a rung between the last wire and the wire 0, where the last is a descent -/
theorem inv_fall_out {zs us zs' us' : List Int} {b : Nat} (hl : zs'.length = zs.length) (hb : b + 1 = zs.length) (ok : TOk zs us) (hd : ∀ i j, i < j → j < zs.length → gi zs i ≠ gi zs j)
    (hp : ∀ i : Nat, i ≠ 0 → i < b → plc zs' us' (i : Int) = plc zs us (i : Int)) (h0 : plc zs' us' ((0 : Nat) : Int) = plc zs us (b : Int) - zs.length) (hq : plc zs' us' (b : Int) = plc zs us ((0 : Nat) : Int) + zs.length) (hlt : plc zs us ((0 : Nat) : Int) + zs.length < plc zs us (b : Int)) : invT zs' us' + 1 = invT zs us := by
  have n3 := ok.n3
  have hb0 : (0 : Nat) ≠ b := by omega
  obtain ⟨N, hN⟩ : ∃ N : Int, N = (zs.length : Int) := ⟨_, rfl⟩
  rw [← hN] at h0 hq hlt
  have hmid : ∀ i j, i ≠ 0 → i < b → j ≠ 0 → j < b → flP zs' us' i j = flP zs us i j := fun i j a1 a2 b1 b2 => by unfold flP; rw [hp i a1 a2, hp j b1 b2, hl]
  have hleft : ∀ j, j ≠ 0 → j < b → flP zs' us' 0 j = -(flP zs us j b) := fun j b1 b2 => by
    have h1 := fl_neg ok hd j b b2 (by omega)
    unfold flP
    rw [hp j b1 b2, h0, hl, ← hN]
    rw [← hN] at h1
    rw [show plc zs us (j : Int) - (plc zs us (b : Int) - N) = plc zs us (j : Int) - plc zs us (b : Int) + N * 1 by omega, Int.add_mul_ediv_left _ _ (by omega), h1]
    omega
  have hright : ∀ j, j ≠ 0 → j < b → flP zs' us' j b = -(flP zs us 0 j) := fun j b1 b2 => by
    have h1 := fl_neg ok hd 0 j (by omega) (by omega)
    unfold flP
    rw [hp j b1 b2, hq, hl, ← hN]
    rw [← hN] at h1
    rw [show plc zs us ((0 : Nat) : Int) + N - plc zs us (j : Int) = plc zs us ((0 : Nat) : Int) - plc zs us (j : Int) + N * 1 by omega, Int.add_mul_ediv_left _ _ (by omega), h1]
    omega
  have hend : flP zs' us' 0 b = 1 - flP zs us 0 b := by
    have h1 := fl_neg ok hd 0 b (by omega) (by omega)
    unfold flP
    rw [h0, hq, hl, ← hN]
    rw [← hN] at h1
    rw [show plc zs us ((0 : Nat) : Int) + N - (plc zs us (b : Int) - N) = plc zs us ((0 : Nat) : Int) - plc zs us (b : Int) + N * 2 by omega, Int.add_mul_ediv_left _ _ (by omega), h1]
    omega
  have hone : 1 ≤ flP zs us 0 b := by
    unfold flP
    rw [← hN]
    exact Int.le_ediv_of_mul_le (by omega) (by omega)
  refine inv_falls hl (show 0 < b by omega) (by omega) fun i j hi hj => ?_
  by_cases i0 : i = 0
  · subst i0
    rw [xch_l]
    by_cases j0 : j = 0
    · subst j0; rw [xch_l, symP_self, symP_self, pairB_aa hb0]
    · by_cases jb : j = b
      · subst jb; rw [xch_r, pairB_ab hb0, symP_lt (by omega), symP_gt (by omega), hend]; omega
      · rw [xch_o j0 jb, pairB_r j0 jb, symP_lt (by omega), symP_gt (by omega), hleft j j0 (by omega)]; omega
  · by_cases ib : i = b
    · subst ib
      rw [xch_r]
      by_cases j0 : j = 0
      · subst j0; rw [xch_l, pairB_ba hb0, symP_gt (by omega), symP_lt (by omega), hend]; omega
      · by_cases jb : j = i
        · subst jb; rw [xch_r, symP_self, symP_self, pairB_bb hb0]
        · rw [xch_o j0 jb, pairB_r j0 jb, symP_gt (by omega), symP_lt (by omega), hright j j0 (by omega)]; omega
    · rw [xch_o i0 ib, pairB_l i0 ib]
      by_cases j0 : j = 0
      · subst j0; rw [xch_l, symP_gt (by omega), symP_lt (by omega), hleft i i0 (by omega)]; omega
      · by_cases jb : j = b
        · subst jb; rw [xch_r, symP_lt (by omega), symP_gt (by omega), hright i i0 (by omega)]; omega
        · rw [xch_o j0 jb]
          rcases Nat.lt_trichotomy i j with h | h | h
          · rw [symP_lt h, symP_lt h, hmid i j i0 (by omega) j0 (by omega)]; rfl
          · subst h; rw [symP_self, symP_self]
          · rw [symP_gt h, symP_gt h, hmid j i j0 (by omega) i0 (by omega)]; rfl
end Go.Proofs.Ytpkdeoehfnnchaa
