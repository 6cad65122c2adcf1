/- Facts of the longest order's least ladders, counted by length. (No program.) -/
import Derived.Test.YtgeeifjbfceogaaGreatDoorCb7
import Derived.Test.YtgeeifjbfceogaaGreatDoorKn1
namespace Go.Proofs.YtgeeifjbfceogaaGreatDoor
open Go Go.RowKit

theorem take_gi {zs : List Int} {j : Nat} (h : j < zs.length) : zs.take (j + 1) = zs.take j ++ [gi zs j] := by
  rw [List.take_succ_eq_append_getElem h, gi_lt h]
theorem topO_len (n : Nat) : (topO n).length = n := by unfold topO; rw [cmp_length, upto_len]
theorem gi_topO {n j : Nat} (h : j < n) : gi (topO n) j = (n : Int) - 1 - (j : Int) := by
  unfold topO
  rw [gi_cmp (by rw [upto_len]; exact h), gi_lt (by rw [upto_len]; exact h)]
  simp [upto]
theorem caN_sum (x : Int) : (cbL x).sum = caN x := by
  unfold caN sumT
  rw [List.take_length]
theorem np_one {n : Nat} (h1 : 2 ≤ n) (h6 : n ≤ 6) : (np 1 (topO n) : Int) = (n : Int) - 1 := by
  rcases six_cases h1 h6 with rfl | rfl | rfl | rfl | rfl <;> decide +kernel
theorem cg_top {n : Nat} (h1 : 2 ≤ n) (h6 : n ≤ 6) : cg (topO n) = true := by
  rcases six_cases h1 h6 with rfl | rfl | rfl | rfl | rfl <;> decide +kernel
theorem lg_cb (x : Int) : lgQ x = cbQ x := by
  unfold lgQ cbQ inB
  simp only [Bool.decide_and]
theorem longFacts {x : Int} (h : cbQ x = true) : ∃ N Q P : Nat, x = (N : Int) ∧ 2 ≤ N ∧ N ≤ 6 ∧ (cbL x).length = Q + 1 ∧ Q ≤ 15 ∧ 1 ≤ Q ∧ P ≤ 30 ∧ (N : Int) * ((N : Int) - 1) = (P : Int) ∧ Int.tdiv (P : Int) 2 = (Q : Int) ∧
    gi (cbL x) 0 = 1 ∧ gi (cbL x) 1 = (N : Int) - 1 ∧ gi (cbL x) Q = lgN x ∧ cg (topO N) = true ∧ cntN (topO N) = lgN x := by
  have h26 := cbQ_iff.1 h
  obtain ⟨N, rfl⟩ : ∃ N : Nat, x = (N : Int) := ⟨x.toNat, by omega⟩
  have h2 : 2 ≤ N := by omega
  have h6 : N ≤ 6 := by omega
  obtain ⟨P, Q, hP, hQ, hN, hP30, hQ15⟩ := triN h2 h6
  have hv := ninv_topO h2 h6
  have hQv : ninv (topO N) = Q := by omega
  have hQ1 : 1 ≤ Q := by
    rcases six_cases h2 h6 with rfl | rfl | rfl | rfl | rfl
    all_goals
      have : ninv (topO _) = Q := hQv
      unfold lenN at hN
      omega
  have hc := top_lgf h2 h6
  have hl : lgN (N : Int) = (lgf N : Int) := by unfold lgN; rw [if_pos h26, Int.toNat_natCast]
  refine ⟨N, Q, P, rfl, h2, h6, ?_, hQ15, hQ1, hP30, hP, hQ, ?_, ?_, ?_, cg_top h2 h6, ?_⟩
  · rw [cbL_yes h, begs_len, Int.toNat_natCast, hQv]
  · rw [cbL_yes h, Int.toNat_natCast, gi_begs (by omega)]; rfl
  · rw [cbL_yes h, Int.toNat_natCast, gi_begs (by omega), np_one h2 h6]
  · rw [cbL_yes h, Int.toNat_natCast, ← hQv, gi_begs_last, hc, hl]
  · rw [cntN_yes (cg_top h2 h6), hc, hl]
end Go.Proofs.YtgeeifjbfceogaaGreatDoor
