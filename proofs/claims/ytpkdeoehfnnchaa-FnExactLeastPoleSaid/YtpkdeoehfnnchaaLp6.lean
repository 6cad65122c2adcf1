/- Least poles: what is left below a descent is a turned order with one inversion less. -/
import Derived.Test.YtpkdeoehfnnchaaLp5
namespace Go.Proofs.Ytpkdeoehfnnchaa
open Go Go.RowKit

theorem plc_at0 (zs us : List Int) (r : Nat) (h : r < zs.length) : plc zs us (r : Int) = gi zs r + (zs.length : Int) * gi us r := by
  unfold plc
  rw [Int.emod_eq_of_lt (by omega) (by omega), Int.toNat_natCast]
  omega
theorem trn_left {zs us zs' us' : List Int} (h : trn zs us = true) (ho : ord zs' = true) (hl : zs'.length = zs.length) (hu : us'.length = us.length) (hs : us'.sum = us.sum) (hv : invT zs' us' ≤ 60) : trn zs' us' = true := by
  have ok := TOk.of h
  obtain ⟨_, h3, h4, _, h5⟩ := trn_iff.1 h
  have n8 := ok.n8
  have ho' := ord_iff.1 ho
  rw [sumK_all] at h5
  refine trn_iff.2 ⟨ho, by omega, by omega, allIn_true fun j hj => ?_, by rw [sumK_all, hs]; exact h5⟩
  have := wind_in (zs := zs') (us := us') (by omega) (by omega) (by omega) (fun j hj => ho'.2.2.1 _ (mem_gi.2 ⟨j, hj, rfl⟩)) (by rw [hs]; exact h5) hv j (by omega)
  exact inB_true (by omega)
/-- a rung that is not the last -/
theorem left_in {zs us : List Int} {r : Nat} (h : trn zs us = true) (hr : r + 1 < zs.length) (hd : plc zs us ((r : Int) + 1) < plc zs us (r : Int)) (hv : invT zs us ≤ 61) :
    trn (topE zs r (r + 1)) (topW us r (r + 1) 0) = true ∧ invT (topE zs r (r + 1)) (topW us r (r + 1) 0) + 1 = invT zs us := by
  have ok := TOk.of h
  have ho := (trn_iff.1 h).1
  have hln := ok.len
  have hlE := topE_len zs r (r + 1)
  have e := inv_fall_in (us' := topW us r (r + 1) 0) hlE hr ok (ord_ne ho) (fun i hi => by
    rw [plc_at0 _ _ i (by omega), plc_at0 _ _ _ (xch_lt (by omega) hr hi), hlE, gi_topE (by omega) hr, gi_topW (by omega) (by omega) (by omega)]
    have e0 : (if i = r then (0 : Int) else if i = r + 1 then -0 else 0) = 0 := by
      by_cases h1 : i = r
      · rw [if_pos h1]
      · rw [if_neg h1]
        by_cases h2 : i = r + 1
        · rw [if_pos h2]; rfl
        · rw [if_neg h2]
    rw [e0, Int.add_zero]) (by rw [show ((r + 1 : Nat) : Int) = (r : Int) + 1 by omega]; exact hd)
  exact ⟨trn_left h (ord_top ho (by omega) hr) hlE (topW_len _ _ _ _) (topW_sum (by omega) (by omega) (by omega) _) (by omega), e⟩
/-- the last one, over which one winds -/
theorem left_out {zs us : List Int} {r : Nat} (h : trn zs us = true) (hr : r + 1 = zs.length) (hd : plc zs us ((r : Int) + 1) < plc zs us (r : Int)) (hv : invT zs us ≤ 61) :
    trn (topE zs r 0) (topW us r 0 1) = true ∧ invT (topE zs r 0) (topW us r 0 1) + 1 = invT zs us := by
  have ok := TOk.of h
  have ho := (trn_iff.1 h).1
  have hln := ok.len
  have n3 := ok.n3
  have hlE := topE_len zs r 0
  have en : plc zs us ((r : Int) + 1) = plc zs us ((0 : Nat) : Int) + (zs.length : Int) * 1 := by
    rw [← plc_turn ok, show (r : Int) + 1 = ((0 : Nat) : Int) + (zs.length : Int) * 1 by omega]
  rw [en] at hd
  have e := inv_fall_out (us' := topW us r 0 1) hlE hr ok (ord_ne ho)
    (fun i h0 hi => by
      rw [plc_at0 _ _ i (by omega), plc_at0 _ _ i (by omega), hlE, gi_topE (by omega) (by omega), gi_topW (by omega) (by omega) (by omega), xch_o (by omega) h0, if_neg (by omega), if_neg h0, Int.add_zero])
    (by
      rw [plc_at0 _ _ 0 (by omega), plc_at0 _ _ r (by omega), hlE, gi_topE (by omega) (by omega), gi_topW (by omega) (by omega) (by omega), xch_r, if_neg (by omega), if_pos rfl, Int.mul_add]
      omega)
    (by
      rw [plc_at0 _ _ r (by omega), plc_at0 _ _ 0 (by omega), hlE, gi_topE (by omega) (by omega), gi_topW (by omega) (by omega) (by omega), xch_l, if_pos rfl, Int.mul_add]
      omega)
    (by omega)
  exact ⟨trn_left h (ord_top ho (by omega) (by omega)) hlE (topW_len _ _ _ _) (topW_sum (by omega) (by omega) (by omega) _) (by omega), e⟩
end Go.Proofs.Ytpkdeoehfnnchaa
