/- What is left below a rung at the top, as the program tells it for each wire. -/
import Derived.Test.YtpkdeoehfnnchaaLq1
import Derived.Test.YtpkdeoehfnnchaaPo1
namespace Go.Proofs.Ytpkdeoehfnnchaa
open Go Go.RowKit

theorem pnext_nat {n r : Nat} (_ : r < n) : pnext (n : Int) (r : Int) = (nxtR n r : Int) := by
  unfold pnext nxtR
  by_cases e : r + 1 = n
  · rw [if_pos e, if_pos (by omega)]; rfl
  · rw [if_neg e, if_neg (by omega)]; omega
theorem nxtR_lt {n r : Nat} (h : r < n) : nxtR n r < n := by
  unfold nxtR
  by_cases e : r + 1 = n
  · rw [if_pos e]; omega
  · rw [if_neg e]; omega
theorem nxtR_ne {n r : Nat} (h3 : 3 ≤ n) : r ≠ nxtR n r := by
  unfold nxtR
  by_cases e : r + 1 = n
  · rw [if_pos e]; omega
  · rw [if_neg e]; omega
theorem pstep_nat {n r i : Nat} (h : r < n) : pstep (n : Int) (i : Int) (r : Int) = (xch r (nxtR n r) i : Int) := by
  unfold pstep xch
  rw [pnext_nat h]
  by_cases h1 : i = r
  · rw [if_pos h1, if_pos (by omega)]
  · rw [if_neg h1, if_neg (by omega)]
    by_cases h2 : i = nxtR n r
    · rw [if_pos h2, if_pos (by omega)]
    · rw [if_neg h2, if_neg (by omega)]
theorem top_tell {zs us : List Int} {n r i : Nat} (h3 : 3 ≤ n) (hz : zs.length = n) (hu : us.length = n) (hr : r < n) :
    gi (topE zs r (nxtR n r)) i = gi zs (pstep (n : Int) (i : Int) (r : Int)).toNat ∧ gi (topW us r (nxtR n r) (wndR n r)) i = pwind (n : Int) (i : Int) (r : Int) + gi us (pstep (n : Int) (i : Int) (r : Int)).toNat := by
  have hx := nxtR_lt hr
  have hne := nxtR_ne (r := r) h3
  rw [pstep_nat hr, Int.toNat_natCast, gi_topE (by omega) (by omega), gi_topW (by omega) (by omega) hne]
  refine ⟨rfl, ?_⟩
  have e : (if i = r then wndR n r else if i = nxtR n r then -(wndR n r) else 0) = pwind (n : Int) (i : Int) (r : Int) := by
    by_cases e : r + 1 = n
    · have hw : wndR n r = 1 := if_pos e
      have hx0 : nxtR n r = 0 := if_pos e
      have hpw : pwind (n : Int) (i : Int) (r : Int) = if (i : Int) = (r : Int) then 1 else if (i : Int) = 0 then -1 else 0 := if_pos (by omega)
      rw [hw, hx0, hpw]
      by_cases h1 : i = r
      · rw [if_pos h1, if_pos (show (i : Int) = (r : Int) by omega)]
      · rw [if_neg h1, if_neg (show ¬ (i : Int) = (r : Int) by omega)]
        by_cases h2 : i = 0
        · rw [if_pos h2, if_pos (show (i : Int) = 0 by omega)]
        · rw [if_neg h2, if_neg (show ¬ (i : Int) = 0 by omega)]
    · have hw : wndR n r = 0 := if_neg e
      have hpw : pwind (n : Int) (i : Int) (r : Int) = 0 := if_neg (by omega)
      rw [hw, hpw]
      by_cases h1 : i = r
      · rw [if_pos h1]
      · rw [if_neg h1]
        by_cases h2 : i = nxtR n r
        · rw [if_pos h2]; rfl
        · rw [if_neg h2]
  rw [e]; omega
end Go.Proofs.Ytpkdeoehfnnchaa
