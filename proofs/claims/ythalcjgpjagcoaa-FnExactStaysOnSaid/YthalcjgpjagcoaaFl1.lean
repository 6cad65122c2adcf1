/- The numbers below a bound of which something is so. -/
import Derived.Test.YthalcjgpjagcoaaMgA
namespace Go.Proofs.Ythalcjgpjagcoaa
open Go Go.RowKit

def fltL (B : Nat → Bool) : Nat → List Int
  | 0 => []
  | k + 1 => fltL B k ++ (if B k = true then [(k : Int)] else [])
theorem fltL_no {B : Nat → Bool} {k : Nat} (h : B k = false) : fltL B (k + 1) = fltL B k := by simp [fltL, h]
theorem fltL_yes {B : Nat → Bool} {k : Nat} (h : B k = true) : fltL B (k + 1) = fltL B k ++ [(k : Int)] := by simp [fltL, h]
theorem fltL_len (B : Nat → Bool) (k : Nat) : (fltL B k).length ≤ k := by
  induction k with
  | zero => simp [fltL]
  | succ k ih =>
    rcases h : B k with _ | _
    · rw [fltL_no h]; omega
    · rw [fltL_yes h, List.length_append]; simp; omega
end Go.Proofs.Ythalcjgpjagcoaa
