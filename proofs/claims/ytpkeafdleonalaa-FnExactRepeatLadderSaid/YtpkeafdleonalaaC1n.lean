/- The contracts of TurnLadder, of the program and of its model. -/
import Derived.Test.YtpkeafdleonalaaC1m
import Derived.BigRegion
namespace Go.Proofs.Ytpkeafdleonalaa
open Go Go.RowKit

/-- the list with its first i and its last i numbers exchanged -/
def Turned (zs ys : List Int) (n i : Nat) : Prop := ∀ p, p < n → gi ys p = if p < i ∨ n - i ≤ p then gi zs (n - 1 - p) else gi zs p

theorem revN_len (W : Int) (zs : List Int) : (ifL (lad W zs) zs.reverse).length ≤ 1000 := by
  rcases h : lad W zs with _ | _
  · rw [ifL_no]; simp
  · rw [ifL_yes, List.length_reverse]
    have := (lad_iff.1 h).2.1
    omega

end Go.Proofs.Ytpkeafdleonalaa
