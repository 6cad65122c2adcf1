/- The contracts of the functions by which the laws copy, compare, mark and look at ladders. -/
import Derived.Test.YtcdpgmjpigomfaaBase
import Derived.Deep.RegionHeld3
namespace Go.Proofs.Ytcdpgmjpigomfaa
open Go Go.RowKit

def szv (n : Nat) (left : Int) : Int := if (n : Int) ≤ left then left - n else -1
theorem szv_yes {n : Nat} {left : Int} (h : (n : Int) ≤ left) : left - n = szv n left := by unfold szv; rw [if_pos h]
theorem szv_no {n : Nat} {left : Int} (h : ¬ (n : Int) ≤ left) : -1 = szv n left := by unfold szv; rw [if_neg h]

/-- a new ladder of the call's own -/
def FreshL (w : World) (W : Int) (n : Nat) (zs : List Int) (e : Ending) (w' : World) : Prop :=
  ∃ A c, e = .returned (.agg #[.int .i64 W, .slice A n c]) ∧ OI w' w.heap.size A n c zs ∧ Below w.heap.size w w'

end Go.Proofs.Ytcdpgmjpigomfaa
