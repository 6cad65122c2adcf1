/- The contract of TurnLadder's model. -/
import Derived.Test.YtjdkicanamengaaC1n
import Derived.Deep.RegionLaw
namespace Go.Proofs.Ytjdkicanamengaa
open Go Go.RowKit

theorem rev_take (zs : List Int) (k j n : Nat) (hn : zs.length = n) (hk : k < n) (hj : j = n - 1 - k) : zs.reverse.take (k + 1) = zs.reverse.take k ++ [gi zs j] := by
  have hl : zs.reverse.length = n := by rw [List.length_reverse, hn]
  rw [List.take_succ_eq_append_getElem (by omega), List.getElem_reverse, gi_lt (by omega)]
  congr 2
  congr 1
  omega

end Go.Proofs.Ytjdkicanamengaa
