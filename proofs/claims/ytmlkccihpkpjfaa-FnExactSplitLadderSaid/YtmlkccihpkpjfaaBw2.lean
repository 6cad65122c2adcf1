/- The contracts of BelowLadder, of its model. -/
import Derived.Test.YtmlkccihpkpjfaaBw1
import Derived.Deep.RegionHeld3
import Derived.Deep.Cut
namespace Go.Proofs.Ytmlkccihpkpjfaa
open Go Go.RowKit

theorem boxOfB {wi wj : World} {b : Nat} {W : Int} {A : Option Addr} {n c : Nat} {zs : List Int} (h : Hid (Box wi b W A n c zs)) (hb : Below wi.heap.size wi wj) : Hid (Box wj b W A n c zs) := boxStep h hb

end Go.Proofs.Ytmlkccihpkpjfaa
