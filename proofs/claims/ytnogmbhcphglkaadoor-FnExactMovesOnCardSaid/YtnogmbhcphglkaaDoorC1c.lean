/- The contracts of the program's own way down. -/
import Derived.Test.YtnogmbhcphglkaaDoorC1b
import Derived.WalkMore
import Derived.Deep.LoopGhost
import Derived.Deep.DeepMust
namespace Go.Proofs.YtnogmbhcphglkaaDoor
open Go Go.RowKit

theorem belStep' {w wr w2 : World} {A : Option Addr} {n c : Nat} {zs : List Int} {o : Obj} (HB : Hid (Below w.heap.size w wr)) (HO : OI wr w.heap.size A n c zs) (hg : (wr.alloc o).grownBy w2 (blk A)) : Below w.heap.size w w2 :=
  (belGrown (belAlloc HB o) (HO.alloc o) hg (Nat.le_refl _)).out

end Go.Proofs.YtnogmbhcphglkaaDoor
