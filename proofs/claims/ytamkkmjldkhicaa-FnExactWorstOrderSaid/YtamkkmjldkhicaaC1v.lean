/- The contract of AddRung's model where a rung is put in. -/
import Derived.Test.YtamkkmjldkhicaaLB
import Derived.Deep.RegionHeld3
import Derived.Deep.Cut
namespace Go.Proofs.Ytamkkmjldkhicaa
open Go Go.RowKit

end Go.Proofs.Ytamkkmjldkhicaa
