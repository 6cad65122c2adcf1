/- The place at which one comes out of a pole; PoleEnd and PoleWay of the program. -/
import Derived.Test.YtpkdeoehfnnchaaPq2
import Derived.Test.YtpkdeoehfnnchaaMgD
namespace Go.Proofs.Ytpkdeoehfnnchaa
open Go Go.RowKit

end Go.Proofs.Ytpkdeoehfnnchaa
