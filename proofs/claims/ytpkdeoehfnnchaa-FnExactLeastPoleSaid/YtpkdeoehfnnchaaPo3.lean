/- The contracts of the functions that look whether there is a pole, of the program and of its model. -/
import Derived.Test.YtpkdeoehfnnchaaMgD
import Derived.Test.YtpkdeoehfnnchaaPo1
namespace Go.Proofs.Ytpkdeoehfnnchaa
open Go Go.RowKit

end Go.Proofs.Ytpkdeoehfnnchaa
