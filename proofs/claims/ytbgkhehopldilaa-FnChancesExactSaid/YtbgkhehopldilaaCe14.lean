/- Ratios compared: see Rt1. -/
import Derived.Test.YtbgkhehopldilaaRt1
namespace Go.Proofs.Ytbgkhehopldilaa
end Go.Proofs.Ytbgkhehopldilaa
