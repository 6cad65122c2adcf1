/- Wires that carry values: channels made one by one, each with its value. -/
import Derived.Test.YthalcjgpjagcoaaSo5
namespace Go.Proofs.Ythalcjgpjagcoaa
open Go Go.RowKit Go.Conc

end Go.Proofs.Ythalcjgpjagcoaa
