/- The copies of slices and ladders, their value written out. -/
import Derived.Test.YtbgkhehopldilaaMgA
namespace Go.Proofs.Ytbgkhehopldilaa
open Go Go.RowKit
def FreshIS (w : World) (n : Nat) (zs : List Int) (e : Ending) (w' : World) : Prop :=
  ∃ g, e = .returned (.slice (some ⟨g, 0, none⟩) n n) ∧ OI w' w.heap.size (some ⟨g, 0, none⟩) n n zs ∧ Below w.heap.size w w'
def FreshLS (w : World) (W : Int) (n : Nat) (zs : List Int) (e : Ending) (w' : World) : Prop :=
  ∃ g, e = .returned (.agg #[.int .i64 W, .slice (some ⟨g, 0, none⟩) n n]) ∧ OI w' w.heap.size (some ⟨g, 0, none⟩) n n zs ∧ Below w.heap.size w w'
end Go.Proofs.Ytbgkhehopldilaa
