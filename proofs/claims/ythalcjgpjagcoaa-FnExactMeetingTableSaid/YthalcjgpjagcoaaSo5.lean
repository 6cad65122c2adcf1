/- Two values taken off the wires that a rung joins. -/
import Derived.Test.YthalcjgpjagcoaaSo4
namespace Go.Proofs.Ythalcjgpjagcoaa
open Go Go.RowKit Go.Conc

/-- what has been taken after k rounds -/
def TakeRel (w : World) (B g n : Nat) (C : Nat → Nat) (F : Nat → Option Int) (r : Nat) (x y : Int) (k : Nat) (lv rv : Value) (wr : World) : Prop :=
  (k = 0 ∧ OCh wr B g n C F) ∨ (k = 1 ∧ lv = .int .i64 x ∧ OCh wr B g n C (fun j => if j = r then none else F j)) ∨
  (k = 1 ∧ rv = .int .i64 y ∧ OCh wr B g n C (fun j => if j = r + 1 then none else F j)) ∨
  (k = 2 ∧ lv = .int .i64 x ∧ rv = .int .i64 y ∧ OCh wr B g n C (fun j => if j = r then none else if j = r + 1 then none else F j))

end Go.Proofs.Ythalcjgpjagcoaa
