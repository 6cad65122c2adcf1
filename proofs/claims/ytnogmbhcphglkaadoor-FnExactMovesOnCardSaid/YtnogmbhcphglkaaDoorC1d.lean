/- The contracts of EndOf and WayDown, of the program and of its model. -/
import Derived.Test.YtnogmbhcphglkaaDoorC1c
import Derived.Deep.RegionWith
namespace Go.Proofs.YtnogmbhcphglkaaDoor
open Go Go.RowKit

def RetIB (n : Int) (b : Bool) (w : World) (e : Ending) (w' : World) : Prop := e = .returned (.tuple #[.int .i64 n, .bool b]) ∧ Below w.heap.size w w'
def FreshIB (w : World) (n : Nat) (zs : List Int) (b : Bool) (e : Ending) (w' : World) : Prop :=
  ∃ A c, e = .returned (.tuple #[.slice A n c, .bool b]) ∧ OI w' w.heap.size A n c zs ∧ Below w.heap.size w w'

theorem OI.some_ {w : World} {B : Nat} {A : Option Addr} {n c : Nat} {zs : List Int} (h : OI w B A (n + 1) c zs) :
    ∃ g, A = some ⟨g, 0, none⟩ ∧ B ≤ g ∧ g < w.heap.size ∧ ∀ j, j ≤ n → w.cell? ⟨g, j, none⟩ = some (.int .i64 (gi zs j)) := by
  rcases h.form with ⟨_, _, h0⟩ | ⟨g, cur, rfl, h1, h2, _⟩
  · omega
  · obtain ⟨b, off, e, _, hc⟩ := h.ri.cell (j := 0) (by omega)
    injection e with e; injection e with e1 e2 e3
    subst e1 e2
    exact ⟨g, rfl, h1, h2, fun j hj => by have := hc j (by omega); rwa [Nat.zero_add] at this⟩

/-- block b holds a ladder's number of wires and its rungs, whatever is told of them -/
theorem paramBox (w : World) (W : Int) (A : Option Addr) (n c : Nat) (t : TypeId) {zs : List Int} (h : RI w A n zs) : Hid (Box (w.alloc (.cells #[.int .i64 W, .slice A n c] t)) w.heap.size W A n c zs) := boxNew t h

end Go.Proofs.YtnogmbhcphglkaaDoor
