/- The cells of a row of the call's own. -/
import Derived.Test.YtnogmbhcphglkaaDoorWords
namespace Go.Proofs.YtnogmbhcphglkaaDoor
open Go Go.RowKit
theorem OI.cells {w : World} {B g n c : Nat} {zs : List Int} (h : OI w B (some ⟨g, 0, none⟩) n c zs) : ∀ j, j < n → w.cell? ⟨g, j, none⟩ = some (.int .i64 (gi zs j)) := by
  intro j hj
  obtain ⟨b', off', e, _, hc'⟩ := h.ri.cell hj
  injection e with e; injection e with e1 e2 e3
  subst e1 e2
  have := hc' j hj
  rwa [Nat.zero_add] at this

theorem OI.le {w : World} {B : Nat} {A : Option Addr} {n c : Nat} {zs : List Int} (h : OI w B A n c zs) : n ≤ c := by
  rcases h.form with ⟨_, rfl, rfl⟩ | ⟨g, cur, _, _, _, _, h1, _⟩
  · exact Nat.le_refl _
  · exact h1
/-- two rows apart -/
def Apart2 (A B : Option Addr) : Prop := ∀ b, blk A = some b → blk B ≠ some b
end Go.Proofs.YtnogmbhcphglkaaDoor
