/- The contracts of the functions that go down a ladder. -/
import Derived.Test.YtnogmbhcphglkaaDoorC1a
import Derived.Test.YtnogmbhcphglkaaDoorBox
import Derived.Test.YtnogmbhcphglkaaDoorApp
namespace Go.Proofs.YtnogmbhcphglkaaDoor
open Go Go.RowKit

theorem over_1 {s r : Int} (h : s = r) : r + 1 = over s r := by unfold over; rw [if_pos h]
theorem over_2 {s r : Int} (h : s ≠ r) (h2 : s = r + 1) : r = over s r := by unfold over; rw [if_neg h, if_pos h2]
theorem over_3 {s r : Int} (h : s ≠ r) (h2 : s ≠ r + 1) : s = over s r := by unfold over; rw [if_neg h, if_neg h2]

/-- what a way down wants of the rungs and of the start -/
def Wires (zs : List Int) (s : Int) : Prop := ∃ W : Int, W ≤ 8 ∧ (∀ j, j < zs.length → 0 ≤ gi zs j ∧ gi zs j ≤ W - 2) ∧ 0 ≤ s ∧ s ≤ W - 1
theorem Wires.at {zs : List Int} {s : Int} (h : Wires zs s) {k : Nat} (hk : k ≤ zs.length) : 0 ≤ at_ zs s k ∧ at_ zs s k ≤ 7 := by
  obtain ⟨W, hW, hz, hs⟩ := h
  have := at_le hz hs k hk
  omega
theorem Wires.rung {zs : List Int} {s : Int} (h : Wires zs s) {k : Nat} (hk : k < zs.length) : 0 ≤ gi zs k ∧ gi zs k ≤ 6 := by
  obtain ⟨W, hW, hz, hs⟩ := h
  have := hz k hk
  omega
theorem Wires.of {W : Int} {zs : List Int} {s : Int} (h : wire W zs s = true) : Wires zs s :=
  ⟨W, by have := (lad_iff.1 (wire_iff.1 h).1).1; omega, fun _ hj => lad_at (wire_iff.1 h).1 hj, (wire_iff.1 h).2⟩

end Go.Proofs.YtnogmbhcphglkaaDoor
