/- Two values put on wires, and taken off them. -/
import Derived.Test.YthalcjgpjagcoaaSo3
import Derived.Test.YthalcjgpjagcoaaStP
namespace Go.Proofs.Ythalcjgpjagcoaa
open Go Go.RowKit Go.Conc

theorem ChanStep.refl (w : World) (n : Nat) (C : Nat → Nat) : ChanStep w w n C := ⟨rfl, rfl, rfl, Nat.le_refl _, fun _ _ _ => rfl⟩
theorem ChanStep.set {w w1 : World} {n : Nat} {C : Nat → Nat} (h : ChanStep w w1 n C) {k : Nat} (hk : k < n) (cap : Nat) (buf : Array Value) (cl : Bool) (s r : Nat) (tm : Bool) : ChanStep w (w1.setChan (C k) cap buf cl s r tm) n C :=
  ⟨h.1, h.2.1, h.2.2.1, by rw [size_setChan]; exact h.2.2.2.1, fun i hi hne => (setChan_far _ _ _ _ _ _ _ _ _ (fun e => hne k hk e.symm)).trans (h.2.2.2.2 i hi hne)⟩
theorem ChanStep.drew {w w1 : World} {n : Nat} {C : Nat → Nat} (h : ChanStep w w1 n C) : ChanStep w w1.drew n C := ⟨h.1, h.2.1, h.2.2.1, h.2.2.2.1, h.2.2.2.2⟩
theorem ChanStep.trans {w w1 w2 : World} {n : Nat} {C : Nat → Nat} (h : ChanStep w w1 n C) (h' : ChanStep w1 w2 n C) : ChanStep w w2 n C :=
  ⟨h'.1.trans h.1, h'.2.1.trans h.2.1, h'.2.2.1.trans h.2.2.1, Nat.le_trans h.2.2.2.1 h'.2.2.2.1, fun i hi hne => (h'.2.2.2.2 i (Nat.lt_of_lt_of_le hi h.2.2.2.1) hne).trans (h.2.2.2.2 i hi hne)⟩
/-- channels from block B on: below it nothing turns -/
theorem ChanStep.below {w w1 : World} {n : Nat} {C : Nat → Nat} (h : ChanStep w w1 n C) {B : Nat} (hB : B ≤ w.heap.size) (hC : ∀ j, j < n → B ≤ C j) : Below B w w1 :=
  ⟨h.1, h.2.1, h.2.2.1, h.2.2.2.1, fun i hi => h.2.2.2.2 i (by omega) (fun j hj e => by have := hC j hj; omega)⟩

theorem cellNat {w : World} {B g n : Nat} {C : Nat → Nat} {F : Nat → Option Int} (h : OCh w B g n C F) {j : Nat} (hj : j < n) : w.cell? ⟨g, 0 + j, none⟩ = some (.chan (some (C j))) := by rw [Nat.zero_add]; exact h.cell j hj

end Go.Proofs.Ythalcjgpjagcoaa
