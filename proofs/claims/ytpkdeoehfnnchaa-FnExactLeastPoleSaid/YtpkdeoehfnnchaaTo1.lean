/- turnedOf: what makes a turned order of what is told for each wire. -/
import Derived.Test.YtpkdeoehfnnchaaTm1
import Derived.Test.YtpkdeoehfnnchaaUl2
import Derived.Test.YtpkdeoehfnnchaaPq3
import Derived.Test.YtpkdeoehfnnchaaMgE
import Derived.Test.YtpkdeoehfnnchaaMgG
import Derived.BigRegion
namespace Go.Proofs.Ytpkdeoehfnnchaa
open Go Go.RowKit

theorem rowSet {w : World} {b t n : Nat} {f : Nat → Value} (h : w.rowIs b t n f) (p : Addr) (hp : p.block ≠ b) (u : Value) : (w.setCell p u).rowIs b t n f := by
  obtain ⟨cs, hh, h1, h2⟩ := h
  exact ⟨cs, (Below.heap_setCell w p u b (fun e => hp e.symm)).trans hh, h1, h2⟩
theorem cellFar {w : World} {b : Nat} {x y : Value} (h : Cell2 w b x y) (p : Addr) (hp : p.block ≠ b) (u : Value) : Cell2 (w.setCell p u) b x y := by
  have e : (w.setCell p u).heap[b]? = w.heap[b]? := Below.heap_setCell w p u b (fun e => hp e.symm)
  exact ⟨(World.cell?_of_block (w := w) (a := ⟨b, 0, none⟩) e).trans h.c0, (World.cell?_of_block (w := w) (a := ⟨b, 1, none⟩) e).trans h.c1, (World.frozen?_of_block (w := w) (a := ⟨b, 0, none⟩) e).trans h.f0, (World.frozen?_of_block (w := w) (a := ⟨b, 1, none⟩) e).trans h.f1, by simpa using h.lt⟩

end Go.Proofs.Ytpkdeoehfnnchaa
