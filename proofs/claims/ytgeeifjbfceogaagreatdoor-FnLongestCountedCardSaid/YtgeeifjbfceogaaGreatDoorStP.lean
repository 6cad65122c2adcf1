/- What a law over lists of numbers keeps from call to call. -/
import Derived.Test.YtgeeifjbfceogaaGreatDoorMgC
namespace Go.Proofs.YtgeeifjbfceogaaGreatDoor
open Go Go.RowKit
/-- the world as the law goes on: nothing below w's size has turned; K lies between -/
structure SP (w wi : World) (K : Nat) : Prop where
  bel : Below w.heap.size w wi
  le : w.heap.size ≤ K
  le' : K ≤ wi.heap.size
section
variable {w wi wj : World} {K B : Nat} {A : Option Addr} {n c : Nat} {zs : List Int}
theorem spNew (h : Hid (Below w.heap.size w wi)) : Hid (SP w wi wi.heap.size) := ⟨h.out, h.out.size, Nat.le_refl _⟩
theorem spStep (h : Hid (SP w wi K)) (hb : Below K wi wj) : Hid (SP w wj K) := ⟨belK h.out.bel h.out.le hb, h.out.le, Nat.le_trans h.out.le' hb.size⟩
theorem spCall (h : Hid (SP w wi K)) (hb : Below wi.heap.size wi wj) : Hid (SP w wj K) := spStep h (ofCall h.out.le' hb)
theorem rbStep (h : Hid (RB wi K A n zs)) (hb : Below K wi wj) : Hid (RB wj K A n zs) := h.out.step hb
theorem rbCall (s : Hid (SP w wi K)) (h : Hid (RB wi K A n zs)) (hb : Below wi.heap.size wi wj) : Hid (RB wj K A n zs) := h.out.step (ofCall s.out.le' hb)
theorem riStep (h : Hid (RI wi A n zs)) (hb : Below wi.heap.size wi wj) : Hid (RI wj A n zs) := h.out.below hb (Nat.le_refl _)
theorem rbOf (h : Hid (RI wi A n zs)) : Hid (RB wi wi.heap.size A n zs) := RB.of_ri h.out
theorem leStep {x : Nat} (h : Hid (x ≤ wi.heap.size)) (hb : Below wi.heap.size wi wj) : Hid (x ≤ wj.heap.size) := Nat.le_trans h.out hb.size
theorem drewBel (wi : World) : Below wi.heap.size wi wi.drew := (Below.refl _ _).drew
theorem allocBel (wi : World) (o : Obj) : Below wi.heap.size wi (wi.alloc o) := (Below.refl _ _).alloc (Nat.le_refl _) o
end
end Go.Proofs.YtgeeifjbfceogaaGreatDoor
