/- What a law whose answer is a slice of slices keeps from call to call. -/
import Derived.Test.YtgeeifjbfceogaaGreatDoorMgF
namespace Go.Proofs.YtgeeifjbfceogaaGreatDoor
open Go Go.RowKit
section
variable {w wi wj : World} {B M K : Nat} {A A' : Option Addr} {n c : Nat} {zss : List (List Int)} {S : List Sl}
theorem oiiStep (h : Hid (OII wi B M A n c zss S)) (hb : Below wi.heap.size wi wj) : Hid (OII wj B M A n c zss S) := h.out.below hb
theorem oiiKept (h : Hid (OII wi B M A n c zss S)) (hg : wi.grownBy wj (blk A')) (hlt : Hid (∀ b, blk A' = some b → b < B)) : Hid (OII wj B M A n c zss S) := h.out.kept hg hlt.out
theorem rbbStep (h : Hid (RBB wi K A n zss)) (hb : Below K wi wj) : Hid (RBB wj K A n zss) := h.out.step hb
theorem rbbCall (s : Hid (SP w wi K)) (h : Hid (RBB wi K A n zss)) (hb : Below wi.heap.size wi wj) : Hid (RBB wj K A n zss) := h.out.step (ofCall s.out.le' hb)
theorem leK {x : Nat} (h : Hid (x ≤ wi.heap.size)) (hb : Below K wi wj) : Hid (x ≤ wj.heap.size) := Nat.le_trans h.out hb.size
end
end Go.Proofs.YtgeeifjbfceogaaGreatDoor
