/- What a law whose answer is a slice of ladders keeps from call to call. -/
import Derived.Test.YtgeeifjbfceogaaGreatDoorLL2
namespace Go.Proofs.YtgeeifjbfceogaaGreatDoor
open Go Go.RowKit
section
variable {w wi wj : World} {B M K : Nat} {A A' : Option Addr} {n c : Nat} {Ws : List Int} {zss : List (List Int)} {S : List Sl}
theorem ollStep (h : Hid (OLL wi B M A n c Ws zss S)) (hb : Below wi.heap.size wi wj) : Hid (OLL wj B M A n c Ws zss S) := h.out.below hb
theorem ollKept (h : Hid (OLL wi B M A n c Ws zss S)) (hg : wi.grownBy wj (blk A')) (hlt : Hid (∀ b, blk A' = some b → b < B)) : Hid (OLL wj B M A n c Ws zss S) := h.out.kept hg hlt.out
theorem rllStep (h : Hid (RLL wi K A n Ws zss)) (hb : Below K wi wj) : Hid (RLL wj K A n Ws zss) := h.out.step hb
theorem rllCall (s : Hid (SP w wi K)) (h : Hid (RLL wi K A n Ws zss)) (hb : Below wi.heap.size wi wj) : Hid (RLL wj K A n Ws zss) := h.out.step (ofCall s.out.le' hb)
end
end Go.Proofs.YtgeeifjbfceogaaGreatDoor
