/- What a law whose answer is a ladder, and whose argument is none, keeps from call to call. -/
import Derived.Test.YtgeeifjbfceogaaGreatDoorStP
namespace Go.Proofs.YtgeeifjbfceogaaGreatDoor
open Go Go.RowKit
section
variable {w wi wj : World} {K b : Nat} {X : Int} {A : Option Addr} {n c : Nat} {xs : List Int}
theorem bxSp (s : Hid (SP w wi K)) (h : Hid (BoxB wi K b X A n c xs)) (hb : Below wi.heap.size wi wj) : Hid (BoxB wj K b X A n c xs) := h.out.step (ofCall s.out.le' hb)
theorem bxK (h : Hid (BoxB wi K b X A n c xs)) (hb : Below K wi wj) : Hid (BoxB wj K b X A n c xs) := h.out.step hb
end
/-- two bools, and nothing that was there has turned -/
def RetBB (r q : Bool) (w : World) (e : Ending) (w' : World) : Prop := e = .returned (.tuple #[.bool r, .bool q]) ∧ Below w.heap.size w w'
end Go.Proofs.YtgeeifjbfceogaaGreatDoor
