/- What a law keeps whose argument is a ladder and whose answer is a slice of ladders. -/
import Derived.Test.YtmlkccihpkpjfaaMgC
import Derived.Test.YtmlkccihpkpjfaaStLL
import Derived.Test.YtmlkccihpkpjfaaSp2
namespace Go.Proofs.Ytmlkccihpkpjfaa
open Go Go.RowKit

/-- the law's own state: the argument's box, the model's answer -/
structure StR (w wi : World) (K : Nat) (W : Int) (A : Option Addr) (n c : Nat) (zs : List Int) (A0 : Option Addr) (Ws : List Int) (yss : List (List Int)) : Prop where
  box : BoxB wi K w.heap.size W A n c zs
  ans : RLL wi K A0 yss.length Ws yss
  bel : Below w.heap.size w wi
  le : w.heap.size ≤ K
  le' : K ≤ wi.heap.size
section
variable {w wi wj : World} {K : Nat} {W : Int} {A : Option Addr} {n c : Nat} {zs : List Int} {A0 : Option Addr} {Ws : List Int} {yss : List (List Int)}
theorem strStep (h : Hid (StR w wi K W A n c zs A0 Ws yss)) (hb : Below K wi wj) : Hid (StR w wj K W A n c zs A0 Ws yss) :=
  ⟨h.out.box.step hb, h.out.ans.step hb, belK h.out.bel h.out.le hb, h.out.le, Nat.le_trans h.out.le' hb.size⟩
theorem strCall (h : Hid (StR w wi K W A n c zs A0 Ws yss)) (hb : Below wi.heap.size wi wj) : Hid (StR w wj K W A n c zs A0 Ws yss) := strStep h (ofCall h.out.le' hb)
theorem strAlloc (h : Hid (StR w wi K W A n c zs A0 Ws yss)) (o : Obj) : Hid (StR w (wi.alloc o) K W A n c zs A0 Ws yss) := strCall h ((Below.refl _ _).alloc (Nat.le_refl _) o)
theorem strDrew (h : Hid (StR w wi K W A n c zs A0 Ws yss)) : Hid (StR w wi.drew K W A n c zs A0 Ws yss) := strCall h ((Below.refl _ _).drew)
theorem ollDrew {B M : Nat} {S : List Sl} (h : Hid (OLL wi B M A n c Ws yss S)) : Hid (OLL wi.drew B M A n c Ws yss S) := h.out.below ((Below.refl _ _).drew)
end
end Go.Proofs.Ytmlkccihpkpjfaa
