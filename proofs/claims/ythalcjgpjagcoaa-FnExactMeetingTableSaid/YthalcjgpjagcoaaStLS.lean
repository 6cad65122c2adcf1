/- What a law keeps whose argument is a ladder and whose answer is a slice of slices. -/
import Derived.Test.YthalcjgpjagcoaaMgC
import Derived.Test.YthalcjgpjagcoaaStSS
namespace Go.Proofs.Ythalcjgpjagcoaa
open Go Go.RowKit

/-- the law's own state: the argument's box, the model's answer -/
structure StS (w wi : World) (K : Nat) (W : Int) (A : Option Addr) (n c : Nat) (zs : List Int) (A0 : Option Addr) (yss : List (List Int)) : Prop where
  box : BoxB wi K w.heap.size W A n c zs
  ans : RBB wi K A0 yss.length yss
  bel : Below w.heap.size w wi
  le : w.heap.size ≤ K
  le' : K ≤ wi.heap.size
section
variable {w wi wj : World} {K : Nat} {W : Int} {A : Option Addr} {n c : Nat} {zs : List Int} {A0 : Option Addr} {yss : List (List Int)}
theorem stsStep (h : Hid (StS w wi K W A n c zs A0 yss)) (hb : Below K wi wj) : Hid (StS w wj K W A n c zs A0 yss) :=
  ⟨h.out.box.step hb, h.out.ans.step hb, belK h.out.bel h.out.le hb, h.out.le, Nat.le_trans h.out.le' hb.size⟩
theorem stsCall (h : Hid (StS w wi K W A n c zs A0 yss)) (hb : Below wi.heap.size wi wj) : Hid (StS w wj K W A n c zs A0 yss) := stsStep h (ofCall h.out.le' hb)
theorem stsAlloc (h : Hid (StS w wi K W A n c zs A0 yss)) (o : Obj) : Hid (StS w (wi.alloc o) K W A n c zs A0 yss) := stsCall h ((Below.refl _ _).alloc (Nat.le_refl _) o)
theorem stsDrew (h : Hid (StS w wi K W A n c zs A0 yss)) : Hid (StS w wi.drew K W A n c zs A0 yss) := stsCall h ((Below.refl _ _).drew)
theorem oiiDrew {B M : Nat} {S : List Sl} (h : Hid (OII wi B M A n c yss S)) : Hid (OII wi.drew B M A n c yss S) := h.out.below ((Below.refl _ _).drew)
end
end Go.Proofs.Ythalcjgpjagcoaa
