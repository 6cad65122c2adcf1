/- What a law keeps whose answer is a slice of texts. -/
import Derived.Test.YtnogmbhcphglkaaDoorSt
import Derived.Test.YtnogmbhcphglkaaDoorBase2
import Derived.Test.YtnogmbhcphglkaaDoorTb2
namespace Go.Proofs.YtnogmbhcphglkaaDoor
open Go Go.RowKit

/-- the slice reads as zs, and lies below block K -/
def RTB (w : World) (K : Nat) (A : Option Addr) (n : Nat) (zs : List (List UInt8)) : Prop :=
  zs.length = n ∧ K ≤ w.heap.size ∧ (0 < n → ∃ b off, A = some ⟨b, off, none⟩ ∧ b < K ∧ ∀ j, j < n → w.cell? ⟨b, off + j, none⟩ = some (str (gt zs j)))

section
variable {w wi wj : World} {K b : Nat} {W : Int} {A : Option Addr} {n c : Nat} {zs : List (List UInt8)}
theorem RTB.ri (h : RTB w K A n zs) : RT w A n zs := ⟨h.1, fun hn => by
  obtain ⟨b, off, e, hb, hc⟩ := h.2.2 hn
  exact ⟨b, off, e, Nat.lt_of_lt_of_le hb h.2.1, hc⟩⟩
theorem RTB.of_ri (h : RT w A n zs) : RTB w w.heap.size A n zs := ⟨h.1, Nat.le_refl _, h.2⟩
theorem RTB.step (h : RTB wi K A n zs) (hb : Below K wi wj) : RTB wj K A n zs := ⟨h.1, Nat.le_trans h.2.1 hb.size, fun hn => by
  obtain ⟨b, off, e, hbk, hc⟩ := h.2.2 hn
  exact ⟨b, off, e, hbk, fun j hj => (hb.cell (p := ⟨b, off + j, none⟩) hbk).trans (hc j hj)⟩⟩

end
section
variable {w wi wj : World} {K b : Nat} {W : Int} {A : Option Addr} {n c : Nat} {zs : List (List UInt8)}
theorem ofMarkT {B : Nat} (ho : OT wi B A n c zs) (hg : wi.grownBy wj (blk A)) (hK : K ≤ B) (hs : K ≤ wi.heap.size) : Below K wi wj :=
  Below.of_grown hg (fun b hb => Nat.le_trans hK (ho.blk b hb).1) hs
end
/-- the law's own state: the argument's box, the model's answer -/
structure StT (w wi : World) (K : Nat) (W : Int) (A : Option Addr) (n c : Nat) (zs : List Int) (A0 : Option Addr) (m : Nat) (ys : List (List UInt8)) : Prop where
  box : BoxB wi K w.heap.size W A n c zs
  ans : RTB wi K A0 m ys
  bel : Below w.heap.size w wi
  le : w.heap.size ≤ K
  le' : K ≤ wi.heap.size
section
variable {w wi wj : World} {K : Nat} {W : Int} {A : Option Addr} {n c : Nat} {zs : List Int} {A0 : Option Addr} {m : Nat} {ys : List (List UInt8)}
theorem sttStep (h : Hid (StT w wi K W A n c zs A0 m ys)) (hb : Below K wi wj) : Hid (StT w wj K W A n c zs A0 m ys) :=
  ⟨h.out.box.step hb, h.out.ans.step hb, belK h.out.bel h.out.le hb, h.out.le, Nat.le_trans h.out.le' hb.size⟩
theorem sttCall (h : Hid (StT w wi K W A n c zs A0 m ys)) (hb : Below wi.heap.size wi wj) : Hid (StT w wj K W A n c zs A0 m ys) := sttStep h (ofCall h.out.le' hb)
theorem sttAlloc (h : Hid (StT w wi K W A n c zs A0 m ys)) (o : Obj) : Hid (StT w (wi.alloc o) K W A n c zs A0 m ys) := sttCall h ((Below.refl _ _).alloc (Nat.le_refl _) o)
theorem sttDrew (h : Hid (StT w wi K W A n c zs A0 m ys)) : Hid (StT w wi.drew K W A n c zs A0 m ys) := sttCall h ((Below.refl _ _).drew)
end
section
variable {wi wj : World} {B B' : Nat} {A A' : Option Addr} {n c : Nat} {zs : List (List UInt8)}
theorem otStep (h : Hid (OT wi B A n c zs)) (hb : Below wi.heap.size wi wj) : Hid (OT wj B A n c zs) := h.out.below hb
theorem otAlloc (h : Hid (OT wi B A n c zs)) (o : Obj) : Hid (OT (wi.alloc o) B A n c zs) := h.out.alloc o
theorem otDrew (h : Hid (OT wi B A n c zs)) : Hid (OT wi.drew B A n c zs) := h.out
/-- a row from B on stays where another row is written whose block lies below B -/
theorem otKept (h : Hid (OT wi B A n c zs)) (hg : wi.grownBy wj (blk A')) (hlt : Hid (∀ b, blk A' = some b → b < B)) : Hid (OT wj B A n c zs) :=
  h.out.kept hg (fun b hb e => by have h1 := (h.out.blk b hb).1; have h2 := hlt.out b e; omega)
theorem blkLtT {w : World} (h : OT w B A n c zs) : Hid (∀ b, blk A = some b → b < w.heap.size) := fun b hb => (h.blk b hb).2
end
theorem eqT_self (ys : List (List UInt8)) : eqT ys ys = true := by simp [eqT]
end Go.Proofs.YtnogmbhcphglkaaDoor
