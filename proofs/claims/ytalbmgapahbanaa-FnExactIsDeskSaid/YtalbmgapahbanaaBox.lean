/- A ladder that lies in a block of the law's own, and how that is kept from call to call. -/
import Derived.Test.YtalbmgapahbanaaMgA
import Derived.Deep.DeepMust
namespace Go.Proofs.Ytalbmgapahbanaa
open Go Go.RowKit

/-- block b holds the ladder W, zs; its rungs lie at A -/
structure Box (w : World) (b : Nat) (W : Int) (A : Option Addr) (n c : Nat) (zs : List Int) : Prop where
  c0 : w.cell? ⟨b, 0, none⟩ = some (.int .i64 W)
  c1 : w.cell? ⟨b, 1, none⟩ = some (.slice A n c)
  ri : RI w A n zs
  lt : b < w.heap.size

section
variable {w wi wj : World} {b : Nat} {W : Int} {A : Option Addr} {n c : Nat} {zs : List Int}
theorem Box.keep (h : Box wi b W A n c zs) (hb : Below wi.heap.size wi wj) : Box wj b W A n c zs :=
  ⟨(hb.cell (p := ⟨b, 0, none⟩) h.lt).trans h.c0, (hb.cell (p := ⟨b, 1, none⟩) h.lt).trans h.c1, h.ri.below hb (Nat.le_refl _), Nat.lt_of_lt_of_le h.lt hb.size⟩
theorem boxStep (h : Hid (Box wi b W A n c zs)) (hb : Below wi.heap.size wi wj) : Hid (Box wj b W A n c zs) := Box.keep h hb
theorem boxDrew (h : Hid (Box wi b W A n c zs)) : Hid (Box wi.drew b W A n c zs) := ⟨h.out.c0, h.out.c1, h.out.ri, h.out.lt⟩
theorem boxAlloc (h : Hid (Box wi b W A n c zs)) (o : Obj) : Hid (Box (wi.alloc o) b W A n c zs) := boxStep h ((Below.refl _ _).alloc (Nat.le_refl _) o)
theorem boxNew (t : TypeId) (h : RI wi A n zs) : Hid (Box (wi.alloc (.cells #[.int .i64 W, .slice A n c] t)) wi.heap.size W A n c zs) :=
  ⟨by simp, by simp, h.alloc _, by simp⟩
theorem belStep (h : Hid (Below w.heap.size w wi)) (hb : Below wi.heap.size wi wj) : Hid (Below w.heap.size w wj) := h.out.trans (hb.mono h.out.size)
theorem belDrew (h : Hid (Below w.heap.size w wi)) : Hid (Below w.heap.size w wi.drew) := h.out.drew
theorem belAlloc (h : Hid (Below w.heap.size w wi)) (o : Obj) : Hid (Below w.heap.size w (wi.alloc o)) := h.out.alloc h.out.size o
theorem belRefl : Hid (Below w.heap.size w w) := Below.refl _ _
end
/-- block b holds two values in cells that may be written -/
structure Cell2 (w : World) (b : Nat) (u v : Value) : Prop where
  c0 : w.cell? ⟨b, 0, none⟩ = some u
  c1 : w.cell? ⟨b, 1, none⟩ = some v
  f0 : w.frozen? ⟨b, 0, none⟩ = false
  f1 : w.frozen? ⟨b, 1, none⟩ = false
  lt : b < w.heap.size
section
variable {wi wj : World} {b : Nat} {u v : Value}
theorem cellStep (h : Hid (Cell2 wi b u v)) (hb : Below wi.heap.size wi wj) : Hid (Cell2 wj b u v) :=
  ⟨(hb.cell (p := ⟨b, 0, none⟩) h.out.lt).trans h.out.c0, (hb.cell (p := ⟨b, 1, none⟩) h.out.lt).trans h.out.c1, (hb.frozen (p := ⟨b, 0, none⟩) h.out.lt).trans h.out.f0, (hb.frozen (p := ⟨b, 1, none⟩) h.out.lt).trans h.out.f1, Nat.lt_of_lt_of_le h.out.lt hb.size⟩
theorem cellBelow {K : Nat} (h : Hid (Cell2 wi b u v)) (hlt : b < K) (hb : Below K wi wj) : Hid (Cell2 wj b u v) :=
  ⟨(hb.cell (p := ⟨b, 0, none⟩) hlt).trans h.out.c0, (hb.cell (p := ⟨b, 1, none⟩) hlt).trans h.out.c1, (hb.frozen (p := ⟨b, 0, none⟩) hlt).trans h.out.f0, (hb.frozen (p := ⟨b, 1, none⟩) hlt).trans h.out.f1, Nat.lt_of_lt_of_le h.out.lt hb.size⟩
theorem cellAlloc (h : Hid (Cell2 wi b u v)) (o : Obj) : Hid (Cell2 (wi.alloc o) b u v) := cellStep h ((Below.refl _ _).alloc (Nat.le_refl _) o)
theorem cellDrew (h : Hid (Cell2 wi b u v)) : Hid (Cell2 wi.drew b u v) := ⟨h.out.c0, h.out.c1, h.out.f0, h.out.f1, h.out.lt⟩
theorem cellNew (wi : World) (u v : Value) (t : TypeId) : Hid (Cell2 (wi.alloc (.cells #[u, v] t)) wi.heap.size u v) :=
  ⟨by simp, by simp, by simp [go_sem], by simp [go_sem], by simp⟩
end
/-- what is compared in the end -/
theorem eqSelf (W : Int) (zs : List Int) : Hid ((decide (W = W) && eqB zs zs) = true) := by
  show (decide (W = W) && eqB zs zs) = true
  simp [eqB]
end Go.Proofs.Ytalbmgapahbanaa
