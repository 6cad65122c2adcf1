/- A ladder that lies in a block of the law's own, and how that is kept from call to call. What a law that marks slices keeps from call to call: its argument's ladder, and the model's answer, both below a block number K. -/
import Derived.Test.YtgeeifjbfceogaaGreatDoorMgA
import Derived.Deep.DeepMust
import Derived.Test.YtgeeifjbfceogaaGreatDoorMgB
namespace Go.Proofs.YtgeeifjbfceogaaGreatDoor
open Go Go.RowKit

/-- block b holds the ladder W, zs; its rungs lie at A -/
structure Box (w : World) (b : Nat) (W : Int) (A : Option Addr) (n c : Nat) (zs : List Int) : Prop where
  c0 : w.cell? ⟨b, 0, none⟩ = some (.int .i64 W)
  c1 : w.cell? ⟨b, 1, none⟩ = some (.slice A n c)
  ri : RI w A n zs
  lt : b < w.heap.size

section
variable {w wi wj : World} {b : Nat} {W : Int} {A : Option Addr} {n c : Nat} {zs : List Int}
theorem Box.keep (h : Box wi b W A n c zs) (hb : Below wi.heap.size wi wj) : Box wj b W A n c zs :=
  ⟨(hb.cell (p := ⟨b, 0, none⟩) h.lt).trans h.c0, (hb.cell (p := ⟨b, 1, none⟩) h.lt).trans h.c1, h.ri.below hb (Nat.le_refl _), Nat.lt_of_lt_of_le h.lt hb.size⟩
theorem boxStep (h : Hid (Box wi b W A n c zs)) (hb : Below wi.heap.size wi wj) : Hid (Box wj b W A n c zs) := Box.keep h hb
theorem boxDrew (h : Hid (Box wi b W A n c zs)) : Hid (Box wi.drew b W A n c zs) := ⟨h.out.c0, h.out.c1, h.out.ri, h.out.lt⟩
theorem boxAlloc (h : Hid (Box wi b W A n c zs)) (o : Obj) : Hid (Box (wi.alloc o) b W A n c zs) := boxStep h ((Below.refl _ _).alloc (Nat.le_refl _) o)
theorem boxNew (t : TypeId) (h : RI wi A n zs) : Hid (Box (wi.alloc (.cells #[.int .i64 W, .slice A n c] t)) wi.heap.size W A n c zs) :=
  ⟨by simp, by simp, h.alloc _, by simp⟩
theorem belStep (h : Hid (Below w.heap.size w wi)) (hb : Below wi.heap.size wi wj) : Hid (Below w.heap.size w wj) := h.out.trans (hb.mono h.out.size)
theorem belDrew (h : Hid (Below w.heap.size w wi)) : Hid (Below w.heap.size w wi.drew) := h.out.drew
theorem belAlloc (h : Hid (Below w.heap.size w wi)) (o : Obj) : Hid (Below w.heap.size w (wi.alloc o)) := h.out.alloc h.out.size o
theorem belRefl : Hid (Below w.heap.size w w) := Below.refl _ _
end
/-- block b holds two values in cells that may be written -/
structure Cell2 (w : World) (b : Nat) (u v : Value) : Prop where
  c0 : w.cell? ⟨b, 0, none⟩ = some u
  c1 : w.cell? ⟨b, 1, none⟩ = some v
  f0 : w.frozen? ⟨b, 0, none⟩ = false
  f1 : w.frozen? ⟨b, 1, none⟩ = false
  lt : b < w.heap.size
section
variable {wi wj : World} {b : Nat} {u v : Value}
theorem cellStep (h : Hid (Cell2 wi b u v)) (hb : Below wi.heap.size wi wj) : Hid (Cell2 wj b u v) :=
  ⟨(hb.cell (p := ⟨b, 0, none⟩) h.out.lt).trans h.out.c0, (hb.cell (p := ⟨b, 1, none⟩) h.out.lt).trans h.out.c1, (hb.frozen (p := ⟨b, 0, none⟩) h.out.lt).trans h.out.f0, (hb.frozen (p := ⟨b, 1, none⟩) h.out.lt).trans h.out.f1, Nat.lt_of_lt_of_le h.out.lt hb.size⟩
theorem cellBelow {K : Nat} (h : Hid (Cell2 wi b u v)) (hlt : b < K) (hb : Below K wi wj) : Hid (Cell2 wj b u v) :=
  ⟨(hb.cell (p := ⟨b, 0, none⟩) hlt).trans h.out.c0, (hb.cell (p := ⟨b, 1, none⟩) hlt).trans h.out.c1, (hb.frozen (p := ⟨b, 0, none⟩) hlt).trans h.out.f0, (hb.frozen (p := ⟨b, 1, none⟩) hlt).trans h.out.f1, Nat.lt_of_lt_of_le h.out.lt hb.size⟩
theorem cellAlloc (h : Hid (Cell2 wi b u v)) (o : Obj) : Hid (Cell2 (wi.alloc o) b u v) := cellStep h ((Below.refl _ _).alloc (Nat.le_refl _) o)
theorem cellDrew (h : Hid (Cell2 wi b u v)) : Hid (Cell2 wi.drew b u v) := ⟨h.out.c0, h.out.c1, h.out.f0, h.out.f1, h.out.lt⟩
theorem cellNew (wi : World) (u v : Value) (t : TypeId) : Hid (Cell2 (wi.alloc (.cells #[u, v] t)) wi.heap.size u v) :=
  ⟨by simp, by simp, by simp [go_sem], by simp [go_sem], by simp⟩
end
/-- what is compared in the end -/
theorem eqSelf (W : Int) (zs : List Int) : Hid ((decide (W = W) && eqB zs zs) = true) := by
  show (decide (W = W) && eqB zs zs) = true
  simp [eqB]
end Go.Proofs.YtgeeifjbfceogaaGreatDoor
namespace Go.Proofs.YtgeeifjbfceogaaGreatDoor
open Go Go.RowKit

/-- the slice reads as zs, and lies below block K -/
def RB (w : World) (K : Nat) (A : Option Addr) (n : Nat) (zs : List Int) : Prop :=
  zs.length = n ∧ K ≤ w.heap.size ∧ (0 < n → ∃ b off, A = some ⟨b, off, none⟩ ∧ b < K ∧ ∀ j, j < n → w.cell? ⟨b, off + j, none⟩ = some (.int .i64 (gi zs j)))

section
variable {w wi wj : World} {K b : Nat} {W : Int} {A : Option Addr} {n c : Nat} {zs : List Int}
theorem RB.ri (h : RB w K A n zs) : RI w A n zs := ⟨h.1, fun hn => by
  obtain ⟨b, off, e, hb, hc⟩ := h.2.2 hn
  exact ⟨b, off, e, Nat.lt_of_lt_of_le hb h.2.1, hc⟩⟩
theorem RB.of_ri (h : RI w A n zs) : RB w w.heap.size A n zs := ⟨h.1, Nat.le_refl _, h.2⟩
theorem RB.step (h : RB wi K A n zs) (hb : Below K wi wj) : RB wj K A n zs := ⟨h.1, Nat.le_trans h.2.1 hb.size, fun hn => by
  obtain ⟨b, off, e, hbk, hc⟩ := h.2.2 hn
  exact ⟨b, off, e, hbk, fun j hj => (hb.cell (p := ⟨b, off + j, none⟩) hbk).trans (hc j hj)⟩⟩

/-- block b, below K, holds the ladder W, zs, whose rungs lie below K, too -/
structure BoxB (w : World) (K b : Nat) (W : Int) (A : Option Addr) (n c : Nat) (zs : List Int) : Prop where
  c0 : w.cell? ⟨b, 0, none⟩ = some (.int .i64 W)
  c1 : w.cell? ⟨b, 1, none⟩ = some (.slice A n c)
  rb : RB w K A n zs
  lt : b < K
theorem BoxB.of (h : Box w b W A n c zs) : BoxB w w.heap.size b W A n c zs := ⟨h.c0, h.c1, RB.of_ri h.ri, h.lt⟩
theorem BoxB.step (h : BoxB wi K b W A n c zs) (hb : Below K wi wj) : BoxB wj K b W A n c zs :=
  ⟨(hb.cell (p := ⟨b, 0, none⟩) h.lt).trans h.c0, (hb.cell (p := ⟨b, 1, none⟩) h.lt).trans h.c1, h.rb.step hb, h.lt⟩

/-- what a step may be: no block below K has turned; below w's size neither -/
theorem belK {w wi wj : World} (h : Below w.heap.size w wi) (hK : w.heap.size ≤ K) (hb : Below K wi wj) : Below w.heap.size w wj := h.trans (hb.mono hK)
theorem ofCall (hK : K ≤ wi.heap.size) (hb : Below wi.heap.size wi wj) : Below K wi wj := hb.mono hK
theorem ofMark {B : Nat} (ho : OI wi B A n c zs) (hg : wi.grownBy wj (blk A)) (hK : K ≤ B) (hs : K ≤ wi.heap.size) : Below K wi wj :=
  Below.of_grown hg (fun b hb => Nat.le_trans hK (ho.blk b hb).1) hs
end

/-- the law's own state: the argument's box, the model's answer -/
structure St (w wi : World) (K : Nat) (W : Int) (A : Option Addr) (n c : Nat) (zs : List Int) (A0 : Option Addr) (m : Nat) (ys : List Int) : Prop where
  box : BoxB wi K w.heap.size W A n c zs
  ans : RB wi K A0 m ys
  bel : Below w.heap.size w wi
  le : w.heap.size ≤ K
  le' : K ≤ wi.heap.size
section
variable {w wi wj : World} {K : Nat} {W : Int} {A : Option Addr} {n c : Nat} {zs : List Int} {A0 : Option Addr} {m : Nat} {ys : List Int}
theorem stStep (h : Hid (St w wi K W A n c zs A0 m ys)) (hb : Below K wi wj) : Hid (St w wj K W A n c zs A0 m ys) :=
  ⟨h.out.box.step hb, h.out.ans.step hb, belK h.out.bel h.out.le hb, h.out.le, Nat.le_trans h.out.le' hb.size⟩
theorem stCall (h : Hid (St w wi K W A n c zs A0 m ys)) (hb : Below wi.heap.size wi wj) : Hid (St w wj K W A n c zs A0 m ys) := stStep h (ofCall h.out.le' hb)
theorem stAlloc (h : Hid (St w wi K W A n c zs A0 m ys)) (o : Obj) : Hid (St w (wi.alloc o) K W A n c zs A0 m ys) := stCall h ((Below.refl _ _).alloc (Nat.le_refl _) o)
theorem stDrew (h : Hid (St w wi K W A n c zs A0 m ys)) : Hid (St w wi.drew K W A n c zs A0 m ys) := stCall h ((Below.refl _ _).drew)
end
section
variable {wi wj : World} {B B' : Nat} {A A' : Option Addr} {n c : Nat} {zs : List Int}
theorem oiStep (h : Hid (OI wi B A n c zs)) (hb : Below wi.heap.size wi wj) : Hid (OI wj B A n c zs) := h.out.below hb
theorem oiAlloc (h : Hid (OI wi B A n c zs)) (o : Obj) : Hid (OI (wi.alloc o) B A n c zs) := h.out.alloc o
theorem oiDrew (h : Hid (OI wi B A n c zs)) : Hid (OI wi.drew B A n c zs) := h.out
/-- a row from B on stays where another row is written whose block lies below B -/
theorem oiKept (h : Hid (OI wi B A n c zs)) (hg : wi.grownBy wj (blk A')) (hlt : Hid (∀ b, blk A' = some b → b < B)) : Hid (OI wj B A n c zs) :=
  h.out.kept hg (fun b hb e => by have h1 := (h.out.blk b hb).1; have h2 := hlt.out b e; omega)
theorem blkLt {w : World} (h : OI w B A n c zs) : Hid (∀ b, blk A = some b → b < w.heap.size) := fun b hb => (h.blk b hb).2
end
theorem rowStep {wi wj : World} {b t n : Nat} {f : Nat → Value} (h : Hid (wi.rowIs b t n f)) (hb : Below wi.heap.size wi wj) : Hid (wj.rowIs b t n f) := by
  obtain ⟨cs, hh, h1, h2⟩ := h.out
  have hlt : b < wi.heap.size := by
    rcases Nat.lt_or_ge b wi.heap.size with h | h
    · exact h
    · rw [Array.getElem?_eq_none h] at hh; cases hh
  exact ⟨cs, (hb.block b hlt).trans hh, h1, h2⟩
/-- the law's own state where the model's answer is a ladder in block bk -/
structure St2 (w wi : World) (K : Nat) (W : Int) (A : Option Addr) (n c : Nat) (zs : List Int) (bk : Nat) (V : Int) (A0 : Option Addr) (m c0 : Nat) (ys : List Int) : Prop where
  box : BoxB wi K w.heap.size W A n c zs
  ans : BoxB wi K bk V A0 m c0 ys
  bel : Below w.heap.size w wi
  le : w.heap.size ≤ K
  le' : K ≤ wi.heap.size
section
variable {w wi wj : World} {K : Nat} {W : Int} {A : Option Addr} {n c : Nat} {zs : List Int} {bk : Nat} {V : Int} {A0 : Option Addr} {m c0 : Nat} {ys : List Int}
theorem st2Step (h : Hid (St2 w wi K W A n c zs bk V A0 m c0 ys)) (hb : Below K wi wj) : Hid (St2 w wj K W A n c zs bk V A0 m c0 ys) :=
  ⟨h.out.box.step hb, h.out.ans.step hb, belK h.out.bel h.out.le hb, h.out.le, Nat.le_trans h.out.le' hb.size⟩
theorem st2Call (h : Hid (St2 w wi K W A n c zs bk V A0 m c0 ys)) (hb : Below wi.heap.size wi wj) : Hid (St2 w wj K W A n c zs bk V A0 m c0 ys) := st2Step h (ofCall h.out.le' hb)
theorem st2Alloc (h : Hid (St2 w wi K W A n c zs bk V A0 m c0 ys)) (o : Obj) : Hid (St2 w (wi.alloc o) K W A n c zs bk V A0 m c0 ys) := st2Call h ((Below.refl _ _).alloc (Nat.le_refl _) o)
theorem st2Drew (h : Hid (St2 w wi K W A n c zs bk V A0 m c0 ys)) : Hid (St2 w wi.drew K W A n c zs bk V A0 m c0 ys) := st2Call h ((Below.refl _ _).drew)
end
/-- a block of two values stays where a row is written that lies below it -/
theorem cellKept {wi wj : World} {b : Nat} {u v : Value} {A' : Option Addr} (h : Hid (Cell2 wi b u v)) (hg : wi.grownBy wj (blk A')) (hlt : Hid (∀ b', blk A' = some b' → b' < b)) : Hid (Cell2 wj b u v) := by
  have e : wj.heap[b]? = wi.heap[b]? := hg.block b h.out.lt (fun e => by have := hlt.out b e.symm; omega)
  exact ⟨(World.cell?_of_block (w := wi) (a := ⟨b, 0, none⟩) e).trans h.out.c0, (World.cell?_of_block (w := wi) (a := ⟨b, 1, none⟩) e).trans h.out.c1, (World.frozen?_of_block (w := wi) (a := ⟨b, 0, none⟩) e).trans h.out.f0, (World.frozen?_of_block (w := wi) (a := ⟨b, 1, none⟩) e).trans h.out.f1, Nat.lt_of_lt_of_le h.out.lt hg.size⟩
theorem cellKeptNe {wi wj : World} {b B n c : Nat} {zs : List Int} {u v : Value} {A' : Option Addr} (h : Hid (Cell2 wi b u v)) (hg : wi.grownBy wj (blk A')) (ho : OI wi B A' n c zs) (hlt : b < B) : Hid (Cell2 wj b u v) := by
  have e : wj.heap[b]? = wi.heap[b]? := hg.block b h.out.lt (fun e => by have := (ho.blk b e.symm).1; omega)
  exact ⟨(World.cell?_of_block (w := wi) (a := ⟨b, 0, none⟩) e).trans h.out.c0, (World.cell?_of_block (w := wi) (a := ⟨b, 1, none⟩) e).trans h.out.c1, (World.frozen?_of_block (w := wi) (a := ⟨b, 0, none⟩) e).trans h.out.f0, (World.frozen?_of_block (w := wi) (a := ⟨b, 1, none⟩) e).trans h.out.f1, Nat.lt_of_lt_of_le h.out.lt hg.size⟩
theorem cellSet1 {w : World} {b : Nat} {u v : Value} (h : Hid (Cell2 w b u v)) (v' : Value) : Hid (Cell2 (w.setCell ⟨b, 1, none⟩ v') b u v') :=
  ⟨by rw [World.cell?_setCell_other _ _ _ _ (by simp)]; exact h.out.c0, World.cell?_setCell_same _ _ _ h.out.c1, by simpa [go_sem] using h.out.f0, by simpa [go_sem] using h.out.f1, by simpa [World.setCell] using h.out.lt⟩
theorem blkLtMono {A : Option Addr} {a b : Nat} (h : Hid (∀ b', blk A = some b' → b' < a)) (hab : a ≤ b) : Hid (∀ b', blk A = some b' → b' < b) := fun b' hb' => Nat.lt_of_lt_of_le (h.out b' hb') hab
theorem eqB_self (ys : List Int) : eqB ys ys = true := by simp [eqB]
end Go.Proofs.YtgeeifjbfceogaaGreatDoor
