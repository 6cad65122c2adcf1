/- A new slice of slices as an answer; how one is kept while it grows. -/
import Derived.Test.YtcomgoapekkleaaRR3
namespace Go.Proofs.Ytcomgoapekkleaa
open Go Go.RowKit

/-- a new slice of slices of the call's own -/
def FreshSS (w : World) (zss : List (List Int)) (e : Ending) (w' : World) : Prop :=
  ∃ A c M S, e = .returned (.slice A zss.length c) ∧ OII w' w.heap.size M A zss.length c zss S ∧ Below w.heap.size w w'
def FreshSSB (w : World) (zss : List (List Int)) (b : Bool) (e : Ending) (w' : World) : Prop :=
  ∃ A c M S, e = .returned (.tuple #[.slice A zss.length c, .bool b]) ∧ OII w' w.heap.size M A zss.length c zss S ∧ Below w.heap.size w w'
section
variable {w wi wj : World} {B M K : Nat} {A : Option Addr} {n c : Nat} {zss : List (List Int)} {S : List Sl}
theorem OII.up (h : OII w B M A n c zss S) (hM : M ≤ K) (hK : K ≤ w.heap.size) : OII w B K A n c zss S :=
  ⟨h.own, h.lS, h.lz, h.inn, h.dis, fun j s hs b hb => Nat.lt_of_lt_of_le (h.lt j s hs b hb) hM, hK⟩
theorem OII.top (h : OII w B M A n c zss S) : OII w B w.heap.size A n c zss S := h.up h.le (Nat.le_refl _)
theorem OII.blkB (h : OII w B M A n c zss S) : ∀ x, blk A = some x → B ≤ x := by
  intro x hx
  rcases h.form with ⟨e, _, _⟩ | ⟨g, cur, e, hB, _⟩
  · rw [e] at hx; simp [blk] at hx
  · rw [e] at hx; simp [blk] at hx; omega
theorem belGrownSS (h : Hid (Below w.heap.size w wi)) (ho : OII wi B M A n c zss S) (hg : wi.grownBy wj (blk A)) (hB : w.heap.size ≤ B) : Hid (Below w.heap.size w wj) :=
  h.out.grown hg h.out.size (fun k hk => by have := ho.blkB k hk; omega)
theorem OII.alloc (h : OII w B M A n c zss S) (o : Obj) : OII (w.alloc o) B M A n c zss S := h.below ((Below.refl _ _).alloc (Nat.le_refl _) o)
theorem OII.drewN (h : OII w B M A n c zss S) (k : Nat) : OII (w.drewN k) B M A n c zss S := h.below (below_drewN (Below.refl _ _) k)
end
/-- two numbers in a new block -/
theorem OI.two (w : World) (B : Nat) (x y : Int) (hB : B ≤ w.heap.size) : OI (w.alloc (.cells #[.int .i64 x, .int .i64 y] 3)) B (some ⟨w.heap.size, 0, none⟩) 2 2 [x, y] :=
  ⟨rfl, World.ownsRow_lit _ _ _ hB (by decide) rfl⟩
theorem cellNewAt (w : World) (v : Value) (t : TypeId) {b : Nat} (hb : b = w.heap.size) : (w.alloc (.cells #[v] t)).cell? ⟨b, 0, none⟩ = some v := by subst hb; simp
theorem belDrewN {w wi : World} (h : Hid (Below w.heap.size w wi)) (k : Nat) : Hid (Below w.heap.size w (wi.drewN k)) := below_drewN h.out k
end Go.Proofs.Ytcomgoapekkleaa
