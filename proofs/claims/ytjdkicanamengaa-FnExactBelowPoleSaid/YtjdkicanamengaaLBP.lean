/- A block of a pole's two values that may lie anywhere among the call's own rows. -/
import Derived.Test.YtjdkicanamengaaLB
namespace Go.Proofs.Ytjdkicanamengaa
open Go Go.RowKit

/-- block b holds two values, as a ladder's -/
def LBP (w : World) (b : Nat) (u v : Value) : Prop := w.heap[b]? = some (.cells #[u, v] 27 (0, 0))
section
variable {w wi wj : World} {b B K n c : Nat} {u v u' v' : Value} {A : Option Addr} {zs : List Int}
theorem LBP.lt (h : LBP w b u v) : b < w.heap.size := (Array.getElem?_eq_some_iff.1 h).1
theorem LBP.new (w : World) (u v : Value) : LBP (w.alloc (.cells #[u, v] 27)) w.heap.size u v := heap_alloc_new w _
theorem LBP.new2 (w : World) (o : Obj) (u v : Value) : LBP ((w.alloc o).alloc (.cells #[u, v] 27)) (w.heap.size + 1) u v := by
  have := LBP.new (w.alloc o) u v
  rwa [World.size_alloc] at this

theorem LBP.drewU (h : LBP w b u v) : LBP w.drew b u v := h
theorem LBP.below (h : LBP wi b u v) (hb : Below wi.heap.size wi wj) : LBP wj b u v := (hb.block b h.lt).trans h
theorem LBP.alloc (h : LBP wi b u v) (o : Obj) : LBP (wi.alloc o) b u v := h.below ((Below.refl _ _).alloc (Nat.le_refl _) o)
theorem LBP.ne (h : LBP w b u v) (ho : OI w B A n c zs) : blk A ≠ some b := by
  intro e
  rcases ho.form with ⟨e1, _, _⟩ | ⟨g, cur, e1, _, _, hh, _⟩
  · rw [e1] at e; simp [blk] at e
  · rw [e1] at e
    simp [blk] at e
    subst e
    unfold LBP at h
    rw [hh] at h
    injection h with h5
    injection h5 with _ h6 _
    exact absurd h6 (by decide)
theorem LBP.grown (h : LBP wi b u v) (hg : wi.grownBy wj (blk A)) (ho : OI wi B A n c zs) : LBP wj b u v :=
  (hg.block b h.lt (fun e => h.ne ho e.symm)).trans h
theorem LBP.cell2 (h : LBP w b u v) : Cell2 w b u v := by
  have e : w.heap[b]? = some (.cells #[u, v] 27 (0, 0)) := h
  exact ⟨by simp [World.cell?, e], by simp [World.cell?, e], by simp [World.frozen?, e], by simp [World.frozen?, e], h.lt⟩





theorem LBP.set0 (h : LBP w b u v) (u' : Value) : LBP (w.setCell ⟨b, 0, none⟩ u') b u' v := by
  have e : w.heap[b]? = some (.cells #[u, v] 27 (0, 0)) := h
  rw [setCell_eq_setRow w b 0 _ _ _ u' e]
  exact setRow_heap w b _ _ _ _ e
theorem LBP.set1 (h : LBP w b u v) (v' : Value) : LBP (w.setCell ⟨b, 1, none⟩ v') b u v' := by
  have e : w.heap[b]? = some (.cells #[u, v] 27 (0, 0)) := h
  rw [setCell_eq_setRow w b 1 _ _ _ v' e]
  exact setRow_heap w b _ _ _ _ e
/-- behind the store into a new block -/
theorem addFinP {w1 : World} (hl : LBP w b u v) (ho : OI w B A n c zs) (hb : Below B w1 w) (hB : B ≤ b) (u' v' : Value) :
    B ≤ b ∧ LBP ((w.setCell ⟨b, 0, none⟩ u').setCell ⟨b, 1, none⟩ v') b u' v' ∧ OI ((w.setCell ⟨b, 0, none⟩ u').setCell ⟨b, 1, none⟩ v') B A n c zs ∧ Below B w1 ((w.setCell ⟨b, 0, none⟩ u').setCell ⟨b, 1, none⟩ v') :=
  ⟨hB, (hl.set0 u').set1 v', (ho.setOther (hl.ne ho) _).setOther (hl.ne ho) _, (hb.setCell hB _).setCell hB _⟩
end
end Go.Proofs.Ytjdkicanamengaa
