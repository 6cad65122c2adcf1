/- Blocks of two cells of the call's own, for laws whose answer's block is made ahead of its call. -/
import Derived.Test.YtijddnllacphfaaUl2
namespace Go.Proofs.Ytijddnllacphfaa
open Go Go.RowKit

/-- a block of two cells -/
def TB (w : World) (b : Nat) (u v : Value) : Prop := ∃ t, w.heap[b]? = some (.cells #[u, v] t (0, 0))
section
variable {w wi wj : World} {b b' K : Nat} {u v u' v' : Value}
theorem TB.new' (w : World) (u v : Value) (t : TypeId) {b : Nat} (hb : b = w.heap.size) : TB (w.alloc (.cells #[u, v] t)) b u v := by subst hb; exact ⟨t, heap_alloc_new w _⟩
theorem TB.lt (h : TB w b u v) : b < w.heap.size := by obtain ⟨t, e⟩ := h; exact (Array.getElem?_eq_some_iff.1 e).1
theorem TB.below (h : TB wi b u v) (hb : Below wi.heap.size wi wj) : TB wj b u v := by
  have hl := h.lt
  obtain ⟨t, e⟩ := h
  exact ⟨t, (hb.block b hl).trans e⟩
theorem TB.alloc (h : TB wi b u v) (o : Obj) : TB (wi.alloc o) b u v := h.below ((Below.refl _ _).alloc (Nat.le_refl _) o)
theorem TB.drewU (h : TB w b u v) : TB w.drew b u v := h
theorem TB.cell2 (h : TB w b u v) : Cell2 w b u v := by
  have hl := h.lt
  obtain ⟨t, e⟩ := h
  exact ⟨by simp [World.cell?, e], by simp [World.cell?, e], by simp [World.frozen?, e], by simp [World.frozen?, e], hl⟩
theorem TB.set0 (h : TB w b u v) (u' : Value) : TB (w.setCell ⟨b, 0, none⟩ u') b u' v := by
  obtain ⟨t, e⟩ := h
  rw [setCell_eq_setRow w b 0 _ _ _ u' e]
  exact ⟨t, setRow_heap w b _ _ _ _ e⟩
theorem TB.set1 (h : TB w b u v) (v' : Value) : TB (w.setCell ⟨b, 1, none⟩ v') b u v' := by
  obtain ⟨t, e⟩ := h
  rw [setCell_eq_setRow w b 1 _ _ _ v' e]
  exact ⟨t, setRow_heap w b _ _ _ _ e⟩
theorem RI.past {A a1 a2 : Option Addr} {n l1 c1 l2 c2 : Nat} {zs : List Int} (h : RI w A n zs) (t : TB w b (.slice a1 l1 c1) (.slice a2 l2 c2)) (i : Nat) (x : Value) : RI (w.setCell ⟨b, i, none⟩ x) A n zs := by
  refine ⟨h.1, fun hn => ?_⟩
  obtain ⟨g, off, rfl, hg, hc⟩ := h.2 hn
  refine ⟨g, off, rfl, by simpa using hg, fun j hj => ?_⟩
  rw [World.cell?_setCell_other _ _ _ _ ?_]
  · exact hc j hj
  · intro e
    have e1 : b = g := congrArg Addr.block e
    have h0 := hc 0 hn
    obtain ⟨ty, e2⟩ := t
    rw [← e1] at h0
    simp only [Nat.add_zero] at h0
    rcases off with _ | _ | off
    · simp [World.cell?, e2] at h0
    · simp [World.cell?, e2] at h0
    · simp [World.cell?, e2] at h0
end
end Go.Proofs.Ytijddnllacphfaa
