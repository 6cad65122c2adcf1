/- A block of a ladder's two values that may lie anywhere among the call's own rows. -/
import Derived.Test.YtgadfjfokgodgaaMgE
namespace Go.Proofs.Ytgadfjfokgodgaa
open Go Go.RowKit

theorem Hid.mk' {p : Prop} (h : p) : Hid p := h
theorem hidOut {p : Prop} (h : Hid p) : p := h
/-- block b holds two values, as a ladder's -/
def LB (w : World) (b : Nat) (u v : Value) : Prop := w.heap[b]? = some (.cells #[u, v] 26 (0, 0))
section
variable {w wi wj : World} {b B K n c : Nat} {u v u' v' : Value} {A : Option Addr} {zs : List Int}
theorem LB.lt (h : LB w b u v) : b < w.heap.size := (Array.getElem?_eq_some_iff.1 h).1
theorem LB.new (w : World) (u v : Value) : LB (w.alloc (.cells #[u, v] 26)) w.heap.size u v := heap_alloc_new w _
theorem LB.new2 (w : World) (o : Obj) (u v : Value) : LB ((w.alloc o).alloc (.cells #[u, v] 26)) (w.heap.size + 1) u v := by
  have := LB.new (w.alloc o) u v
  rwa [World.size_alloc] at this
theorem RI.single2 (w : World) (o : Obj) (z : Int) : RI ((w.alloc o).alloc (.cells #[.int .i64 z] 3)) (some ⟨w.heap.size + 1, 0, none⟩) 1 [z] := by
  have := RI.single' (w.alloc o) z
  rwa [World.size_alloc] at this
theorem LB.drewU (h : LB w b u v) : LB w.drew b u v := h
theorem LB.below (h : LB wi b u v) (hb : Below wi.heap.size wi wj) : LB wj b u v := (hb.block b h.lt).trans h
theorem LB.alloc (h : LB wi b u v) (o : Obj) : LB (wi.alloc o) b u v := h.below ((Below.refl _ _).alloc (Nat.le_refl _) o)
theorem LB.ne (h : LB w b u v) (ho : OI w B A n c zs) : blk A ≠ some b := by
  intro e
  rcases ho.form with ⟨e1, _, _⟩ | ⟨g, cur, e1, _, _, hh, _⟩
  · rw [e1] at e; simp [blk] at e
  · rw [e1] at e
    simp [blk] at e
    subst e
    unfold LB at h
    rw [hh] at h
    injection h with h5
    injection h5 with _ h6 _
    exact absurd h6 (by decide)
theorem LB.grown (h : LB wi b u v) (hg : wi.grownBy wj (blk A)) (ho : OI wi B A n c zs) : LB wj b u v :=
  (hg.block b h.lt (fun e => h.ne ho e.symm)).trans h
theorem LB.cell2 (h : LB w b u v) : Cell2 w b u v := by
  have e : w.heap[b]? = some (.cells #[u, v] 26 (0, 0)) := h
  exact ⟨by simp [World.cell?, e], by simp [World.cell?, e], by simp [World.frozen?, e], by simp [World.frozen?, e], h.lt⟩
theorem RI.drewU (h : RI w A n zs) : RI w.drew A n zs := h
theorem OI.drewU (h : OI w B A n c zs) : OI w.drew B A n c zs := h
theorem grownSet (w : World) (p : Addr) (v : Value) : w.grownBy (w.setCell p v) (blk (some p)) :=
  grown_setCell (g := p.block) (grown_refl w _) (.inl rfl) v
theorem OI.setOther (h : OI w B A n c zs) {p : Addr} (hp : Go.Proofs.Ytgadfjfokgodgaa.blk A ≠ some p.block) (x : Value) : OI (w.setCell p x) B A n c zs :=
  h.kept (grownSet w p x) (fun b' hb' e => hp (by simp [Go.Proofs.Ytgadfjfokgodgaa.blk] at e; rw [e]; exact hb'))
theorem Cell2.setBoth (h : Cell2 w b u v) (u' v' : Value) : Cell2 ((w.setCell ⟨b, 0, none⟩ u').setCell ⟨b, 1, none⟩ v') b u' v' :=
  ⟨by rw [World.cell?_setCell_other _ _ _ _ (by simp)]; exact World.cell?_setCell_same _ _ _ h.c0,
   World.cell?_setCell_same _ _ _ (by rw [World.cell?_setCell_other _ _ _ _ (by simp)]; exact h.c1),
   by simpa [go_sem] using h.f0, by simpa [go_sem] using h.f1, by simpa [World.setCell] using h.lt⟩
theorem LB.set0 (h : LB w b u v) (u' : Value) : LB (w.setCell ⟨b, 0, none⟩ u') b u' v := by
  have e : w.heap[b]? = some (.cells #[u, v] 26 (0, 0)) := h
  rw [setCell_eq_setRow w b 0 _ _ _ u' e]
  exact setRow_heap w b _ _ _ _ e
theorem LB.set1 (h : LB w b u v) (v' : Value) : LB (w.setCell ⟨b, 1, none⟩ v') b u v' := by
  have e : w.heap[b]? = some (.cells #[u, v] 26 (0, 0)) := h
  rw [setCell_eq_setRow w b 1 _ _ _ v' e]
  exact setRow_heap w b _ _ _ _ e
/-- behind the store into a new block -/
theorem addFin {w1 : World} (hl : LB w b u v) (ho : OI w B A n c zs) (hb : Below B w1 w) (hB : B ≤ b) (u' v' : Value) :
    B ≤ b ∧ LB ((w.setCell ⟨b, 0, none⟩ u').setCell ⟨b, 1, none⟩ v') b u' v' ∧ OI ((w.setCell ⟨b, 0, none⟩ u').setCell ⟨b, 1, none⟩ v') B A n c zs ∧ Below B w1 ((w.setCell ⟨b, 0, none⟩ u').setCell ⟨b, 1, none⟩ v') :=
  ⟨hB, (hl.set0 u').set1 v', (ho.setOther (hl.ne ho) _).setOther (hl.ne ho) _, (hb.setCell hB _).setCell hB _⟩
end
/-- a ladder, if it is one, of rungs of the call's own -/
theorem laIf_own (W : Int) (A : Option Addr) (n c : Nat) (zs : List Int) (B : Nat) (w : World) (h : OI w B A n c zs) (hn : n ≤ 1048576) :
    Calls Try.prog 40 #[.agg #[.int .i64 W, .slice A n c]] w fun e w' => ∃ A' c', e = .returned (.tuple #[.agg #[.int .i64 (ifW (lad W zs) W), .slice A' (ifL (lad W zs) zs).length c'], .bool (lad W zs)]) ∧ OI w' B A' (ifL (lad W zs) zs).length c' (ifL (lad W zs) zs) ∧ Below w.heap.size w w' := by
  rcases hq : lad W zs with _ | _
  · refine (laIf_no W A n c zs w h.ri hn hq).mono ?_
    rintro e w' ⟨rfl, hb⟩
    exact ⟨none, 0, rfl, OI.none_ _ _, hb⟩
  · refine (laIf_yes W A n c zs w h.ri hn hq).mono ?_
    rintro e w' ⟨rfl, hb⟩
    refine ⟨A, c, ?_, ?_, hb⟩
    · rw [ifW_yes, ifL_yes, h.1]
    · rw [ifL_yes, h.1]; exact h.below hb
end Go.Proofs.Ytgadfjfokgodgaa
