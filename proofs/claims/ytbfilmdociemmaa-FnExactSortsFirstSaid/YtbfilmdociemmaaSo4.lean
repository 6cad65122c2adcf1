/- Two values put on wires, and taken off them. -/
import Derived.Test.YtbfilmdociemmaaSo3
import Derived.Test.YtbfilmdociemmaaStP
namespace Go.Proofs.Ytbfilmdociemmaa
open Go Go.RowKit Go.Conc

theorem ChanStep.refl (w : World) (n : Nat) (C : Nat → Nat) : ChanStep w w n C := ⟨rfl, rfl, rfl, Nat.le_refl _, fun _ _ _ => rfl⟩
theorem ChanStep.set {w w1 : World} {n : Nat} {C : Nat → Nat} (h : ChanStep w w1 n C) {k : Nat} (hk : k < n) (cap : Nat) (buf : Array Value) (cl : Bool) (s r : Nat) (tm : Bool) : ChanStep w (w1.setChan (C k) cap buf cl s r tm) n C :=
  ⟨h.1, h.2.1, h.2.2.1, by rw [size_setChan]; exact h.2.2.2.1, fun i hi hne => (setChan_far _ _ _ _ _ _ _ _ _ (fun e => hne k hk e.symm)).trans (h.2.2.2.2 i hi hne)⟩
theorem ChanStep.drew {w w1 : World} {n : Nat} {C : Nat → Nat} (h : ChanStep w w1 n C) : ChanStep w w1.drew n C := ⟨h.1, h.2.1, h.2.2.1, h.2.2.2.1, h.2.2.2.2⟩
theorem ChanStep.trans {w w1 w2 : World} {n : Nat} {C : Nat → Nat} (h : ChanStep w w1 n C) (h' : ChanStep w1 w2 n C) : ChanStep w w2 n C :=
  ⟨h'.1.trans h.1, h'.2.1.trans h.2.1, h'.2.2.1.trans h.2.2.1, Nat.le_trans h.2.2.2.1 h'.2.2.2.1, fun i hi hne => (h'.2.2.2.2 i (Nat.lt_of_lt_of_le hi h.2.2.2.1) hne).trans (h.2.2.2.2 i hi hne)⟩
/-- channels from block B on: below it nothing turns -/
theorem ChanStep.below {w w1 : World} {n : Nat} {C : Nat → Nat} (h : ChanStep w w1 n C) {B : Nat} (hB : B ≤ w.heap.size) (hC : ∀ j, j < n → B ≤ C j) : Below B w w1 :=
  ⟨h.1, h.2.1, h.2.2.1, h.2.2.2.1, fun i hi => h.2.2.2.2 i (by omega) (fun j hj e => by have := hC j hj; omega)⟩

theorem cellNat {w : World} {B g n : Nat} {C : Nat → Nat} {F : Nat → Option Int} (h : OCh w B g n C F) {j : Nat} (hj : j < n) : w.cell? ⟨g, 0 + j, none⟩ = some (.chan (some (C j))) := by rw [Nat.zero_add]; exact h.cell j hj

set_option maxRecDepth 100000 in
set_option maxHeartbeats 1000000 in
theorem put_any (w : World) (B g n : Nat) (C : Nat → Nat) (F : Nat → Option Int) (h : OCh w B g n C F) (r : Nat) (hr : r + 1 < n) (hn : n ≤ 8) (h1 : F r = none) (h2 : F (r + 1) = none) (x y : Int) :
    Calls Try.prog 64 #[.slice (some ⟨g, 0, none⟩) n n, .int .i64 (r : Int), .int .i64 x, .int .i64 y] w fun e w' =>
      e = .returned (.tuple #[]) ∧ OCh w' B g n C (fun j => if j = r then some x else if j = r + 1 then some y else F j) ∧ ChanStep w w' n C := by
  obtain ⟨s1, r1, e1⟩ := h.chan r (by omega)
  rw [h1] at e1
  have c1 := h.cell r (by omega)
  have hr0 : r < n := by omega
  have hw1 : IntKind.i64.wrap ((r : Int) + 1) = (r : Int) + 1 := IntWalk.i64_in _ (by omega)
  have hr1 : (0 : Int) ≤ (r : Int) + 1 := by omega
  have hr2 : (r : Int) + 1 < (n : Int) := by omega
  go_enter Try.func64, Try.ntmps64
  apply wp_seq_k; intro K hK
  with_reducible refine wp_region_to ?_
  simp only [List.size_toArray, List.length_cons, List.length_nil, Nat.reduceAdd, Nat.zero_add, List.range, List.range.loop]
  (refine opsTo_oper rfl rfl (fun K_ hK_ hS_ => ?_); go_simp; (first | refine hK_ _ _ ?_ | refine hS_ _ ?_); clear hK_ hS_ K_; simp only [Act.put, List.getElem_toArray, List.getElem_cons_zero, List.getElem_cons_succ, List.setIfInBounds_toArray, List.set_cons_zero, List.set_cons_succ])
  (refine opsTo_oper rfl rfl (fun K_ hK_ hS_ => ?_); go_simp; (first | refine hK_ _ _ ?_ | refine hS_ _ ?_); clear hK_ hS_ K_; simp only [Act.put, List.getElem_toArray, List.getElem_cons_zero, List.getElem_cons_succ, List.setIfInBounds_toArray, List.set_cons_zero, List.set_cons_succ])
  (refine opsTo_oper rfl rfl (fun K_ hK_ hS_ => ?_); go_simp; (first | refine hK_ _ _ ?_ | refine hS_ _ ?_); clear hK_ hS_ K_; simp only [Act.put, List.getElem_toArray, List.getElem_cons_zero, List.getElem_cons_succ, List.setIfInBounds_toArray, List.set_cons_zero, List.set_cons_succ])
  (refine opsTo_oper rfl rfl (fun K_ hK_ hS_ => ?_); go_simp; (first | refine hK_ _ _ ?_ | refine hS_ _ ?_); clear hK_ hS_ K_; simp only [Act.put, List.getElem_toArray, List.getElem_cons_zero, List.getElem_cons_succ, List.setIfInBounds_toArray, List.set_cons_zero, List.set_cons_succ])
  (refine opsTo_oper rfl rfl (fun K_ hK_ hS_ => ?_); go_simp; (first | refine hK_ _ _ ?_ | refine hS_ _ ?_); clear hK_ hS_ K_; simp only [Act.put, List.getElem_toArray, List.getElem_cons_zero, List.getElem_cons_succ, List.setIfInBounds_toArray, List.set_cons_zero, List.set_cons_succ])
  refine opsTo_send (c := C r) (cap := 1) (buf := #[]) (s := s1) (r := r1) (tm := false) (v := .int .i64 x) (z := .tuple #[]) rfl rfl (by simp [execOp, scase, Act.eval]) e1 (by simp) ?_
  simp only [Act.put, List.getElem_toArray, List.getElem_cons_zero, List.getElem_cons_succ, List.setIfInBounds_toArray, List.set_cons_zero, List.set_cons_succ]
  refine opsTo_end ?_
  simp only [Exit.then]
  have hO1 : OCh (w.setChan (C r) 1 (bufOf (some x)) false (s1 + 1) r1 false) B g n C (fun j => if j = r then some x else F j) := h.set hr0 (some x) (s1 + 1) r1
  have hS1 : ChanStep w (w.setChan (C r) 1 (bufOf (some x)) false (s1 + 1) r1 false) n C := (ChanStep.refl w n C).set hr0 _ _ _ _ _ _
  rw [show (#[] : Array Value).push (.int .i64 x) = bufOf (some x) from rfl]
  obtain ⟨w2, hw2⟩ : ∃ v : World, v = w.setChan (C r) 1 (bufOf (some x)) false (s1 + 1) r1 false := ⟨_, rfl⟩
  rw [← hw2] at hO1 hS1 ⊢
  obtain ⟨s2, r2, e2⟩ := hO1.chan (r + 1) hr
  rw [if_neg (by omega), h2] at e2
  have c2 := hO1.cell (r + 1) hr
  have HO1 := Lib.hid hO1
  have HS1 := Lib.hid hS1
  clear hw2 e1 c1 h hO1 hS1
  apply hK
  clear hK K
  with_reducible refine wp_region_to ?_
  simp only [List.size_toArray, List.length_cons, List.length_nil, Nat.reduceAdd, Nat.zero_add, List.range, List.range.loop]
  (refine opsTo_oper rfl rfl (fun K_ hK_ hS_ => ?_); go_simp; (first | refine hK_ _ _ ?_ | refine hS_ _ ?_); clear hK_ hS_ K_; simp only [Act.put, List.getElem_toArray, List.getElem_cons_zero, List.getElem_cons_succ, List.setIfInBounds_toArray, List.set_cons_zero, List.set_cons_succ])
  (refine opsTo_oper rfl rfl (fun K_ hK_ hS_ => ?_); go_simp; (first | refine hK_ _ _ ?_ | refine hS_ _ ?_); clear hK_ hS_ K_; simp only [Act.put, List.getElem_toArray, List.getElem_cons_zero, List.getElem_cons_succ, List.setIfInBounds_toArray, List.set_cons_zero, List.set_cons_succ])
  (refine opsTo_oper rfl rfl (fun K_ hK_ hS_ => ?_); go_simp; (first | refine hK_ _ _ ?_ | refine hS_ _ ?_); clear hK_ hS_ K_; simp only [Act.put, List.getElem_toArray, List.getElem_cons_zero, List.getElem_cons_succ, List.setIfInBounds_toArray, List.set_cons_zero, List.set_cons_succ])
  (refine opsTo_oper rfl rfl (fun K_ hK_ hS_ => ?_); go_simp; (first | refine hK_ _ _ ?_ | refine hS_ _ ?_); clear hK_ hS_ K_; simp only [Act.put, List.getElem_toArray, List.getElem_cons_zero, List.getElem_cons_succ, List.setIfInBounds_toArray, List.set_cons_zero, List.set_cons_succ])
  (refine opsTo_oper rfl rfl (fun K_ hK_ hS_ => ?_); go_simp; (first | refine hK_ _ _ ?_ | refine hS_ _ ?_); clear hK_ hS_ K_; simp only [Act.put, List.getElem_toArray, List.getElem_cons_zero, List.getElem_cons_succ, List.setIfInBounds_toArray, List.set_cons_zero, List.set_cons_succ])
  (refine opsTo_oper rfl rfl (fun K_ hK_ hS_ => ?_); go_simp; (first | refine hK_ _ _ ?_ | refine hS_ _ ?_); clear hK_ hS_ K_; simp only [Act.put, List.getElem_toArray, List.getElem_cons_zero, List.getElem_cons_succ, List.setIfInBounds_toArray, List.set_cons_zero, List.set_cons_succ])
  refine opsTo_send (c := C (r + 1)) (cap := 1) (buf := #[]) (s := s2) (r := r2) (tm := false) (v := .int .i64 y) (z := .tuple #[]) rfl rfl (by simp [execOp, scase, Act.eval]) e2 (by simp) ?_
  simp only [Act.put, List.getElem_toArray, List.getElem_cons_zero, List.getElem_cons_succ, List.setIfInBounds_toArray, List.set_cons_zero, List.set_cons_succ]
  refine opsTo_end ?_
  go_end0
  refine ⟨rfl, (HO1.out.set hr (some y) (s2 + 1) r2).congr (fun j _ => ?_), HS1.out.set hr _ _ _ _ _ _⟩
  by_cases a1 : j = r + 1
  · rw [if_pos a1, if_neg (by omega), if_pos a1]
  · rw [if_neg a1, if_neg a1]
end Go.Proofs.Ytbfilmdociemmaa
