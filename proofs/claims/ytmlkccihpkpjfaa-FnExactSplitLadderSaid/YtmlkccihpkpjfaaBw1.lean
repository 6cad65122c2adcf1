/- The contracts of BelowLadder, of the program and of its model. -/
import Derived.Test.YtmlkccihpkpjfaaLB
import Derived.Test.YtmlkccihpkpjfaaMgE
import Derived.Deep.RegionHeld3
import Derived.Deep.Cut
namespace Go.Proofs.Ytmlkccihpkpjfaa
open Go Go.RowKit

def bwB (W : Int) (zs : List Int) (V : Int) (ys : List Int) : Bool := lad W zs && (lad V ys && (decide (W = V) && lad W (zs ++ ys)))
theorem bwB_1 {W V : Int} {zs ys : List Int} (h : lad W zs = false) : bwB W zs V ys = false := by unfold bwB; rw [h]; rfl
theorem bwB_2 {W V : Int} {zs ys : List Int} (h : lad V ys = false) : bwB W zs V ys = false := by unfold bwB; rw [h]; simp
theorem bwB_3 {W V : Int} {zs ys : List Int} (h : ¬ W = V) : bwB W zs V ys = false := by unfold bwB; rw [decide_eq_false h]; simp
theorem bwB_4 {W : Int} {zs ys : List Int} (h : lad W zs = true) (h2 : lad W ys = true) : bwB W zs W ys = lad W (zs ++ ys) := by unfold bwB; rw [h, h2]; simp
theorem bwN_len (W V : Int) (zs ys : List Int) : (ifL (bwB W zs V ys) (zs ++ ys)).length ≤ 1000 := by
  rcases h : bwB W zs V ys with _ | _
  · rw [ifL_no]; simp
  · rw [ifL_yes]
    unfold bwB at h
    simp only [Bool.and_eq_true] at h
    have := (lad_iff.1 h.2.2.2).2.1
    omega
def two' {α : Type} (a b : α) : Nat → α
  | 0 => a
  | _ => b
theorem Parts.pair {w : World} {A1 A2 : Option Addr} {n1 c1 n2 c2 : Nat} {z1 z2 : List Int} (h1 : RI w A1 n1 z1) (h2 : RI w A2 n2 z2) :
    Parts (w.alloc (.cells #[.slice A1 n1 c1, .slice A2 n2 c2] 22)) (some ⟨w.heap.size, 0, none⟩) 2 (two' A1 A2) (two' n1 n2) (two' c1 c2) (two' z1 z2) := by
  refine ⟨fun _ => ⟨w.heap.size, 0, rfl, by simp, fun j hj => ?_⟩, fun j hj => ?_⟩
  · match j, hj with
    | 0, _ => simp [two']
    | 1, _ => simp [two']
  · match j, hj with
    | 0, _ => exact h1.alloc _
    | 1, _ => exact h2.alloc _
theorem cat_pair (z1 z2 : List Int) : cat (two' z1 z2) 2 = z1 ++ z2 := by simp [cat, two']

end Go.Proofs.Ytmlkccihpkpjfaa
