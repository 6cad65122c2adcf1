/- The draw of an order, at times of another list. -/
import Derived.Test.YtgeeifjbfceogaaGreatDoorCu2
namespace Go.Proofs.YtgeeifjbfceogaaGreatDoor
open Go Go.RowKit

theorem rowFour (w : World) (x0 x1 x2 x3 : Int) : RI (w.alloc (.cells #[.int .i64 x0, .int .i64 x1, .int .i64 x2, .int .i64 x3] 3)) (some ⟨w.heap.size, 0, none⟩) 4 [x0, x1, x2, x3] :=
  ⟨rfl, fun _ => ⟨w.heap.size, 0, rfl, by simp, fun j hj => by
    match j, hj with
    | 0, _ => simp [gi]
    | 1, _ => simp [gi]
    | 2, _ => simp [gi]
    | 3, _ => simp [gi]⟩⟩

theorem Cur.new (w : World) (A : Option Addr) (n c : Nat) (bs : List Int) (t : TypeId) (h : BI w A n bs) : Cur (w.alloc (.cells #[.slice A n c, .int .i64 0, .int .u64 0] t)) w.heap.size A n c bs 0 := by
  refine ⟨⟨0, 0, by omega, by omega, by simp, by simp, by simp⟩, by simp [go_sem], by simp [go_sem], by simp, h.below (allocBel _ _) (Nat.le_refl _), fun hn e => ?_⟩
  obtain ⟨g, off, rfl, hg, _⟩ := h.2.2 hn
  simp [blk] at e
  omega

/-- a list of at most so many numbers in new memory -/
def FreshD1 (w : World) (m : Nat) (e : Ending) (w' : World) : Prop :=
  ∃ (zs : List Int) (A : Option Addr) (n c : Nat), e = .returned (.slice A n c) ∧ n ≤ m ∧ OI w' w.heap.size A n c zs ∧ Below w.heap.size w w'

theorem belOfCur {w w1 : World} {o : Obj} (hg : (w.alloc o).grownBy w1 (some w.heap.size)) : Below w.heap.size w w1 :=
  (allocBel w o).trans ⟨hg.os, hg.tape, hg.output, hg.size, fun i hi => hg.block i (by rw [World.size_alloc]; omega) (fun e => by injection e with e; omega)⟩

end Go.Proofs.YtgeeifjbfceogaaGreatDoor
