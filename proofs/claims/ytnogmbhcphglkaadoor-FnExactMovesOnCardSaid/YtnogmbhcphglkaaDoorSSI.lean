/- Small words on new blocks. -/
import Derived.Test.YtnogmbhcphglkaaDoorMv1
namespace Go.Proofs.YtnogmbhcphglkaaDoor
open Go Go.RowKit
theorem RI.lit2 (w : World) (x y : Int) : RI (w.alloc (.cells #[.int .i64 x, .int .i64 y] 3)) (some ⟨w.heap.size, 0, none⟩) 2 [x, y] :=
  OI.ri (B := 0) (c := 2) ⟨rfl, World.ownsRow_lit _ _ _ (Nat.zero_le _) (by decide) rfl⟩
theorem RI.lit3 (w : World) (x y z : Int) : RI (w.alloc (.cells #[.int .i64 x, .int .i64 y, .int .i64 z] 3)) (some ⟨w.heap.size, 0, none⟩) 3 [x, y, z] :=
  OI.ri (B := 0) (c := 3) ⟨rfl, World.ownsRow_lit _ _ _ (Nat.zero_le _) (by decide) rfl⟩
theorem cellNewBelow {w : World} {o : Obj} {b j : Nat} {v : Value} (h : w.cell? ⟨b, j, none⟩ = some v) (hb : b < w.heap.size) : (w.alloc o).cell? ⟨b, j, none⟩ = some v :=
  (((Below.refl w.heap.size w).alloc (Nat.le_refl _) o).cell (p := ⟨b, j, none⟩) hb).trans h
theorem belowDrewN {B : Nat} {a w : World} (h : Below B a w) (n : Nat) : Below B a (w.drewN n) := below_drewN h n
end Go.Proofs.YtnogmbhcphglkaaDoor
