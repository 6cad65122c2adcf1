/- What the library's own variables hold where a law of this seat begins. -/
import Derived.Test.YtgeeifjbfceogaaGreatDoorMgN
import Derived.Test.YtgeeifjbfceogaaGreatDoorMgI
import Derived.LaidMore
import Derived.Lay
import Derived.MakeChecks
import Derived.SevenTiedAt
import Derived.Stop.LaidErr
import Derived.Shelf.Vars
import Derived.ChangeMaps5
import Derived.Deep.DeepHandedRow
namespace Go.Proofs.YtgeeifjbfceogaaGreatDoor
open Go Go.ChangeShapes Go.WideShapes Go.ChangeAt Go.RowKit

def laidPL : List (String × DataW Unit) := Rows.fnExactCountLeastRow.laid
theorem metPL (os : Os) (args : Array Value) : laidMetH Tryz.prog laidPL ((World.laidAll Tryz.prog os laidPL).forCall (fun _ _ => 0) ⟨#[], args, []⟩).memory := by
  rw [MakeChecks.laidMetH_plain _ _ _ (by kernel_rfl)]
  exact laidMet_laidAll _ (by kernel_rfl) (by kernel_rfl)

theorem starPL : "*" ++ "errors.errorString" = "*errors.errorString" := by decide
theorem rowPL (u : TypeId) (h : Tryz.prog.typeName? 3 u = some "*errors.errorString") : u = 174 :=
  typeName_ptr_named (nm := "errors.errorString") (by rw [starPL]; kernel_rfl) (by kernel_rfl) (by decide) u (by rw [starPL]; exact h)

theorem globPL {W : World} (hL : laidMetH Tryz.prog laidPL W) (hsh : W.ShapedOpen Tryz.prog) : Glob W := by
  rw [MakeChecks.laidMetH_plain Tryz.prog laidPL W (by kernel_rfl)] at hL
  obtain ⟨m, hm⟩ := Go.Proofs.cell_of_shapedOpen_int (P := Tryz.prog) (w := W) (g := 3) (t := 3) (zero := #[.int .i64 0]) (k := .i64) hsh (of_decide_eq_true (by kernel_rfl)) (by kernel_rfl) rfl (by kernel_rfl) (by kernel_rfl) Tryz.underlying3
  have h4 := hL.tail.tail.tail.tail
  have h5 := h4.tail
  obtain ⟨a2, _, v2, _⟩ := laid_sentinel (g := 2) (ti := 111) (tp := 174) (te := 176) (ts := 9) h4 (by kernel_rfl) (by kernel_rfl) Tryz.underlying111 rowPL Tryz.underlying174 Tryz.underlying176 rfl rfl Tryz.underlying9 (by kernel_rfl) (by kernel_rfl)
  obtain ⟨a1, _, v1, _⟩ := laid_sentinel (g := 1) (ti := 111) (tp := 174) (te := 176) (ts := 9) h5 (by kernel_rfl) (by kernel_rfl) Tryz.underlying111 rowPL Tryz.underlying174 Tryz.underlying176 rfl rfl Tryz.underlying9 (by kernel_rfl) (by kernel_rfl)
  have c1 : W.cell? ⟨1, 0, none⟩ = some (.iface 174 (.pointer (some a1))) := by
    simpa using World.var?_cell (P := Tryz.prog) (g := 1) (by kernel_rfl) v1 0
  have c2 : W.cell? ⟨2, 0, none⟩ = some (.iface 174 (.pointer (some a2))) := by
    simpa using World.var?_cell (P := Tryz.prog) (g := 2) (by kernel_rfl) v2 0
  exact ⟨⟨m, hm⟩, ⟨_, _, c1⟩, ⟨_, _, c2⟩, World.block_lt_of_cell? W _ c2, World.block_lt_of_cell? W _ hm⟩
end Go.Proofs.YtgeeifjbfceogaaGreatDoor
