/- An argument that is a desk: a ladder and a bool. -/
import Derived.Test.YtalbmgapahbanaaMgN
namespace Go.Proofs.Ytalbmgapahbanaa
open Go Go.ChangeShapes Go.WideShapes Go.ChangeAt Go.RowKit
section
variable {H : Type} {enc : TypeId × Value → H}
set_option maxRecDepth 100000 in
theorem openDesk {W : World} {r : Reach} {b0 : Nat} {v : Value} {d : DataW H} {p : List MemPlace} (hv : Value.okWide Try.prog W r b0 33 v)
    (h : DataW.Trod enc Try.prog W 0 (fun _ => true) true 33 v d p) :
    ∃ (X : Int) (A : Option Addr) (n c : Nat) (t : Bool) (zs : List Int), v = .agg #[.int .i64 X, .slice A n c, .bool t] ∧ RI W A n zs ∧ n ≤ 9223372036854775807 := by
  obtain ⟨cs, rfl, hsz⟩ := okWide_struct Try.underlying33 hv
  obtain ⟨v0, v1, v2, rfl⟩ := Joins.array3 (hsz.trans (show Try.prog.cellsOf 33 = 3 by kernel_rfl))
  obtain ⟨fuel, hf⟩ := h
  obtain ⟨y0, y1, m, _, _, h0, h1⟩ := trod_struct2 Try.underlying33 hf
  have hL : Try.prog.cellsOf 31 = 2 := by kernel_rfl
  have hB : Try.prog.cellsOf 4 = 1 := by kernel_rfl
  have hI : Try.prog.cellsOf 3 = 1 := by kernel_rfl
  have hS : Try.prog.cellsOf 22 = 1 := by kernel_rfl
  simp only [Value.cells, hL, hB, List.drop, List.take, List.drop_succ_cons, List.take_succ_cons, List.drop_zero, List.take_zero] at h0 h1
  obtain ⟨t, e2, _⟩ := DataW.trod_bool Try.underlying4 h1
  obtain rfl : v2 = .bool t := by simpa using e2
  obtain ⟨z0, z1, m2, _, _, g0, g1⟩ := trod_struct2 Try.underlying31 h0
  simp only [hI, hS, List.drop, List.take, List.drop_succ_cons, List.take_succ_cons, List.drop_zero, List.take_zero] at g0 g1
  obtain ⟨X, e0, _, _⟩ := DataW.trod_int Try.underlying3 g0
  obtain rfl : v0 = .int .i64 X := by simpa using e0
  rcases open_ints Try.underlying22 Try.underlying3 (by kernel_rfl) g1 with ⟨hcs, _⟩ | ⟨a, len, cap, zs, hcs, _, hl, hm, hz, _, hcell, _⟩
  · obtain rfl : v1 = .slice none 0 0 := by simpa using hcs
    exact ⟨X, none, 0, 0, t, [], rfl, ⟨rfl, fun h => absurd h (by omega)⟩, by omega⟩
  · obtain rfl : v1 = .slice (some a) len cap := by simpa using hcs
    simp only [if_true] at hz
    unfold maxLen at hm
    refine ⟨X, some a, len, cap, t, zs.take len, rfl, ⟨by simp; omega, fun hn => ?_⟩, by omega⟩
    obtain ⟨b, off, rfl, hc⟩ := ints_at hcell (by omega)
    refine ⟨b, off, rfl, World.block_lt_of_cell? W _ (hc 0 (by omega)), fun j hj => ?_⟩
    rw [hc j (by omega)]
    simp [gi, List.getD, hj]
end
end Go.Proofs.Ytalbmgapahbanaa
