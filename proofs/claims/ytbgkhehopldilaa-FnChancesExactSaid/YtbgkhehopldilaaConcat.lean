/- slices.Grow at a nil slice, and slices.Concat: the rungs of all parts, one after the other, in new memory. -/
import Derived.Test.YtbgkhehopldilaaMgB
import Derived.Test.YtbgkhehopldilaaMgC
namespace Go.Proofs.Ytbgkhehopldilaa
open Go Go.RowKit

theorem run_append_zeros (n : Nat) (w : World) (ty : TypeId) (hpos : 0 < n) (hn : n ≤ 1000000000) :
    ∃ G w', (Builtin.append_ #[41, 3] ty #[.slice none 0 0, .int .i64 (n : Int)]).run Try.prog w = .ok (.slice (some ⟨w.heap.size, 0, none⟩) n G) w' ∧ n ≤ G ∧ G ≤ maxLen ∧
      OI w' w.heap.size (some ⟨w.heap.size, 0, none⟩) 0 G [] ∧ Below w.heap.size w w' := by
  obtain ⟨i0, hi0, hz0, hz1, hz2⟩ := info_parts infoInt
  have h := Lib.run_append_grow_zeros (P := Try.prog) w 41 3 ty 3 i0 (.int .i64 0) .i64 .i64 Try.underlying41 Try.underlying3 hi0 hz0 none 0 0 [] (run_firstCells_none w.drew i0.size 0 0 0) n hpos (by omega) (by omega) (by omega) (by rw [hz2]; omega)
    (growslice_fits (by omega) (by rw [hz2]; omega))
  have hG := grownCap_ge w (0 + n) 0 3
  have hG2 := grownCap_le_maxLen w (0 + n) 0 3 (by unfold maxLen; omega)
  rw [Nat.zero_add] at h hG hG2
  refine ⟨_, _, h, hG, hG2, ⟨rfl, rfl, .inr ⟨w.heap.size, _, _, rfl, Nat.le_refl _, heap_alloc_new w.drew _, Nat.zero_le _, hG2, ?_, rfl⟩⟩, (Below.refl _ _).drew.alloc (Nat.le_refl _) _⟩
  simp [size_zeroCells, Value.cells]
  omega

theorem wpList_append_zeros {ops : Array Oper} {rest : List Oper} {o : Oper} {a : Act} {Q : Exit → Act → World → Prop} (w : World) (hgd : o.guard = none) (s x : Operand)
    (ho : o.op = .call { callee := .builtin .append, args := #[s, x], argTypes := #[41, 3] }) (n : Nat) (hs : a.eval s = .slice none 0 0) (hx : a.eval x = .int .i64 (n : Int)) (hpos : 0 < n) (hn : n ≤ 1000000000)
    (h : ∀ G w', n ≤ G → G ≤ maxLen → OI w' w.heap.size (some ⟨w.heap.size, 0, none⟩) 0 G [] → Below w.heap.size w w' → wpList Try.prog ops Q rest (a.put o.dst (.slice (some ⟨w.heap.size, 0, none⟩) n G)) w') : wpList Try.prog ops Q (o :: rest) a w := by
  refine wpList_plain hgd fun K hK => ?_
  obtain ⟨G, w', hrun, h1, h2, h3, h4⟩ := run_append_zeros n w o.type hpos hn
  unfold Oper.wp
  simp only [execOp, ho, resolve, invoke, builtin, Sem.run_bind, Sem.run_pure, Result.andThen_ok, List.map_toArray, List.map_cons, List.map_nil, hs, hx, hrun]
  exact hK _ _ (h G w' h1 h2 h3 h4)

/-- the first j parts, one after the other -/
def cat (PZ : Nat → List Int) : Nat → List Int
  | 0 => []
  | j + 1 => cat PZ j ++ PZ j
theorem cat_le (PZ : Nat → List Int) {j k : Nat} (h : j ≤ k) : (cat PZ j).length ≤ (cat PZ k).length := by
  induction k with
  | zero => obtain rfl : j = 0 := by omega
            exact Nat.le_refl _
  | succ k ih =>
    by_cases e : j = k + 1
    · subst e; exact Nat.le_refl _
    · have := ih (by omega)
      simp only [cat, List.length_append]
      omega
/-- a slice of k slices: part j reads as PZ j -/
def Parts (w : World) (PP : Option Addr) (k : Nat) (PA : Nat → Option Addr) (PN PC : Nat → Nat) (PZ : Nat → List Int) : Prop :=
  (0 < k → ∃ b off, PP = some ⟨b, off, none⟩ ∧ b < w.heap.size ∧ ∀ j, j < k → w.cell? ⟨b, off + j, none⟩ = some (.slice (PA j) (PN j) (PC j))) ∧ ∀ j, j < k → RI w (PA j) (PN j) (PZ j)

end Go.Proofs.Ytbgkhehopldilaa
