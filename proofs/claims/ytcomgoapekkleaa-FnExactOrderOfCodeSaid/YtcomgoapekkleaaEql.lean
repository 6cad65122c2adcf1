/- Two arrays of eight numbers, compared. -/
import Derived.Test.YtcomgoapekkleaaBase
import Derived.Laws.StructEq
namespace Go.Proofs.Ytcomgoapekkleaa
open Go Go.RowKit

theorem part_int {P : Program} (w : World) (t : TypeId) (xs : Array Value) (j : Nat) (v : Value) (hu : P.underlying t = some (.int .i64)) (hv : xs[j]? = some v) : (part t xs j).run P w = .ok v w := by
  simp [part, isAgg, Sem.run_bind, run_underlying hu, hv]

theorem equal_ints {P : Program} (w : World) (d n : Nat) (t e : TypeId) (us vs : List Int) (ha : us.length = n) (hb : vs.length = n) (hu : P.underlying t = some (.array n e)) (he : P.underlying e = some (.int .i64)) (hs : (P.info? e).map (·.size) = some 1) :
    (Op.equalIn (d + 2) t (.agg (I us).toArray) (.agg (I vs).toArray)).run P w = .ok (decide (us = vs)) w := by
  have hsz : (sizeOf e).run P w = .ok 1 w := by
    cases hq : P.info? e with
    | none => simp [hq] at hs
    | some i => simp [hq] at hs; simp [sizeOf, typeInfo, hq, hs]
  have one : ∀ (j : Nat) (x y : Int), (Op.equalIn (d + 1) e (.int .i64 x) (.int .i64 y)).run P w = .ok (x == y) w := fun j x y => run_equalIn_int w d e .i64 .i64 x y he
  rw [Op.equalIn]
  simp only [Sem.run_bind, run_underlying hu, Result.andThen_ok, hsz]
  simp only [Std.Legacy.Range.forIn_eq_forIn_range', Std.Legacy.Range.size, Nat.sub_zero, Nat.add_one_sub_one, Nat.div_one, Nat.mul_one]
  have key : ∀ (m k : Nat), k + m = n → (∀ j, j < k → gi us j = gi vs j) →
      (forIn (m := Sem) (List.range' k m) ((none, ()) : Option Bool × Unit) (fun i _ => do
        let r ← Op.equalIn (d + 1) e (← part e (I us).toArray i) (← part e (I vs).toArray i)
        if (!r) = true then pure (ForInStep.done (some false, ())) else pure (ForInStep.yield (none, ())))).run P w
        = .ok (if us = vs then (none, ()) else (some false, ())) w := by
    intro m
    induction m with
    | zero =>
      intro k hk hall
      have : us = vs := gi_ext (by omega) (fun j hj => hall j (by omega))
      simp [this]
    | succ m ih =>
      intro k hk hall
      have e1 : (I us).toArray[k]? = some (.int .i64 (gi us k)) := by simpa using I_at (zs := us) (j := k) (by omega)
      have e2 : (I vs).toArray[k]? = some (.int .i64 (gi vs k)) := by simpa using I_at (zs := vs) (j := k) (by omega)
      rw [List.range'_succ, List.forIn_cons]
      simp only [Sem.run_bind, part_int w e _ k _ he e1, part_int w e _ k _ he e2, Result.andThen_ok, one k]
      by_cases hj : gi us k = gi vs k
      · simp only [hj, beq_self_eq_true, Bool.not_true, Bool.false_eq_true, if_false, Sem.run_pure, Result.andThen_ok]
        exact ih (k + 1) (by omega) (fun j h => by
          rcases Nat.lt_or_ge j k with h1 | h1
          · exact hall j h1
          · obtain rfl : j = k := by omega
            exact hj)
      · have hne : us ≠ vs := fun e => hj (by rw [e])
        simp [hj, hne]
  have k0 := key n 0 (by omega) (fun j hj => absurd hj (by omega))
  refine (congrArg (Result.andThen · _) k0).trans ?_
  by_cases h : us = vs <;> simp [h]

theorem arr8 {ys : List Int} (h : ys.length = 8) : (#[.int .i64 (gi ys 0), .int .i64 (gi ys 1), .int .i64 (gi ys 2), .int .i64 (gi ys 3), .int .i64 (gi ys 4), .int .i64 (gi ys 5), .int .i64 (gi ys 6), .int .i64 (gi ys 7)] : Array Value) = (I ys).toArray := by
  match ys, h with
  | [a, b, c, d, e, f, g, h], _ => rfl
theorem cells8 {w : World} {b : Nat} {ys : List Int} {t : TypeId} {fr : Nat × Nat} (hl : ys.length = 8) (h : w.heap[b]? = some (.cells (I ys).toArray t fr)) : w.cell? ⟨b, 0, none⟩ = some (.int .i64 (gi ys 0)) ∧ w.cell? ⟨b, 1, none⟩ = some (.int .i64 (gi ys 1)) ∧ w.cell? ⟨b, 2, none⟩ = some (.int .i64 (gi ys 2)) ∧ w.cell? ⟨b, 3, none⟩ = some (.int .i64 (gi ys 3)) ∧ w.cell? ⟨b, 4, none⟩ = some (.int .i64 (gi ys 4)) ∧ w.cell? ⟨b, 5, none⟩ = some (.int .i64 (gi ys 5)) ∧ w.cell? ⟨b, 6, none⟩ = some (.int .i64 (gi ys 6)) ∧ w.cell? ⟨b, 7, none⟩ = some (.int .i64 (gi ys 7)) := by
  have key : ∀ j, j < 8 → w.cell? ⟨b, j, none⟩ = some (.int .i64 (gi ys j)) := fun j hj => by
    simp only [World.cell?, h]
    simpa using I_at (zs := ys) (j := j) (by omega)
  exact ⟨key 0 (by omega), key 1 (by omega), key 2 (by omega), key 3 (by omega), key 4 (by omega), key 5 (by omega), key 6 (by omega), key 7 (by omega)⟩
theorem infoIntCell : (Try.prog.info? 3).map (·.size) = some 1 := by kernel_rfl
theorem sizeInt (w : World) : (sizeOf 3).run Try.prog w = .ok 1 w := by
  have hs := infoIntCell
  cases hq : Try.prog.info? 3 with
  | none => simp [hq] at hs
  | some i => simp [hq] at hs; simp [sizeOf, typeInfo, hq, hs]
/-- element k of an array of eight numbers -/
theorem indexSeats (w : World) (us : List Int) (k : Nat) (hl : us.length = 8) (hk : k < 8) :
    (Instr.index 55 (.agg (I us).toArray) (.int .i64 (k : Int))).run Try.prog w = .ok (.int .i64 (gi us k)) w := by
  have e : (I us).toArray[k]? = some (.int .i64 (gi us k)) := by simpa using I_at (zs := us) (j := k) (by omega)
  have h1 : (0 : Int) ≤ (k : Int) ∧ (k : Int) < ((8 : Nat) : Int) := by omega
  simp only [Instr.index, asIntOf, Sem.run_bind, Sem.run_pure, Result.andThen_ok, run_underlying Try.underlying55, sizeInt, if_pos h1, Int.toNat_natCast, Nat.mul_one, part_int w _ _ k _ Try.underlying3 e]
theorem guardSeats : Try.prog.eqGuardType Try.prog.depth 55 = false := by kernel_rfl
theorem eqlSeats (w : World) (us vs : List Int) (ha : us.length = 8) (hb : vs.length = 8) :
    (binOp .eql 55 (.agg (I us).toArray) (.agg (I vs).toArray)).run Try.prog w = .ok (.bool (decide (us = vs))) w := by
  rw [run_eql_struct, equal_ints w 9998 8 55 3 us vs ha hb Try.underlying55 Try.underlying3 infoIntCell]
  rfl
theorem neqSeats (w : World) (us vs : List Int) (ha : us.length = 8) (hb : vs.length = 8) :
    (binOp .neq 55 (.agg (I us).toArray) (.agg (I vs).toArray)).run Try.prog w = .ok (.bool (!decide (us = vs))) w := by
  rw [run_neq_struct, equal_ints w 9998 8 55 3 us vs ha hb Try.underlying55 Try.underlying3 infoIntCell]
  rfl
end Go.Proofs.Ytcomgoapekkleaa
