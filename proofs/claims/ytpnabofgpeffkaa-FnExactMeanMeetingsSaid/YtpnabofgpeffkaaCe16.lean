/- How often two meet, added up over all ladders; the program's meetings at one more rung. -/
import Derived.Test.YtpnabofgpeffkaaCe9
namespace Go.Proofs.Ytpnabofgpeffkaa
open Go Go.RowKit Go.Maps

/-- the ends of the first two at each other's wires -/
def exE (e : List Int) : List Int := (e.set 0 (gi e 1)).set 1 (gi e 0)
theorem exE_length (e : List Int) : (exE e).length = e.length := by simp [exE]
theorem gi_exE {e : List Int} (h : e.length = 6) {j : Nat} (_hj : j < 6) : gi (exE e) j = if j = 0 then gi e 1 else if j = 1 then gi e 0 else gi e j := by
  unfold exE
  rw [gi_set _ _ _ _ (by rw [List.length_set]; omega), gi_set _ _ _ _ (by omega)]
  by_cases h0 : j = 0
  · subst h0; simp
  · by_cases h1 : j = 1
    · subst h1; simp
    · simp [h0, h1]
theorem exE_ends (x y : Int) : exE (endsL [x, y]) = endsL [y, x] := rfl
/-- at how many of the first m places the first two meet -/
def mtK (m : Nat) (e : List Int) : Nat := ((List.range m).map fun (r : Nat) => if ovE e (r : Int) = exE e then 1 else 0).sum
theorem mtK_succ (m : Nat) (e : List Int) : mtK (m + 1) e = mtK m e + (if ovE e (m : Int) = exE e then 1 else 0) := by
  unfold mtK; rw [List.range_succ, List.map_append, List.sum_append]; simp
theorem mtK_le (m : Nat) (e : List Int) : mtK m e ≤ m := by
  unfold mtK
  have h := ssum_le (fun (r : Nat) => if ovE e (r : Int) = exE e then 1 else 0) (fun _ => 1) (List.range m) (fun r _ => by split <;> omega)
  rw [ssum_const, List.length_range] at h
  omega
/-- all meetings in ladders of j rungs -/
def mtS (m : Nat) (e : List Int) : Nat → Nat
  | 0 => 0
  | j + 1 => mtS m e j * m + ups ovE m j (mtK m) e
theorem mtS_le (m : Nat) (e : List Int) : ∀ (j : Nat), mtS m e j ≤ j * m ^ j
  | 0 => Nat.le_refl _
  | j + 1 => by
    have h1 := mtS_le m e j
    have h2 := ups_le_const (ov := ovE) (m := m) j m (mtK_le m) e
    have h3 : mtS m e j * m ≤ j * m ^ j * m := Nat.mul_le_mul_right _ h1
    have h4 : j * m ^ j * m = j * m ^ (j + 1) := by rw [Nat.mul_assoc, ← Nat.pow_succ]
    have h5 : m ^ j * m = m ^ (j + 1) := by rw [← Nat.pow_succ]
    show mtS m e j * m + ups ovE m j (mtK m) e ≤ (j + 1) * m ^ (j + 1)
    rw [Nat.add_mul, Nat.one_mul]
    omega
theorem mtS_small {m : Nat} {e : List Int} {j : Nat} (hm : m ≤ 5) (hj : j ≤ 20) : mtS m e j ≤ 1907348632812500 := by
  have h1 := mtS_le m e j
  have h2 := pow5 hm hj
  have h3 : j * m ^ j ≤ 20 * 95367431640625 := Nat.mul_le_mul hj h2
  omega

theorem guardEnds : Try.prog.eqGuardType Try.prog.depth 47 = false := by kernel_rfl
theorem eqlEnds (w : World) (us vs : List Int) (ha : us.length = 6) (hb : vs.length = 6) :
    (binOp .eql 47 (.agg #[.int .i64 (gi us 0), .int .i64 (gi us 1), .int .i64 (gi us 2), .int .i64 (gi us 3), .int .i64 (gi us 4), .int .i64 (gi us 5)]) (.agg #[.int .i64 (gi vs 0), .int .i64 (gi vs 1), .int .i64 (gi vs 2), .int .i64 (gi vs 3), .int .i64 (gi vs 4), .int .i64 (gi vs 5)])).run Try.prog w = .ok (.bool (decide (us = vs))) w := by
  rw [arr6 ha, arr6 hb, run_eql_struct, equal_ints w 9998 6 47 3 us vs ha hb Try.underlying47 Try.underlying3 infoIntCell]
  rfl

theorem ends_cells (w : World) (b : Nat) (e : List Int) (t : TypeId) (hb : w.heap.size = b) : ∀ j, j < 6 → (w.alloc (.cells #[.int .i64 (gi e 0), .int .i64 (gi e 1), .int .i64 (gi e 2), .int .i64 (gi e 3), .int .i64 (gi e 4), .int .i64 (gi e 5)] t)).cell? ⟨b, j, none⟩ = some (.int .i64 (gi e j)) := by
  subst hb
  exact fun j hj => (row_ends w e t).cell hj

set_option maxRecDepth 100000 in
set_option maxHeartbeats 1000000 in
theorem exchanged_any (e : List Int) (w : World) (he : e.length = 6) : Calls Try.prog 49 #[.agg #[.int .i64 (gi e 0), .int .i64 (gi e 1), .int .i64 (gi e 2), .int .i64 (gi e 3), .int .i64 (gi e 4), .int .i64 (gi e 5)]] w (EndsPost (exE e) w) := by
  have g0 : gi (exE e) 0 = gi e 1 := by rw [gi_exE he (by omega)]; rfl
  have g1 : gi (exE e) 1 = gi e 0 := by rw [gi_exE he (by omega)]; rfl
  have g2 : gi (exE e) 2 = gi e 2 := by rw [gi_exE he (by omega)]; rfl
  have g3 : gi (exE e) 3 = gi e 3 := by rw [gi_exE he (by omega)]; rfl
  have g4 : gi (exE e) 4 = gi e 4 := by rw [gi_exE he (by omega)]; rfl
  have g5 : gi (exE e) 5 = gi e 5 := by rw [gi_exE he (by omega)]; rfl
  unfold EndsPost
  rw [g0, g1, g2, g3, g4, g5]
  clear g0 g1 g2 g3 g4 g5
  go_enter Try.func49, Try.ntmps49
  go_wp2
  exact bodyPost_ret (v := .agg #[.int .i64 (gi e 1), .int .i64 (gi e 0), .int .i64 (gi e 2), .int .i64 (gi e 3), .int .i64 (gi e 4), .int .i64 (gi e 5)]) (by simp [results, Try.results49, go_sem]) rfl ⟨rfl, (by repeat (first | exact Below.refl _ _ | exact HB.out | refine Below.setCell ?_ (by simp <;> omega) _ | refine Below.alloc ?_ (by simp <;> omega) _ | refine below_drewN ?_ _))⟩
end Go.Proofs.Ytpnabofgpeffkaa
