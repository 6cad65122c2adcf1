/- The contracts of OrderTimes' model. -/
import Derived.Test.YtijddnllacphfaaMathT
import Derived.Test.YtijddnllacphfaaCy4
namespace Go.Proofs.Ytijddnllacphfaa
open Go Go.RowKit

theorem gcd_next (x y : Nat) : Nat.gcd y (x % y) = Nat.gcd x y := by
  rw [Nat.gcd_comm x y, Nat.gcd_rec y x, Nat.gcd_comm]

set_option maxRecDepth 100000 in
set_option maxHeartbeats 1000000 in
theorem laCommon_any (a b : Nat) (w : World) (ha : a ≤ 1000000) (hb : b ≤ 1000000) : Calls Try.prog 66 #[.int .i64 (a : Int), .int .i64 (b : Int)] w (RetI ((Nat.gcd a b : Nat) : Int) w) := by
  go_enter Try.func66, Try.ntmps66
  go_wp2
  go_loopw [0, 1] (fun s t wr => ∃ x y : Nat, x ≤ 1000000 ∧ y ≤ 1000000 ∧ s = .int .i64 (x : Int) ∧ t = .int .i64 (y : Int) ∧ Nat.gcd x y = Nat.gcd a b ∧ Below w.heap.size w wr) (fun _ t _ => (intOf t).toNat)
  case atStart => exact ⟨a, b, ha, hb, rfl, rfl, rfl, Below.refl _ _⟩
  case round =>
    obtain ⟨x, y, hx, hy, rfl, rfl, hg, hbl⟩ := hrel
    have HG := Lib.hid hg
    have HB := Lib.hid hbl
    clear hg hbl
    rcases Nat.eq_zero_or_pos y with h0 | h0
    · have h1 : ¬ ((0 : Int) < (y : Int)) := by omega
      have H0 := Lib.hid h0
      clear h0
      go_wp2
      go_ret
      exact ⟨by rw [← HG.out, H0.out, Nat.gcd_zero_right]; rfl, HB.out⟩
    · have h1 : (0 : Int) < (y : Int) := by omega
      have h2 : ¬ ((y : Int) = 0) := by omega
      have hm : Int.tmod (x : Int) (y : Int) = ((x % y : Nat) : Int) := by rw [Int.tmod_eq_emod_of_nonneg (by omega)]; simp
      have hlt := Nat.mod_lt x h0
      have HY := Lib.hid hlt
      have hw : IntKind.i64.wrap ((x % y : Nat) : Int) = ((x % y : Nat) : Int) := IntWalk.i64_in _ (by omega)
      clear hlt
      go_wp2
      go_region
      all_goals
        go_wp2
        go_roundw
        case rel => exact ⟨y, x % y, hy, by have := HY.out; omega, rfl, by first | rfl | (congr 1), by rw [gcd_next]; exact HG.out, (by repeat (first | exact Below.refl _ _ | exact HB.out | refine Below.setCell ?_ (by simp <;> omega) _ | refine Below.alloc ?_ (by simp <;> omega) _ | refine below_drewN ?_ _))⟩
        case measure => have := HY.out; simp [intOf]; omega

def timesN (zs : List Int) : Int := if ord zs = true then (per zs : Int) else 0
theorem timesN_yes {zs : List Int} (h : ord zs = true) : timesN zs = (per zs : Int) := by unfold timesN; rw [if_pos h]
theorem timesN_no {zs : List Int} (h : ord zs = false) : timesN zs = 0 := by unfold timesN; rw [h]; rfl

end Go.Proofs.Ytijddnllacphfaa
