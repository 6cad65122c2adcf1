/- Bits of numbers, as the walk meets them. -/
import Derived.Test.YthalcjgpjagcoaaMgA
namespace Go.Proofs.Ythalcjgpjagcoaa
open Go Go.RowKit

theorem qshr_bit (S k : Nat) : ((S : Int) / 2 ^ k).tmod 2 = ((S / 2 ^ k % 2 : Nat) : Int) := by
  have h : (2 : Int) ^ k = ((2 ^ k : Nat) : Int) := by simp
  rw [h, ← Int.natCast_ediv]
  exact (Int.ofNat_tmod _ _).symm
theorem qbit_yes {S k : Nat} (h : S.testBit k = true) : S / 2 ^ k % 2 = 1 := by rw [Nat.testBit_eq_decide_div_mod_eq] at h; exact of_decide_eq_true h
theorem qbit_no {S k : Nat} (h : S.testBit k = false) : S / 2 ^ k % 2 = 0 := by
  rw [Nat.testBit_eq_decide_div_mod_eq] at h
  have := of_decide_eq_false h
  omega
theorem qshr_yes {S k : Nat} (h : S.testBit k = true) : (((S : Int) / 2 ^ k).tmod 2 == 1) = true := by rw [qshr_bit, qbit_yes h]; rfl
theorem qshr_no {S k : Nat} (h : S.testBit k = false) : (((S : Int) / 2 ^ k).tmod 2 == 1) = false := by rw [qshr_bit, qbit_no h]; rfl
theorem qand_one (n : Nat) : bits .and .i64 (n : Int) 1 = ((n % 2 : Nat) : Int) := by
  have h1 : (BitVec.ofInt 64 1).toNat = 2 ^ 1 - 1 := by decide
  have key : (BitVec.ofInt 64 (n : Int) &&& BitVec.ofInt 64 1).toNat = ((n : Int) % ((2 ^ 64 : Nat) : Int)).toNat % 2 ^ 1 := by
    rw [BitVec.toNat_and, BitVec.toNat_ofInt, h1, Nat.and_two_pow_sub_one_eq_mod]
  show IntKind.i64.wrap ((BitVec.ofInt 64 (n : Int) &&& BitVec.ofInt 64 1).toNat : Nat) = _
  rw [key, IntKind.wrap_i64]
  omega
theorem qand_yes {S k : Nat} (h : S.testBit k = true) : (bits BinOp.and IntKind.i64 ((S : Int) / 2 ^ k) 1 == 1) = true := by
  have h2 : (2 : Int) ^ k = ((2 ^ k : Nat) : Int) := by simp
  rw [h2, ← Int.natCast_ediv, qand_one, qbit_yes h]; rfl
theorem qand_no {S k : Nat} (h : S.testBit k = false) : (bits BinOp.and IntKind.i64 ((S : Int) / 2 ^ k) 1 == 1) = false := by
  have h2 : (2 : Int) ^ k = ((2 ^ k : Nat) : Int) := by simp
  rw [h2, ← Int.natCast_ediv, qand_one, qbit_no h]; rfl
/-- a set of rungs without one of them -/
theorem qpow12 {n : Nat} (h : n ≤ 12) : 2 ^ n ≤ 4096 := by
  have := Nat.pow_le_pow_right (show 0 < 2 by decide) h
  simpa using this
theorem qpow_wrap {n P : Nat} (h : n ≤ 12) (hP : P = 2 ^ n) : wrap64 ((2 : Int) ^ n) = (P : Int) := by
  have h1 := qpow12 h
  have e : ((2 : Int) ^ n) = (P : Int) := by rw [hP]; simp
  rw [e]; exact IntWalk.wrap64_in _ (by omega)

end Go.Proofs.Ythalcjgpjagcoaa
