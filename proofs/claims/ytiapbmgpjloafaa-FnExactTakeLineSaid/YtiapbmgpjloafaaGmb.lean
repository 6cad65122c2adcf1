/- Sets of rungs as numbers: one of them asked for, one of them taken out. -/
import Derived.Test.YtiapbmgpjloafaaGm2
namespace Go.Proofs.Ytiapbmgpjloafaa
open Go Go.RowKit

theorem and_one (n : Nat) : bits .and .i64 (n : Int) 1 = ((n % 2 : Nat) : Int) := by
  have h1 : (BitVec.ofInt 64 1).toNat = 2 ^ 1 - 1 := by decide
  have key : (BitVec.ofInt 64 (n : Int) &&& BitVec.ofInt 64 1).toNat = ((n : Int) % ((2 ^ 64 : Nat) : Int)).toNat % 2 ^ 1 := by
    rw [BitVec.toNat_and, BitVec.toNat_ofInt, h1, Nat.and_two_pow_sub_one_eq_mod]
  show IntKind.i64.wrap ((BitVec.ofInt 64 (n : Int) &&& BitVec.ofInt 64 1).toNat : Nat) = _
  rw [key, IntKind.wrap_i64]
  omega
theorem and_yes {S k : Nat} (h : S.testBit k = true) : (bits BinOp.and IntKind.i64 ((S : Int) / 2 ^ k) 1 == 1) = true := by
  have h2 : (2 : Int) ^ k = ((2 ^ k : Nat) : Int) := by simp
  rw [h2, ← Int.natCast_ediv, and_one, bit_yes h]; rfl
theorem and_no {S k : Nat} (h : S.testBit k = false) : (bits BinOp.and IntKind.i64 ((S : Int) / 2 ^ k) 1 == 1) = false := by
  have h2 : (2 : Int) ^ k = ((2 ^ k : Nat) : Int) := by simp
  rw [h2, ← Int.natCast_ediv, and_one, bit_no h]; rfl
/-- a set of rungs without one of them -/
theorem andNot_all : ((List.range 12).all fun i => (List.range 4096).all fun S => !(S.testBit i) || (bits .andNot .i64 (S : Int) ((2 ^ i : Nat) : Int) == ((S - 2 ^ i : Nat) : Int))) = true := by decide +kernel
theorem andNot_bit {S i : Nat} (hS : S < 4096) (hi : i < 12) (h : S.testBit i = true) : bits .andNot .i64 (S : Int) ((2 ^ i : Nat) : Int) = ((S - 2 ^ i : Nat) : Int) := by
  have h1 := List.all_eq_true.1 (List.all_eq_true.1 andNot_all i (List.mem_range.2 hi)) S (List.mem_range.2 hS)
  rw [h] at h1
  simpa using h1

end Go.Proofs.Ytiapbmgpjloafaa
