/- All lists of noughts and ones, in order. -/
import Derived.Test.YtbfilmdociemmaaSo13
import Derived.Test.YtbfilmdociemmaaAb1
namespace Go.Proofs.Ytbfilmdociemmaa
open Go Go.RowKit

def bitsAll (n : Nat) : List (List Int) := (List.range (2 ^ n)).map (bitsL n)
theorem bitsAll_length (n : Nat) : (bitsAll n).length = 2 ^ n := by simp [bitsAll]
theorem gz_bitsAll {n N : Nat} (h : N < 2 ^ n) : gz (bitsAll n) N = bitsL n N := by simp [gz, bitsAll, List.getD, h]
theorem lvlF_bits (n : Nat) : ∀ j, j ≤ 2 ^ n → lvlF (fun _ _ => true) 2 (bitsAll n) j = (List.range (2 * j)).map (bitsL (n + 1)) := by
  intro j
  induction j with
  | zero => intro _; rfl
  | succ j ih =>
    intro hj
    have e : List.range (2 * (j + 1)) = List.range (2 * j) ++ [2 * j, 2 * j + 1] := by
      rw [show 2 * (j + 1) = 2 * j + 1 + 1 by omega, List.range_succ, List.range_succ, List.append_assoc]; rfl
    simp only [lvlF]
    rw [ih (by omega), gz_bitsAll (by omega), e, List.map_append]
    congr 1
    have h0 := bitsL_snoc n j 0 (by omega)
    have h1 := bitsL_snoc n j 1 (by omega)
    simp only [Nat.add_zero] at h0
    simp [extF, h0, h1]
theorem allF_bits (n : Nat) : allF (fun _ _ => true) 2 n = bitsAll n := by
  induction n with
  | zero => rfl
  | succ n ih =>
    simp only [allF]
    rw [ih, bitsAll_length, lvlF_bits n _ (Nat.le_refl _)]
    unfold bitsAll
    rw [show 2 ^ (n + 1) = 2 * 2 ^ n by rw [Nat.pow_succ]; omega]

theorem allBits1_any (a : Option Addr) (k d : Nat) (x : Int) (w : World) : Calls Try.prog 68 #[.slice a k d, .int .i64 x] w (RetB true w) := by
  go_enter Try.func68, Try.ntmps68
  go_wp2
  go_ret
  exact ⟨rfl, Below.refl _ _⟩

set_option maxHeartbeats 1000000 in
theorem allBits_any (n : Nat) (w : World) (hn : n ≤ 8) : Calls Try.prog 51 #[.int .i64 (n : Int)] w (FreshSS w (bitsAll n)) := by
  have HL := Lib.hid (fun w2 => allListsB_any n 2 (fun _ _ => true) w2 hn (by omega) (fun k hk => by rw [allF_bits, bitsAll_length]; have := pow2_le (show k ≤ 8 by omega); omega) (Lib.hid (fun a k d q x w3 _ _ _ => allBits1_any a k d (x : Int) w3)))
  rw [allF_bits] at HL
  obtain ⟨L, hL⟩ : ∃ L, L = bitsAll n := ⟨_, rfl⟩
  rw [← hL] at HL ⊢
  clear hL
  go_enter Try.func51, Try.ntmps51
  go_wp2_with fail
  refine (HL.out _).mono ?_
  rintro e w1 ⟨A, c, M, S, rfl, o, hb⟩
  have HO := Lib.hid o
  have HB := Lib.hid hb
  clear o hb
  go_wp2
  go_ret
  exact ⟨A, c, M, S, rfl, HO.out, HB.out⟩
end Go.Proofs.Ytbfilmdociemmaa
