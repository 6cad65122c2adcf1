/- Lists of noughts and ones with a number: the model's. -/
import Derived.Test.YtbfilmdociemmaaSo2
import Derived.Test.YtbfilmdociemmaaSo11
namespace Go.Proofs.Ytbfilmdociemmaa
open Go Go.RowKit

/-- the list of n noughts and ones with the number N -/
def bitsL (n N : Nat) : List Int := (List.range n).map fun i => ((N / 2 ^ (n - 1 - i) % 2 : Nat) : Int)
theorem bitsL_length (n N : Nat) : (bitsL n N).length = n := by simp [bitsL]
theorem gi_bitsL (n N j : Nat) (h : j < n) : gi (bitsL n N) j = ((N / 2 ^ (n - 1 - j) % 2 : Nat) : Int) := by
  rw [gi_lt (by rw [bitsL_length]; exact h)]; simp [bitsL]
theorem isBits_bitsL (n N : Nat) : isBits (bitsL n N) := by
  intro j hj
  rw [bitsL_length] at hj
  rw [gi_bitsL _ _ _ hj]
  have := Nat.mod_lt (N / 2 ^ (n - 1 - j)) (show 0 < 2 by decide)
  omega

set_option maxHeartbeats 1000000 in
theorem soBits_any (n N : Nat) (w : World) (hn : n ≤ 8) (hN : N ≤ 256) : Calls Try.prog 49 #[.int .i64 (n : Int), .int .i64 (N : Int)] w (FreshI w n (bitsL n N)) := by
  have hmk := run_make_row' (P := Try.prog) 22 3 (.int .i64 0) 8 Try.underlying22 infoInt rfl .i64 .i64 n (by omega) (by omega)
  have hw0 : IntKind.i64.wrap ((n : Int) - 1) = (n : Int) - 1 := IntWalk.i64_in _ (by omega)
  go_enter Try.func49, Try.ntmps49
  go_wp2
  go_loopw [1, 6] (fun x i wr => ∃ k : Nat, k ≤ n ∧ i = .int .i64 ((k : Int) - 1) ∧ x = .int .i64 ((N / 2 ^ (n - k) : Nat) : Int) ∧ wr.rowIs w.heap.size 3 n (fun j => if k ≤ j then .int .i64 (gi (bitsL n N) j) else .int .i64 0) ∧ Below w.heap.size w wr) (fun _ i _ => (intOf i + 1).toNat)
  case atStart =>
    refine ⟨n, Nat.le_refl _, rfl, by simp, (World.rowIs_made w (.int .i64 0) n 3).congr (fun j hj => by simp; omega), (Below.refl _ _).alloc (Nat.le_refl _) _⟩
  case round =>
    obtain ⟨k, hk, rfl, rfl, hrow, hb⟩ := hrel
    by_cases hk0 : k = 0
    · subst hk0
      have hneg : ¬ (0 : Int) ≤ ((0 : Nat) : Int) - 1 := by omega
      go_wp2
      go_ret
      exact ⟨_, _, rfl, OI.of_rowIs (Nat.le_refl _) hrow (by simp only [maxLen]; omega) (bitsL_length _ _) (fun j hj => by simp), hb⟩
    · obtain ⟨j, rfl⟩ : ∃ j, k = j + 1 := ⟨k - 1, by omega⟩
      have ej : ((j + 1 : Nat) : Int) - 1 = (j : Int) := by omega
      rw [ej]
      have hlt : j < n := by omega
      have hd := hrow.cell hlt
      have hf := hrow.frozen j
      rw [if_neg (by omega)] at hd
      have H1 := Lib.hid hrow
      have H2 := Lib.hid hb
      have i1 : (0 : Int) ≤ (j : Int) := by omega
      have i2 : (j : Int) < (n : Int) := by omega
      have hw1 : IntKind.i64.wrap ((j : Int) - 1) = (j : Int) - 1 := IntWalk.i64_in _ (by omega)
      clear hrow hb hmk
      obtain ⟨M, hM⟩ : ∃ M : Nat, M = N / 2 ^ (n - (j + 1)) := ⟨_, rfl⟩
      have hM2 : M ≤ 256 := by rw [hM]; exact Nat.le_trans (Nat.div_le_self _ _) hN
      have hbit : gi (bitsL n N) j = ((M % 2 : Nat) : Int) := by rw [gi_bitsL _ _ _ hlt, hM, show n - 1 - j = n - (j + 1) by omega]
      have hnx : N / 2 ^ (n - j) = M / 2 := by rw [hM, show n - j = n - (j + 1) + 1 by omega, Nat.pow_succ, Nat.div_div_eq_div_mul]
      rw [← hM]
      have HBIT := Lib.hid hbit
      have HNX := Lib.hid hnx
      clear hM hbit hnx
      go_wp2
      refine ⟨⟨j, by omega, rfl, ?_, ?_, ?_⟩, by simp [intOf]⟩
      · rw [HNX.out]; simp
      · rw [show (M : Int) % 2 = ((M % 2 : Nat) : Int) by simp, ← HBIT.out]
        refine (H1.out.set j _).congr (fun i hi => ?_)
        by_cases e : i = j
        · subst e; simp
        · by_cases e2 : j ≤ i
          · simp [e, e2, show j + 1 ≤ i by omega]
          · simp [e, e2, show ¬ j + 1 ≤ i by omega]
      · exact H2.out.setCell (by simp) _
end Go.Proofs.Ytbfilmdociemmaa
