/- The taking game of the program: its methods, and the game over its positions. -/
import Derived.Test.YtiapbmgpjloafaaGt0
import Derived.Test.YtiapbmgpjloafaaGo5T
namespace Go.Proofs.Ytiapbmgpjloafaa
open Go Go.RowKit

set_option maxRecDepth 100000 in
set_option maxHeartbeats 1000000 in
theorem keyT_any (W : Int) (A : Option Addr) (n c S : Nat) (w : World) :
    Calls Try.prog 85 #[.agg #[.int .i64 W, .slice A n c, .int .i64 (S : Int)]] w (RetI (S : Int) w) := by
  go_enter Try.func85, Try.ntmps85
  go_wp2
  go_ret
  exact ⟨rfl, (by repeat (first | exact Below.refl _ _ | exact HB.out | refine Below.setCell ?_ (by simp <;> omega) _ | refine Below.alloc ?_ (by simp <;> omega) _ | refine below_drewN ?_ _))⟩

set_option maxRecDepth 100000 in
set_option maxHeartbeats 1000000 in
theorem isWonT_any (W : Int) (A : Option Addr) (n c S : Nat) (w : World) :
    Calls Try.prog 84 #[.agg #[.int .i64 W, .slice A n c, .int .i64 (S : Int)]] w (RetB false w) := by
  go_enter Try.func84, Try.ntmps84
  go_wp2
  go_ret
  exact ⟨rfl, (by repeat (first | exact Below.refl _ _ | exact HB.out | refine Below.setCell ?_ (by simp <;> omega) _ | refine Below.alloc ?_ (by simp <;> omega) _ | refine below_drewN ?_ _))⟩

set_option maxRecDepth 100000 in
set_option maxHeartbeats 1000000 in
theorem afterT_any (W : Int) (A : Option Addr) (n c S i : Nat) (w : World) (hS : S < 4096) (hi : i < 12) (hb : S.testBit i = true) :
    Calls Try.prog 82 #[.agg #[.int .i64 W, .slice A n c, .int .i64 (S : Int)], .int .i64 (i : Int)] w
      (fun e w' => e = .returned (.iface 70 (.agg #[.int .i64 W, .slice A n c, .int .i64 ((nxT S i : Nat) : Int)])) ∧ Below w.heap.size w w') := by
  have H := Lib.hid (fun w2 => without_any W A n c S i w2 hS hi hb)
  unfold nxT
  obtain ⟨X, hX⟩ : ∃ X, X = S - 2 ^ i := ⟨_, rfl⟩
  rw [← hX] at H ⊢
  have HB := belAlloc (belRefl (w := w)) (.cells #[.int .i64 W, .slice A n c, .int .i64 (S : Int)] 70)
  clear hX hb
  go_enter Try.func82, Try.ntmps82
  go_wp2_with fail
  refine (H.out _).mono ?_
  rintro e w1 ⟨rfl, hb⟩
  replace HB := belStep HB hb
  clear hb H
  go_wp2
  go_ret
  exact ⟨rfl, HB.out⟩

/-- the taking game on a ladder -/
theorem gmT {W : Int} {A : Option Addr} {n c : Nat} {zs : List Int} {b : Nat} (hz : zs.length = n) (hn : n ≤ 12) (hl : lad W zs = true) (hA : ∀ x, blk A = some x → x ≠ b) :
    GmT (fun S => .agg #[.int .i64 W, .slice A n c, .int .i64 (S : Int)]) (fun S => S < 2 ^ n) (chL zs W.toNat) nxT (fun _ => false) (ovS zs W.toNat) (fun w => RI w A n zs) b where
  key := fun p w _ _ => keyT_any W A n c p w
  isw := fun p w _ _ => isWonT_any W A n c p w
  cho := fun p w hp h => choices_any W A n c zs p w h hn (Nat.lt_of_lt_of_le hp (pow12 hn)) hl
  aft := fun p i w hp hi _ => by
    obtain ⟨_, h1, h2⟩ := chL_mem hi
    exact afterT_any W A n c p i w (Nat.lt_of_lt_of_le hp (pow12 hn)) (by omega) h2
  nxt := fun p i hp hi => by
    obtain ⟨_, h1, h2⟩ := chL_mem hi
    have := nxT_lt h2
    exact ⟨by omega, this⟩
  chn := fun p j _ hj => by
    obtain ⟨i, h1, h2, h3⟩ := chL_at hj
    exact ⟨i, by omega, h3⟩
  len := fun p _ => by have := chL_len zs W.toNat p; omega
  ovE := fun p _ => ovS_eq p
  mv := fun p hp => by have := ovS_le (zs := zs) (N := W.toNat) p; have := pow12 hn; omega
  keep := fun w w' h hg => riGr h hg hA
end Go.Proofs.Ytiapbmgpjloafaa
