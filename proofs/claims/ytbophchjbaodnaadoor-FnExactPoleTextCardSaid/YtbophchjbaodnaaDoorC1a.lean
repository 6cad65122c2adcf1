/- The contracts of the functions that look whether there is a ladder, of the program and of its model. -/
import Derived.Test.YtbophchjbaodnaaDoorMgA
namespace Go.Proofs.YtbophchjbaodnaaDoor
open Go Go.RowKit

/-- a value, and the world as it was -/
def SameB (b : Bool) (w : World) (e : Ending) (w' : World) : Prop := e = .returned (.bool b) ∧ w = w'
def SameI (n : Int) (w : World) (e : Ending) (w' : World) : Prop := e = .returned (.int .i64 n) ∧ w = w'

theorem l1In_any (n lo hi : Int) (w : World) : Calls Tryd.prog 18 #[.int .i64 n, .int .i64 lo, .int .i64 hi] w (SameB (inB n lo hi) w) := by
  by_cases h1 : lo ≤ n
  · by_cases h2 : n ≤ hi
    · go_enter Tryd.func18, Tryd.ntmps18
      go_wp2
      go_ret
      exact ⟨ret_b (inB_true ⟨h1, h2⟩).symm, rfl⟩
    · go_enter Tryd.func18, Tryd.ntmps18
      go_wp2
      go_ret
      exact ⟨ret_b (inB_false (by omega)).symm, rfl⟩
  · go_enter Tryd.func18, Tryd.ntmps18
    go_wp2
    go_ret
    exact ⟨ret_b (inB_false (by omega)).symm, rfl⟩

set_option maxHeartbeats 400000 in
theorem l1All_any (A : Option Addr) (n c : Nat) (zs : List Int) (lo hi : Int) (w : World) (h : RI w A n zs) (hn : n ≤ 1048576) :
    Calls Tryd.prog 19 #[.slice A n c, .int .i64 lo, .int .i64 hi] w (SameB (allIn zs lo hi) w) := by
  go_enter Tryd.func19, Tryd.ntmps19
  go_wp2
  go_loop [8, 11] (fun _ i => ∃ k : Nat, k ≤ n ∧ i = .int .i64 k ∧ ∀ j, j < k → inB (gi zs j) lo hi = true) (fun _ i => n - (intOf i).toNat)
  case atStart => exact ⟨0, Nat.zero_le _, rfl, fun j hj => absurd hj (by omega)⟩
  case round =>
    obtain ⟨k, hk, rfl, hall⟩ := hrel
    have H3 := Lib.hid hall
    clear hall
    by_cases hlt : k < n
    · obtain ⟨b, off, rfl, hbw, hc⟩ := h.cell hlt
      have hck := hc k hlt
      clear hc
      obtain ⟨q, hq⟩ : ∃ q, q = inB (gi zs k) lo hi := ⟨_, rfl⟩
      have HQ := Lib.hid hq
      clear hq
      go_wp2_with (go_at_call 18; refine (l1In_any _ _ _ _).mono ?_; rw [← HQ.out]; rintro e w' ⟨rfl, rfl⟩; cases q)
      · go_ret
        exact ⟨ret_b (allIn_false (by rw [h.1]; exact hlt) HQ.out.symm).symm, rfl⟩
      · go_round
        case rel =>
          refine ⟨k + 1, by omega, by go_num, fun j hj => ?_⟩
          by_cases e : j = k
          · rw [e]; exact HQ.out.symm
          · exact H3.out j (by omega)
        case measure => simp [intOf]; omega
    · obtain rfl : k = n := by omega
      go_wp2
      go_ret
      exact ⟨ret_b (allIn_true (by rw [h.1]; exact H3.out)).symm, rfl⟩

end Go.Proofs.YtbophchjbaodnaaDoor
