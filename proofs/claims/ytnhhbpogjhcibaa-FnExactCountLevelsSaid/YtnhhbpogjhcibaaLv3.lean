/- AllLevels and CountLevels, of the program and of its model. -/
import Derived.Test.YtnhhbpogjhcibaaLv2
import Derived.Test.YtnhhbpogjhcibaaMgD
namespace Go.Proofs.Ytnhhbpogjhcibaa
open Go Go.RowKit

def alvL (x : Int) : List (List Int) := if inB x 2 8 = true then lvK x.toNat x.toNat 0 else []
theorem alvL_no {x : Int} (h : inB x 2 8 = false) : alvL x = [] := by unfold alvL; rw [h]; rfl
theorem alvL_yes {x : Int} (h : inB x 2 8 = true) : alvL x = lvK x.toNat x.toNat 0 := by unfold alvL; rw [if_pos h]
theorem lvK_small : ∀ n, n ≤ 8 → (lvK n n 0).length ≤ 55 ∧ tot (lvK n n 0) (lvK n n 0).length ≤ 1000 := by
  intro n hn
  obtain rfl | rfl | rfl | rfl | rfl | rfl | rfl | rfl | rfl : n = 0 ∨ n = 1 ∨ n = 2 ∨ n = 3 ∨ n = 4 ∨ n = 5 ∨ n = 6 ∨ n = 7 ∨ n = 8 := by omega
  all_goals decide +kernel
theorem lvK_rows (n : Nat) (hn : n ≤ 8) (j : Nat) : (gz (lvK n n 0) j).length ≤ 8 := by
  by_cases h : j < (lvK n n 0).length
  · exact Nat.le_trans (lvK_row n n 0 _ (mem_gz h)) hn
  · simp [gz, List.getD, List.getElem?_eq_none (Nat.le_of_not_lt h)]
theorem alvL_len (x : Int) : (alvL x).length ≤ 1048576 := by
  rcases h : inB x 2 8 with _ | _
  · rw [alvL_no h]; simp
  · rw [alvL_yes h]; have := inB_iff.1 h; have := (lvK_small x.toNat (by omega)).1; omega
theorem alvL_row (x : Int) (j : Nat) : (gz (alvL x) j).length ≤ 1048576 := by
  rcases h : inB x 2 8 with _ | _
  · rw [alvL_no h]; simp [gz]
  · rw [alvL_yes h]; have := inB_iff.1 h; have := lvK_rows x.toNat (by omega) j; omega
theorem alvL_tot (x : Int) : tot (alvL x) (alvL x).length ≤ 1000000000 := by
  rcases h : inB x 2 8 with _ | _
  · rw [alvL_no h]; simp [tot]
  · rw [alvL_yes h]; have := inB_iff.1 h; have := (lvK_small x.toNat (by omega)).2; omega
def clvN (x : Int) : Int := ((alvL x).length : Int)

set_option maxHeartbeats 1000000 in
theorem iAllLevels_any (x : Int) (w : World) : Calls Try.prog 29 #[.int .i64 x] w (FreshSSB w (alvL x) (inB x 2 8)) := by
  by_cases h1 : x < 2
  · have HQ := Lib.hid (inB_false (n := x) (lo := 2) (hi := 8) (by omega))
    rw [alvL_no HQ.out, HQ.out]
    go_enter Try.func29, Try.ntmps29
    go_wp2
    go_ret2
    exact ⟨none, 0, _, [], rfl, OII.none_ _ _, Below.refl _ _⟩
  · by_cases h2 : 8 < x
    · have HQ := Lib.hid (inB_false (n := x) (lo := 2) (hi := 8) (by omega))
      rw [alvL_no HQ.out, HQ.out]
      go_enter Try.func29, Try.ntmps29
      go_wp2
      go_ret2
      exact ⟨none, 0, _, [], rfl, OII.none_ _ _, Below.refl _ _⟩
    · have HQ := Lib.hid (inB_true (n := x) (lo := 2) (hi := 8) (by omega))
      rw [alvL_yes HQ.out, HQ.out]
      obtain ⟨n, rfl⟩ : ∃ n : Nat, x = (n : Int) := ⟨x.toNat, by omega⟩
      rw [Int.toNat_natCast]
      have HL := Lib.hid (fun w2 => levelsFrom_any n (by omega) n 0 (by omega) (by omega) (by omega) w2)
      obtain ⟨L, hL⟩ : ∃ L, L = lvK n n 0 := ⟨_, rfl⟩
      rw [← hL] at HL ⊢
      clear hL
      go_enter Try.func29, Try.ntmps29
      go_wp2_with fail
      refine (HL.out _).mono ?_
      rintro e w1 ⟨A1, c1, M1, S1, rfl, o1, hb⟩
      have HO := Lib.hid o1
      clear o1
      go_wp2
      go_ret2
      exact ⟨A1, c1, M1, S1, rfl, HO.out, hb⟩
set_option maxHeartbeats 1000000 in
theorem sAllLevels_any (x : Int) (w : World) : Calls Try.prog 28 #[.int .i64 x] w (FreshSSB w (alvL x) (inB x 2 8)) := by
  rcases hq : inB x 2 8 with _ | _
  · have HQ := Lib.hid hq
    rw [alvL_no hq]
    clear hq
    go_enter Try.func28, Try.ntmps28
    go_wp2_with fail
    refine (lvWires_any x _).mono ?_
    rw [HQ.out]
    rintro e w1 ⟨rfl, rfl⟩
    go_wp2
    go_ret2
    exact ⟨none, 0, _, [], rfl, OII.none_ _ _, Below.refl _ _⟩
  · have HQ := Lib.hid hq
    rw [alvL_yes hq]
    have hx := inB_iff.1 hq
    obtain ⟨n, rfl⟩ : ∃ n : Nat, x = (n : Int) := ⟨x.toNat, by omega⟩
    rw [Int.toNat_natCast]
    have HL := Lib.hid (fun w2 => lvAll_any n (by omega) n 0 (by omega) (by omega) (by omega) w2)
    obtain ⟨L, hL⟩ : ∃ L, L = lvK n n 0 := ⟨_, rfl⟩
    rw [← hL] at HL ⊢
    clear hL hq
    go_enter Try.func28, Try.ntmps28
    go_wp2_with fail
    refine (lvWires_any (n : Int) _).mono ?_
    rw [HQ.out]
    rintro e w1 ⟨rfl, rfl⟩
    go_wp2_with fail
    refine (HL.out _).mono ?_
    rintro e w1 ⟨A1, c1, M1, S1, rfl, o1, hb⟩
    have HO := Lib.hid o1
    clear o1
    go_wp2
    go_ret2
    exact ⟨A1, c1, M1, S1, rfl, HO.out, hb⟩

set_option maxHeartbeats 1000000 in
theorem iCountLevels_any (x : Int) (w : World) : Calls Try.prog 32 #[.int .i64 x] w (RetIB (clvN x) (inB x 2 8) w) := by
  unfold clvN
  have HL := Lib.hid (fun w2 => iAllLevels_any x w2)
  obtain ⟨L, hL⟩ : ∃ L, L = alvL x := ⟨_, rfl⟩
  obtain ⟨q, hq⟩ : ∃ q, q = inB x 2 8 := ⟨_, rfl⟩
  rw [← hL, ← hq] at HL
  rw [← hL, ← hq]
  clear hL hq
  go_enter Try.func32, Try.ntmps32
  go_wp2_with fail
  refine (HL.out _).mono ?_
  rintro e w1 ⟨A1, c1, M1, S1, rfl, o1, hb⟩
  clear o1
  go_wp2
  go_ret2
  exact ⟨rfl, hb⟩
set_option maxHeartbeats 1000000 in
theorem sCountLevels_any (x : Int) (w : World) : Calls Try.prog 31 #[.int .i64 x] w (RetIB (clvN x) (inB x 2 8) w) := by
  unfold clvN
  rcases hq : inB x 2 8 with _ | _
  · have HQ := Lib.hid hq
    rw [alvL_no hq]
    clear hq
    go_enter Try.func31, Try.ntmps31
    go_wp2_with fail
    refine (lvWires_any x _).mono ?_
    rw [HQ.out]
    rintro e w1 ⟨rfl, rfl⟩
    go_wp2
    go_ret2
    exact ⟨rfl, Below.refl _ _⟩
  · have HQ := Lib.hid hq
    rw [alvL_yes hq]
    have hx := inB_iff.1 hq
    obtain ⟨n, rfl⟩ : ∃ n : Nat, x = (n : Int) := ⟨x.toNat, by omega⟩
    rw [Int.toNat_natCast]
    have HL := Lib.hid (fun w2 => lvAll_any n (by omega) n 0 (by omega) (by omega) (by omega) w2)
    obtain ⟨L, hL⟩ : ∃ L, L = lvK n n 0 := ⟨_, rfl⟩
    rw [← hL] at HL ⊢
    clear hL hq
    go_enter Try.func31, Try.ntmps31
    go_wp2_with fail
    refine (lvWires_any (n : Int) _).mono ?_
    rw [HQ.out]
    rintro e w1 ⟨rfl, rfl⟩
    go_wp2_with fail
    refine (HL.out _).mono ?_
    rintro e w1 ⟨A1, c1, M1, S1, rfl, o1, hb⟩
    clear o1
    go_wp2
    go_ret2
    exact ⟨rfl, hb⟩
end Go.Proofs.Ytnhhbpogjhcibaa
