/- Which rungs can fall; how many ladders there are: the program's and the model's small functions of chapter 4. -/
import Derived.Test.YtbgkhehopldilaaMgD
import Derived.Test.YtbgkhehopldilaaCe1
namespace Go.Proofs.Ytbgkhehopldilaa
open Go Go.RowKit

theorem ret_ib {k : IntKind} {a b : Int} {q : Bool} (h : a = b) : Ending.returned (.tuple #[.int k a, .bool q]) = .returned (.tuple #[.int k b, .bool q]) := by rw [h]
/-- k rungs can fall on n wires -/
def fallB (n k : Int) : Bool := inB n 2 6 && inB k 0 20
theorem fallB_iff {n k : Int} : fallB n k = true ↔ (2 ≤ n ∧ n ≤ 6) ∧ (0 ≤ k ∧ k ≤ 20) := by
  unfold fallB; rw [Bool.and_eq_true, inB_iff, inB_iff]
theorem fallB_1 {n k : Int} (h : inB n 2 6 = false) : fallB n k = false := by unfold fallB; rw [h]; rfl
theorem fallB_2 {n k : Int} (h : inB k 0 20 = false) : fallB n k = false := by unfold fallB; rw [h, Bool.and_false]
theorem fallB_3 {n k : Int} (h : inB n 2 6 = true) (h2 : inB k 0 20 = true) : fallB n k = true := by unfold fallB; rw [h, h2]; rfl

set_option maxHeartbeats 400000 in
theorem chGood_any (n k : Int) (w : World) : Calls Try.prog 23 #[.int .i64 n, .int .i64 k] w (SameB (fallB n k) w) := by
  rcases h1 : inB n 2 6 with _ | _
  · have H1 := Lib.hid h1
    clear h1
    go_enter Try.func23, Try.ntmps23
    go_wp2_with (go_at_call 24; refine (l1In_any _ _ _ _).mono ?_; rw [H1.out]; rintro e w' ⟨rfl, rfl⟩)
    go_ret
    exact ⟨ret_b (fallB_1 H1.out).symm, rfl⟩
  · rcases h2 : inB k 0 20 with _ | _
    · have H1 := Lib.hid h1
      have H2 := Lib.hid h2
      clear h1 h2
      go_enter Try.func23, Try.ntmps23
      go_wp2_with (go_at_call 24; refine (l1In_any _ _ _ _).mono ?_; (first | rw [H1.out] | rw [H2.out]); rintro e w' ⟨rfl, rfl⟩)
      go_ret
      exact ⟨ret_b (fallB_2 H2.out).symm, rfl⟩
    · have H1 := Lib.hid h1
      have H2 := Lib.hid h2
      clear h1 h2
      go_enter Try.func23, Try.ntmps23
      go_wp2_with (go_at_call 24; refine (l1In_any _ _ _ _).mono ?_; (first | rw [H1.out] | rw [H2.out]); rintro e w' ⟨rfl, rfl⟩)
      go_ret
      exact ⟨ret_b (fallB_3 H1.out H2.out).symm, rfl⟩

set_option maxHeartbeats 400000 in
theorem isFall_any (n k : Int) (w : World) : Calls Try.prog 28 #[.int .i64 n, .int .i64 k] w (SameB (fallB n k) w) := by
  by_cases h1 : 2 ≤ n
  · by_cases h2 : n ≤ 6
    · by_cases h3 : 0 ≤ k
      · by_cases h4 : k ≤ 20
        · have E := Lib.hid (fallB_iff.2 ⟨⟨h1, h2⟩, h3, h4⟩)
          go_enter Try.func28, Try.ntmps28
          go_wp2
          go_ret
          exact ⟨ret_b E.out.symm, rfl⟩
        · have E := Lib.hid (fallB_2 (n := n) (inB_false (n := k) (lo := 0) (hi := 20) (by omega)))
          go_enter Try.func28, Try.ntmps28
          go_wp2
          go_ret
          exact ⟨ret_b E.out.symm, rfl⟩
      · have E := Lib.hid (fallB_2 (n := n) (inB_false (n := k) (lo := 0) (hi := 20) (by omega)))
        go_enter Try.func28, Try.ntmps28
        go_wp2
        go_ret
        exact ⟨ret_b E.out.symm, rfl⟩
    · have E := Lib.hid (fallB_1 (k := k) (inB_false (n := n) (lo := 2) (hi := 6) (by omega)))
      go_enter Try.func28, Try.ntmps28
      go_wp2
      go_ret
      exact ⟨ret_b E.out.symm, rfl⟩
  · have E := Lib.hid (fallB_1 (k := k) (inB_false (n := n) (lo := 2) (hi := 6) (by omega)))
    go_enter Try.func28, Try.ntmps28
    go_wp2
    go_ret
    exact ⟨ret_b E.out.symm, rfl⟩

/-- the number of all ladders -/
def allN (n k : Int) : Nat := (n.toNat - 1) ^ k.toNat
theorem pow5 {m j : Nat} (hm : m ≤ 5) (hj : j ≤ 20) : m ^ j ≤ 95367431640625 := by
  have h1 : m ^ j ≤ 5 ^ j := Nat.pow_le_pow_left hm j
  have h2 : 5 ^ j ≤ 5 ^ 20 := Nat.pow_le_pow_right (by omega) hj
  have h3 : 5 ^ 20 = 95367431640625 := by decide
  omega
theorem powPos {m j : Nat} (hm : 1 ≤ m) : 1 ≤ m ^ j := Nat.pow_pos (by omega)
theorem allN_of (m j : Nat) : allN ((m : Int) + 1) (j : Int) = m ^ j := by unfold allN; congr 1

theorem mul_pow {m j : Nat} {x : Int} (hx : x = (m : Int) + 1) (hm : m ≤ 5) (hj : j < 20) : IntKind.i64.wrap (((m ^ j : Nat) : Int) * (x - 1)) = ((m ^ (j + 1) : Nat) : Int) := by
  have h := pow5 (m := m) (j := j + 1) hm (by omega)
  have e : ((m ^ j : Nat) : Int) * (x - 1) = ((m ^ (j + 1) : Nat) : Int) := by
    rw [hx, Int.add_sub_cancel, ← Int.natCast_mul, Nat.pow_succ]
  rw [e]
  exact IntWalk.i64_in _ (by omega)

set_option maxHeartbeats 1000000 in
theorem chAll_any (n k : Int) (w : World) (h : fallB n k = true) : Calls Try.prog 27 #[.int .i64 n, .int .i64 k] w (SameI (allN n k : Int) w) := by
  obtain ⟨⟨h2, h6⟩, hk0, hk⟩ := fallB_iff.1 h
  obtain ⟨m, hm⟩ : ∃ m : Nat, n = (m : Int) + 1 := ⟨(n - 1).toNat, by omega⟩
  obtain ⟨K, hK⟩ : ∃ K : Nat, k = (K : Int) := ⟨k.toNat, by omega⟩
  have E := Lib.hid (allN_of m K)
  rw [← hm, ← hK] at E
  have HM := Lib.hid hm
  have hm5 : m ≤ 5 := by omega
  have hK20 : K ≤ 20 := by omega
  subst hK
  clear h hm
  go_enter Try.func27, Try.ntmps27
  go_wp2
  go_loop [1, 5] (fun s t => ∃ i j p : Nat, i + j = K ∧ s = .int .i64 (i : Int) ∧ t = .int .i64 (p : Int) ∧ p = m ^ j) (fun s _ => (intOf s).toNat)
  case atStart => exact ⟨K, 0, 1, rfl, rfl, rfl, rfl⟩
  case round =>
    obtain ⟨i, j, p, hij, rfl, rfl, hp⟩ := hrel
    have HP := Lib.hid hp
    by_cases hlt : (0 : Int) < (i : Int)
    · obtain ⟨q, hq⟩ : ∃ q, q = m ^ (j + 1) := ⟨_, rfl⟩
      have HQ := Lib.hid hq
      have hmul := mul_pow HM.out hm5 (show j < 20 by omega)
      rw [← hp, ← hq] at hmul
      clear hp hq
      go_wp2
      go_round
      case rel => exact ⟨i - 1, j + 1, q, by omega, by go_num, rfl, HQ.out⟩
      case measure => simp [intOf]; omega
    · clear hp
      have hj : j = K := by omega
      have HJ := Lib.hid hj
      clear hj
      go_wp2
      go_ret
      exact ⟨ret_i (by rw [E.out, HP.out, HJ.out]), rfl⟩

set_option maxHeartbeats 1000000 in
theorem iCountLadders_yes (n k : Int) (w : World) (h : fallB n k = true) : Calls Try.prog 8 #[.int .i64 n, .int .i64 k] w (fun e w' => e = .returned (.tuple #[.int .i64 (allN n k : Int), .bool true]) ∧ w = w') := by
  obtain ⟨⟨h2, h6⟩, hk0, hk⟩ := fallB_iff.1 h
  obtain ⟨m, hm⟩ : ∃ m : Nat, n = (m : Int) + 1 := ⟨(n - 1).toNat, by omega⟩
  obtain ⟨K, hK⟩ : ∃ K : Nat, k = (K : Int) := ⟨k.toNat, by omega⟩
  have E := Lib.hid (allN_of m K)
  rw [← hm, ← hK] at E
  have HM := Lib.hid hm
  have HQ := Lib.hid h
  have hm5 : m ≤ 5 := by omega
  have hK20 : K ≤ 20 := by omega
  subst hK
  clear h hm
  go_enter Try.func8, Try.ntmps8
  go_wp2_with (go_at_call 28; refine (isFall_any _ _ _).mono ?_; rw [HQ.out]; rintro e w' ⟨rfl, rfl⟩)
  go_loop [6, 12] (fun s t => ∃ j p : Nat, j ≤ K ∧ t = .int .i64 (j : Int) ∧ s = .int .i64 (p : Int) ∧ p = m ^ j) (fun _ t => K - (intOf t).toNat)
  case atStart => exact ⟨0, 1, Nat.zero_le _, rfl, rfl, rfl⟩
  case round =>
    obtain ⟨j, p, hj, rfl, rfl, hp⟩ := hrel
    have HP := Lib.hid hp
    by_cases hlt : (j : Int) < (K : Int)
    · obtain ⟨q, hq⟩ : ∃ q, q = m ^ (j + 1) := ⟨_, rfl⟩
      have HQQ := Lib.hid hq
      have hmul := mul_pow HM.out hm5 (show j < 20 by omega)
      rw [← hp, ← hq] at hmul
      clear hp hq
      go_wp2
      go_round
      case rel => exact ⟨j + 1, q, by omega, by go_num, rfl, HQQ.out⟩
      case measure => simp [intOf]; omega
    · clear hp
      have hj : j = K := by omega
      have HJ := Lib.hid hj
      clear hj
      go_wp2
      go_ret2
      exact ⟨ret_ib (by rw [E.out, HP.out, HJ.out]), rfl⟩

theorem iCountLadders_no (n k : Int) (w : World) (h : fallB n k = false) : Calls Try.prog 8 #[.int .i64 n, .int .i64 k] w (fun e w' => e = .returned (.tuple #[.int .i64 0, .bool false]) ∧ w = w') := by
  have HQ := Lib.hid h
  clear h
  go_enter Try.func8, Try.ntmps8
  go_wp2_with (go_at_call 28; refine (isFall_any _ _ _).mono ?_; rw [HQ.out]; rintro e w' ⟨rfl, rfl⟩)
  go_ret2
  exact ⟨rfl, rfl⟩

set_option maxHeartbeats 400000 in
theorem sCountLadders_any (n k : Int) (w : World) : Calls Try.prog 9 #[.int .i64 n, .int .i64 k] w (fun e w' => e = .returned (.tuple #[.int .i64 (if fallB n k = true then (allN n k : Int) else 0), .bool (fallB n k)]) ∧ w = w') := by
  rcases h : fallB n k with _ | _
  · have HQ := Lib.hid h
    clear h
    go_enter Try.func9, Try.ntmps9
    go_wp2_with (go_at_call 23; refine (chGood_any _ _ _).mono ?_; rw [HQ.out]; rintro e w' ⟨rfl, rfl⟩)
    go_ret2
    exact ⟨by simp, rfl⟩
  · have HQ := Lib.hid h
    clear h
    go_enter Try.func9, Try.ntmps9
    go_wp2_with (first | (go_at_call 23; refine (chGood_any _ _ _).mono ?_; rw [HQ.out]; rintro e w' ⟨rfl, rfl⟩) | (go_at_call 27; refine (chAll_any _ _ _ HQ.out).mono ?_; rintro e w' ⟨rfl, rfl⟩))
    go_ret2
    exact ⟨by simp, rfl⟩
theorem iCountLadders_any (n k : Int) (w : World) : Calls Try.prog 8 #[.int .i64 n, .int .i64 k] w (fun e w' => e = .returned (.tuple #[.int .i64 (if fallB n k = true then (allN n k : Int) else 0), .bool (fallB n k)]) ∧ w = w') := by
  rcases h : fallB n k with _ | _
  · simpa using iCountLadders_no n k w h
  · simpa using iCountLadders_yes n k w h
/-- CountLadders -/
def clN (n k : Int) : Int := if fallB n k = true then (allN n k : Int) else 0
theorem sCountLadders_ib (n k : Int) (w : World) : Calls Try.prog 9 #[.int .i64 n, .int .i64 k] w (RetIB (clN n k) (fallB n k) w) :=
  (sCountLadders_any n k w).mono (by rintro e w' ⟨rfl, rfl⟩; exact ⟨rfl, Below.refl _ _⟩)
theorem iCountLadders_ib (n k : Int) (w : World) : Calls Try.prog 8 #[.int .i64 n, .int .i64 k] w (RetIB (clN n k) (fallB n k) w) :=
  (iCountLadders_any n k w).mono (by rintro e w' ⟨rfl, rfl⟩; exact ⟨rfl, Below.refl _ _⟩)
end Go.Proofs.Ytbgkhehopldilaa
