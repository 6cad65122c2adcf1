/- How many longest ladders there are, by the formula: the program's and the model's reckoning. -/
import Derived.Test.YtgeeifjbfceogaaGreatDoorMgD
import Derived.Test.YtgeeifjbfceogaaGreatDoorMgC
namespace Go.Proofs.YtgeeifjbfceogaaGreatDoor
open Go Go.RowKit

def RetNB (n : Int) (b : Bool) (w : World) (e : Ending) (w' : World) : Prop := e = .returned (.tuple #[.int .i64 n, .bool b]) ∧ Below w.heap.size w w'

def fct : Nat → Nat
  | 0 => 1
  | k + 1 => fct k * (k + 1)
theorem fct_le (k : Nat) (h : k ≤ 15) : fct k ≤ 1307674368000 := by
  have : ∀ k, k < 16 → fct k ≤ 1307674368000 := by decide
  exact this k (by omega)
def gq (n c : Nat) : Nat → Nat
  | 0 => c
  | i + 1 => gq n c i / (2 * i + 1) ^ (n - 1 - i)
theorem gq_le (n c : Nat) : ∀ i, gq n c i ≤ c
  | 0 => Nat.le_refl _
  | i + 1 => Nat.le_trans (Nat.div_le_self _ _) (gq_le n c i)
def lgf (n : Nat) : Nat := gq n (fct (n * (n - 1) / 2)) (n - 1)
theorem dv_step (c d j : Nat) : Int.tdiv ((c / d ^ j : Nat) : Int) (d : Int) = ((c / d ^ (j + 1) : Nat) : Int) := by
  rw [Int.tdiv_eq_ediv_of_nonneg (Int.natCast_nonneg _), Nat.pow_succ, ← Nat.div_div_eq_div_mul]
  simp
theorem fct_step (k : Nat) : (fct k : Int) * ((k : Int) + 1) = ((fct (k + 1) : Nat) : Int) := by simp [fct]
def lgN (x : Int) : Int := if 2 ≤ x ∧ x ≤ 6 then (lgf x.toNat : Int) else 0
def lgQ (x : Int) : Bool := decide (2 ≤ x ∧ x ≤ 6)

set_option maxRecDepth 100000 in
set_option maxHeartbeats 2000000 in
theorem iLg2 (w : World) : Calls Tryz.prog 39 #[.int .i64 2] w (RetNB (lgf 2 : Int) true w) := by
  have HL : Hid (lgf 2 = gq 2 (fct 1) 1) := by show _ = _; rfl
  obtain ⟨L, hL⟩ : ∃ L, L = lgf 2 := ⟨_, rfl⟩
  rw [← hL] at HL ⊢
  clear hL
  go_enter Tryz.func39, Tryz.ntmps39
  go_wp2
  go_loopw [4, 5] (fun s4 s5 wr => ∃ k : Nat, 1 ≤ k ∧ k ≤ 1 ∧ s5 = .int .i64 ((k : Int) + 1) ∧ s4 = .int .i64 ((fct k : Nat) : Int) ∧ Below w.heap.size w wr) (fun _ s5 _ => 17 - (intOf s5).toNat)
  case atStart => exact ⟨1, by omega, by omega, rfl, rfl, Below.refl _ _⟩
  case round =>
    obtain ⟨k, hk1, hk2, rfl, rfl, hb⟩ := hrel
    have HB := Lib.hid hb
    clear hb
    by_cases hlt : k < 1
    · exact absurd hlt (by omega)
    · obtain rfl : k = 1 := by omega
      have hfl := fct_le 1 (by omega)
      obtain ⟨F, hF⟩ : ∃ F, F = fct 1 := ⟨_, rfl⟩
      rw [← hF] at hfl HL ⊢
      clear hF
      go_wp2
      go_loopw [4, 6] (fun s4 s6 wr => ∃ t c : Nat, t ≤ 1 ∧ s6 = .int .i64 (t : Int) ∧ s4 = .int .i64 (c : Int) ∧ c = gq 2 F (1 - t) ∧ Below w.heap.size w wr) (fun _ s6 _ => (intOf s6).toNat)
      case atStart => exact ⟨1, F, by omega, rfl, rfl, rfl, HB.out⟩
      case round =>
        obtain ⟨t, c, ht, rfl, rfl, hc, hb⟩ := hrel
        have HB := Lib.hid hb
        have hcl : c ≤ 1307674368000 := by rw [hc]; exact Nat.le_trans (gq_le _ _ _) hfl
        have HC := Lib.hid hc
        clear hb hc
        by_cases h0 : 0 < t
        · obtain ⟨d, hd⟩ : ∃ d : Nat, (d : Int) = 2 * (2 - (t : Int)) - 1 := ⟨2 * (2 - t) - 1, by omega⟩
          have hne : ¬ (2 * (2 - (t : Int)) - 1 = 0) := by omega
          have HD := Lib.hid hd
          clear hd
          have h0i : (0 : Int) < (t : Int) := by omega
          go_wp2
          try rw [show decide (0 < (t : Int)) = true from decide_eq_true h0i]
          go_loopw [4, 32] (fun s4 s32 wi => ∃ j : Nat, j ≤ t ∧ s32 = .int .i64 (j : Int) ∧ s4 = .int .i64 ((c / d ^ j : Nat) : Int) ∧ Below w.heap.size w wi) (fun _ s32 _ => t - (intOf s32).toNat)
          case atStart => exact ⟨0, by omega, rfl, by simp, HB.out⟩
          case round =>
            obtain ⟨j, hj, rfl, rfl, hb⟩ := hrel
            have HB := Lib.hid hb
            clear hb
            by_cases hjt : j < t
            · have hdv := dv_step c d j
              rw [HD.out] at hdv
              have hq1 : c / d ^ j ≤ c := Nat.div_le_self _ _
              have hq2 : c / d ^ (j + 1) ≤ c := Nat.div_le_self _ _
              obtain ⟨u, hu⟩ : ∃ u, u = c / d ^ j := ⟨_, rfl⟩
              obtain ⟨v, hv⟩ : ∃ v, v = c / d ^ (j + 1) := ⟨_, rfl⟩
              rw [← hu, ← hv] at hdv
              rw [← hu] at hq1 ⊢
              rw [← hv] at hq2
              have HV := Lib.hid hv
              clear hu hv
              go_wp2
              go_roundw
              case rel => exact ⟨j + 1, by omega, by go_num, by rw [← HV.out], HB.out⟩
              case measure => simp [intOf]; omega
            · obtain rfl : j = t := by omega
              go_wp2
              go_roundw
              case rel =>
                refine ⟨j - 1, c / d ^ j, by omega, by go_num, rfl, ?_, HB.out⟩
                have e : 1 - (j - 1) = (1 - j) + 1 := by omega
                have e2 : 2 * (1 - j) + 1 = d := by have := HD.out; omega
                have e3 : 2 - 1 - (1 - j) = j := by omega
                rw [e]
                show _ = gq 2 F (1 - j) / (2 * (1 - j) + 1) ^ (2 - 1 - (1 - j))
                rw [e2, e3, ← HC.out]
              case measure => simp [intOf]; omega
        · obtain rfl : t = 0 := by omega
          go_wp2
          go_ret2
          exact ⟨by rw [HL.out, HC.out]; rfl, HB.out⟩

set_option maxRecDepth 100000 in
set_option maxHeartbeats 2000000 in
theorem iLg3 (w : World) : Calls Tryz.prog 39 #[.int .i64 3] w (RetNB (lgf 3 : Int) true w) := by
  have HL : Hid (lgf 3 = gq 3 (fct 3) 2) := by show _ = _; rfl
  obtain ⟨L, hL⟩ : ∃ L, L = lgf 3 := ⟨_, rfl⟩
  rw [← hL] at HL ⊢
  clear hL
  go_enter Tryz.func39, Tryz.ntmps39
  go_wp2
  go_loopw [4, 5] (fun s4 s5 wr => ∃ k : Nat, 1 ≤ k ∧ k ≤ 3 ∧ s5 = .int .i64 ((k : Int) + 1) ∧ s4 = .int .i64 ((fct k : Nat) : Int) ∧ Below w.heap.size w wr) (fun _ s5 _ => 17 - (intOf s5).toNat)
  case atStart => exact ⟨1, by omega, by omega, rfl, rfl, Below.refl _ _⟩
  case round =>
    obtain ⟨k, hk1, hk2, rfl, rfl, hb⟩ := hrel
    have HB := Lib.hid hb
    clear hb
    by_cases hlt : k < 3
    · have hf := fct_step k
      have hfl := fct_le (k + 1) (by omega)
      obtain ⟨c, hc⟩ : ∃ c, c = fct (k + 1) := ⟨_, rfl⟩
      obtain ⟨b, hb⟩ : ∃ b, b = fct k := ⟨_, rfl⟩
      rw [← hc] at hf hfl
      rw [← hb] at hf ⊢
      have HC := Lib.hid hc
      clear hc hb
      have hw : IntKind.i64.wrap (c : Int) = (c : Int) := IntWalk.i64_in _ (by omega)
      go_wp2
      go_roundw
      case rel => exact ⟨k + 1, by omega, by omega, by go_num, by rw [HC.out], HB.out⟩
      case measure => simp [intOf]; omega
    · obtain rfl : k = 3 := by omega
      have hfl := fct_le 3 (by omega)
      obtain ⟨F, hF⟩ : ∃ F, F = fct 3 := ⟨_, rfl⟩
      rw [← hF] at hfl HL ⊢
      clear hF
      go_wp2
      go_loopw [4, 6] (fun s4 s6 wr => ∃ t c : Nat, t ≤ 2 ∧ s6 = .int .i64 (t : Int) ∧ s4 = .int .i64 (c : Int) ∧ c = gq 3 F (2 - t) ∧ Below w.heap.size w wr) (fun _ s6 _ => (intOf s6).toNat)
      case atStart => exact ⟨2, F, by omega, rfl, rfl, rfl, HB.out⟩
      case round =>
        obtain ⟨t, c, ht, rfl, rfl, hc, hb⟩ := hrel
        have HB := Lib.hid hb
        have hcl : c ≤ 1307674368000 := by rw [hc]; exact Nat.le_trans (gq_le _ _ _) hfl
        have HC := Lib.hid hc
        clear hb hc
        by_cases h0 : 0 < t
        · obtain ⟨d, hd⟩ : ∃ d : Nat, (d : Int) = 2 * (3 - (t : Int)) - 1 := ⟨2 * (3 - t) - 1, by omega⟩
          have hne : ¬ (2 * (3 - (t : Int)) - 1 = 0) := by omega
          have HD := Lib.hid hd
          clear hd
          have h0i : (0 : Int) < (t : Int) := by omega
          go_wp2
          try rw [show decide (0 < (t : Int)) = true from decide_eq_true h0i]
          go_loopw [4, 32] (fun s4 s32 wi => ∃ j : Nat, j ≤ t ∧ s32 = .int .i64 (j : Int) ∧ s4 = .int .i64 ((c / d ^ j : Nat) : Int) ∧ Below w.heap.size w wi) (fun _ s32 _ => t - (intOf s32).toNat)
          case atStart => exact ⟨0, by omega, rfl, by simp, HB.out⟩
          case round =>
            obtain ⟨j, hj, rfl, rfl, hb⟩ := hrel
            have HB := Lib.hid hb
            clear hb
            by_cases hjt : j < t
            · have hdv := dv_step c d j
              rw [HD.out] at hdv
              have hq1 : c / d ^ j ≤ c := Nat.div_le_self _ _
              have hq2 : c / d ^ (j + 1) ≤ c := Nat.div_le_self _ _
              obtain ⟨u, hu⟩ : ∃ u, u = c / d ^ j := ⟨_, rfl⟩
              obtain ⟨v, hv⟩ : ∃ v, v = c / d ^ (j + 1) := ⟨_, rfl⟩
              rw [← hu, ← hv] at hdv
              rw [← hu] at hq1 ⊢
              rw [← hv] at hq2
              have HV := Lib.hid hv
              clear hu hv
              go_wp2
              go_roundw
              case rel => exact ⟨j + 1, by omega, by go_num, by rw [← HV.out], HB.out⟩
              case measure => simp [intOf]; omega
            · obtain rfl : j = t := by omega
              go_wp2
              go_roundw
              case rel =>
                refine ⟨j - 1, c / d ^ j, by omega, by go_num, rfl, ?_, HB.out⟩
                have e : 2 - (j - 1) = (2 - j) + 1 := by omega
                have e2 : 2 * (2 - j) + 1 = d := by have := HD.out; omega
                have e3 : 3 - 1 - (2 - j) = j := by omega
                rw [e]
                show _ = gq 3 F (2 - j) / (2 * (2 - j) + 1) ^ (3 - 1 - (2 - j))
                rw [e2, e3, ← HC.out]
              case measure => simp [intOf]; omega
        · obtain rfl : t = 0 := by omega
          go_wp2
          go_ret2
          exact ⟨by rw [HL.out, HC.out]; rfl, HB.out⟩

set_option maxRecDepth 100000 in
set_option maxHeartbeats 2000000 in
theorem iLg4 (w : World) : Calls Tryz.prog 39 #[.int .i64 4] w (RetNB (lgf 4 : Int) true w) := by
  have HL : Hid (lgf 4 = gq 4 (fct 6) 3) := by show _ = _; rfl
  obtain ⟨L, hL⟩ : ∃ L, L = lgf 4 := ⟨_, rfl⟩
  rw [← hL] at HL ⊢
  clear hL
  go_enter Tryz.func39, Tryz.ntmps39
  go_wp2
  go_loopw [4, 5] (fun s4 s5 wr => ∃ k : Nat, 1 ≤ k ∧ k ≤ 6 ∧ s5 = .int .i64 ((k : Int) + 1) ∧ s4 = .int .i64 ((fct k : Nat) : Int) ∧ Below w.heap.size w wr) (fun _ s5 _ => 17 - (intOf s5).toNat)
  case atStart => exact ⟨1, by omega, by omega, rfl, rfl, Below.refl _ _⟩
  case round =>
    obtain ⟨k, hk1, hk2, rfl, rfl, hb⟩ := hrel
    have HB := Lib.hid hb
    clear hb
    by_cases hlt : k < 6
    · have hf := fct_step k
      have hfl := fct_le (k + 1) (by omega)
      obtain ⟨c, hc⟩ : ∃ c, c = fct (k + 1) := ⟨_, rfl⟩
      obtain ⟨b, hb⟩ : ∃ b, b = fct k := ⟨_, rfl⟩
      rw [← hc] at hf hfl
      rw [← hb] at hf ⊢
      have HC := Lib.hid hc
      clear hc hb
      have hw : IntKind.i64.wrap (c : Int) = (c : Int) := IntWalk.i64_in _ (by omega)
      go_wp2
      go_roundw
      case rel => exact ⟨k + 1, by omega, by omega, by go_num, by rw [HC.out], HB.out⟩
      case measure => simp [intOf]; omega
    · obtain rfl : k = 6 := by omega
      have hfl := fct_le 6 (by omega)
      obtain ⟨F, hF⟩ : ∃ F, F = fct 6 := ⟨_, rfl⟩
      rw [← hF] at hfl HL ⊢
      clear hF
      go_wp2
      go_loopw [4, 6] (fun s4 s6 wr => ∃ t c : Nat, t ≤ 3 ∧ s6 = .int .i64 (t : Int) ∧ s4 = .int .i64 (c : Int) ∧ c = gq 4 F (3 - t) ∧ Below w.heap.size w wr) (fun _ s6 _ => (intOf s6).toNat)
      case atStart => exact ⟨3, F, by omega, rfl, rfl, rfl, HB.out⟩
      case round =>
        obtain ⟨t, c, ht, rfl, rfl, hc, hb⟩ := hrel
        have HB := Lib.hid hb
        have hcl : c ≤ 1307674368000 := by rw [hc]; exact Nat.le_trans (gq_le _ _ _) hfl
        have HC := Lib.hid hc
        clear hb hc
        by_cases h0 : 0 < t
        · obtain ⟨d, hd⟩ : ∃ d : Nat, (d : Int) = 2 * (4 - (t : Int)) - 1 := ⟨2 * (4 - t) - 1, by omega⟩
          have hne : ¬ (2 * (4 - (t : Int)) - 1 = 0) := by omega
          have HD := Lib.hid hd
          clear hd
          have h0i : (0 : Int) < (t : Int) := by omega
          go_wp2
          try rw [show decide (0 < (t : Int)) = true from decide_eq_true h0i]
          go_loopw [4, 32] (fun s4 s32 wi => ∃ j : Nat, j ≤ t ∧ s32 = .int .i64 (j : Int) ∧ s4 = .int .i64 ((c / d ^ j : Nat) : Int) ∧ Below w.heap.size w wi) (fun _ s32 _ => t - (intOf s32).toNat)
          case atStart => exact ⟨0, by omega, rfl, by simp, HB.out⟩
          case round =>
            obtain ⟨j, hj, rfl, rfl, hb⟩ := hrel
            have HB := Lib.hid hb
            clear hb
            by_cases hjt : j < t
            · have hdv := dv_step c d j
              rw [HD.out] at hdv
              have hq1 : c / d ^ j ≤ c := Nat.div_le_self _ _
              have hq2 : c / d ^ (j + 1) ≤ c := Nat.div_le_self _ _
              obtain ⟨u, hu⟩ : ∃ u, u = c / d ^ j := ⟨_, rfl⟩
              obtain ⟨v, hv⟩ : ∃ v, v = c / d ^ (j + 1) := ⟨_, rfl⟩
              rw [← hu, ← hv] at hdv
              rw [← hu] at hq1 ⊢
              rw [← hv] at hq2
              have HV := Lib.hid hv
              clear hu hv
              go_wp2
              go_roundw
              case rel => exact ⟨j + 1, by omega, by go_num, by rw [← HV.out], HB.out⟩
              case measure => simp [intOf]; omega
            · obtain rfl : j = t := by omega
              go_wp2
              go_roundw
              case rel =>
                refine ⟨j - 1, c / d ^ j, by omega, by go_num, rfl, ?_, HB.out⟩
                have e : 3 - (j - 1) = (3 - j) + 1 := by omega
                have e2 : 2 * (3 - j) + 1 = d := by have := HD.out; omega
                have e3 : 4 - 1 - (3 - j) = j := by omega
                rw [e]
                show _ = gq 4 F (3 - j) / (2 * (3 - j) + 1) ^ (4 - 1 - (3 - j))
                rw [e2, e3, ← HC.out]
              case measure => simp [intOf]; omega
        · obtain rfl : t = 0 := by omega
          go_wp2
          go_ret2
          exact ⟨by rw [HL.out, HC.out]; rfl, HB.out⟩

set_option maxRecDepth 100000 in
set_option maxHeartbeats 2000000 in
theorem iLg5 (w : World) : Calls Tryz.prog 39 #[.int .i64 5] w (RetNB (lgf 5 : Int) true w) := by
  have HL : Hid (lgf 5 = gq 5 (fct 10) 4) := by show _ = _; rfl
  obtain ⟨L, hL⟩ : ∃ L, L = lgf 5 := ⟨_, rfl⟩
  rw [← hL] at HL ⊢
  clear hL
  go_enter Tryz.func39, Tryz.ntmps39
  go_wp2
  go_loopw [4, 5] (fun s4 s5 wr => ∃ k : Nat, 1 ≤ k ∧ k ≤ 10 ∧ s5 = .int .i64 ((k : Int) + 1) ∧ s4 = .int .i64 ((fct k : Nat) : Int) ∧ Below w.heap.size w wr) (fun _ s5 _ => 17 - (intOf s5).toNat)
  case atStart => exact ⟨1, by omega, by omega, rfl, rfl, Below.refl _ _⟩
  case round =>
    obtain ⟨k, hk1, hk2, rfl, rfl, hb⟩ := hrel
    have HB := Lib.hid hb
    clear hb
    by_cases hlt : k < 10
    · have hf := fct_step k
      have hfl := fct_le (k + 1) (by omega)
      obtain ⟨c, hc⟩ : ∃ c, c = fct (k + 1) := ⟨_, rfl⟩
      obtain ⟨b, hb⟩ : ∃ b, b = fct k := ⟨_, rfl⟩
      rw [← hc] at hf hfl
      rw [← hb] at hf ⊢
      have HC := Lib.hid hc
      clear hc hb
      have hw : IntKind.i64.wrap (c : Int) = (c : Int) := IntWalk.i64_in _ (by omega)
      go_wp2
      go_roundw
      case rel => exact ⟨k + 1, by omega, by omega, by go_num, by rw [HC.out], HB.out⟩
      case measure => simp [intOf]; omega
    · obtain rfl : k = 10 := by omega
      have hfl := fct_le 10 (by omega)
      obtain ⟨F, hF⟩ : ∃ F, F = fct 10 := ⟨_, rfl⟩
      rw [← hF] at hfl HL ⊢
      clear hF
      go_wp2
      go_loopw [4, 6] (fun s4 s6 wr => ∃ t c : Nat, t ≤ 4 ∧ s6 = .int .i64 (t : Int) ∧ s4 = .int .i64 (c : Int) ∧ c = gq 5 F (4 - t) ∧ Below w.heap.size w wr) (fun _ s6 _ => (intOf s6).toNat)
      case atStart => exact ⟨4, F, by omega, rfl, rfl, rfl, HB.out⟩
      case round =>
        obtain ⟨t, c, ht, rfl, rfl, hc, hb⟩ := hrel
        have HB := Lib.hid hb
        have hcl : c ≤ 1307674368000 := by rw [hc]; exact Nat.le_trans (gq_le _ _ _) hfl
        have HC := Lib.hid hc
        clear hb hc
        by_cases h0 : 0 < t
        · obtain ⟨d, hd⟩ : ∃ d : Nat, (d : Int) = 2 * (5 - (t : Int)) - 1 := ⟨2 * (5 - t) - 1, by omega⟩
          have hne : ¬ (2 * (5 - (t : Int)) - 1 = 0) := by omega
          have HD := Lib.hid hd
          clear hd
          have h0i : (0 : Int) < (t : Int) := by omega
          go_wp2
          try rw [show decide (0 < (t : Int)) = true from decide_eq_true h0i]
          go_loopw [4, 32] (fun s4 s32 wi => ∃ j : Nat, j ≤ t ∧ s32 = .int .i64 (j : Int) ∧ s4 = .int .i64 ((c / d ^ j : Nat) : Int) ∧ Below w.heap.size w wi) (fun _ s32 _ => t - (intOf s32).toNat)
          case atStart => exact ⟨0, by omega, rfl, by simp, HB.out⟩
          case round =>
            obtain ⟨j, hj, rfl, rfl, hb⟩ := hrel
            have HB := Lib.hid hb
            clear hb
            by_cases hjt : j < t
            · have hdv := dv_step c d j
              rw [HD.out] at hdv
              have hq1 : c / d ^ j ≤ c := Nat.div_le_self _ _
              have hq2 : c / d ^ (j + 1) ≤ c := Nat.div_le_self _ _
              obtain ⟨u, hu⟩ : ∃ u, u = c / d ^ j := ⟨_, rfl⟩
              obtain ⟨v, hv⟩ : ∃ v, v = c / d ^ (j + 1) := ⟨_, rfl⟩
              rw [← hu, ← hv] at hdv
              rw [← hu] at hq1 ⊢
              rw [← hv] at hq2
              have HV := Lib.hid hv
              clear hu hv
              go_wp2
              go_roundw
              case rel => exact ⟨j + 1, by omega, by go_num, by rw [← HV.out], HB.out⟩
              case measure => simp [intOf]; omega
            · obtain rfl : j = t := by omega
              go_wp2
              go_roundw
              case rel =>
                refine ⟨j - 1, c / d ^ j, by omega, by go_num, rfl, ?_, HB.out⟩
                have e : 4 - (j - 1) = (4 - j) + 1 := by omega
                have e2 : 2 * (4 - j) + 1 = d := by have := HD.out; omega
                have e3 : 5 - 1 - (4 - j) = j := by omega
                rw [e]
                show _ = gq 5 F (4 - j) / (2 * (4 - j) + 1) ^ (5 - 1 - (4 - j))
                rw [e2, e3, ← HC.out]
              case measure => simp [intOf]; omega
        · obtain rfl : t = 0 := by omega
          go_wp2
          go_ret2
          exact ⟨by rw [HL.out, HC.out]; rfl, HB.out⟩

set_option maxRecDepth 100000 in
set_option maxHeartbeats 2000000 in
theorem iLg6 (w : World) : Calls Tryz.prog 39 #[.int .i64 6] w (RetNB (lgf 6 : Int) true w) := by
  have HL : Hid (lgf 6 = gq 6 (fct 15) 5) := by show _ = _; rfl
  obtain ⟨L, hL⟩ : ∃ L, L = lgf 6 := ⟨_, rfl⟩
  rw [← hL] at HL ⊢
  clear hL
  go_enter Tryz.func39, Tryz.ntmps39
  go_wp2
  go_loopw [4, 5] (fun s4 s5 wr => ∃ k : Nat, 1 ≤ k ∧ k ≤ 15 ∧ s5 = .int .i64 ((k : Int) + 1) ∧ s4 = .int .i64 ((fct k : Nat) : Int) ∧ Below w.heap.size w wr) (fun _ s5 _ => 17 - (intOf s5).toNat)
  case atStart => exact ⟨1, by omega, by omega, rfl, rfl, Below.refl _ _⟩
  case round =>
    obtain ⟨k, hk1, hk2, rfl, rfl, hb⟩ := hrel
    have HB := Lib.hid hb
    clear hb
    by_cases hlt : k < 15
    · have hf := fct_step k
      have hfl := fct_le (k + 1) (by omega)
      obtain ⟨c, hc⟩ : ∃ c, c = fct (k + 1) := ⟨_, rfl⟩
      obtain ⟨b, hb⟩ : ∃ b, b = fct k := ⟨_, rfl⟩
      rw [← hc] at hf hfl
      rw [← hb] at hf ⊢
      have HC := Lib.hid hc
      clear hc hb
      have hw : IntKind.i64.wrap (c : Int) = (c : Int) := IntWalk.i64_in _ (by omega)
      go_wp2
      go_roundw
      case rel => exact ⟨k + 1, by omega, by omega, by go_num, by rw [HC.out], HB.out⟩
      case measure => simp [intOf]; omega
    · obtain rfl : k = 15 := by omega
      have hfl := fct_le 15 (by omega)
      obtain ⟨F, hF⟩ : ∃ F, F = fct 15 := ⟨_, rfl⟩
      rw [← hF] at hfl HL ⊢
      clear hF
      go_wp2
      go_loopw [4, 6] (fun s4 s6 wr => ∃ t c : Nat, t ≤ 5 ∧ s6 = .int .i64 (t : Int) ∧ s4 = .int .i64 (c : Int) ∧ c = gq 6 F (5 - t) ∧ Below w.heap.size w wr) (fun _ s6 _ => (intOf s6).toNat)
      case atStart => exact ⟨5, F, by omega, rfl, rfl, rfl, HB.out⟩
      case round =>
        obtain ⟨t, c, ht, rfl, rfl, hc, hb⟩ := hrel
        have HB := Lib.hid hb
        have hcl : c ≤ 1307674368000 := by rw [hc]; exact Nat.le_trans (gq_le _ _ _) hfl
        have HC := Lib.hid hc
        clear hb hc
        by_cases h0 : 0 < t
        · obtain ⟨d, hd⟩ : ∃ d : Nat, (d : Int) = 2 * (6 - (t : Int)) - 1 := ⟨2 * (6 - t) - 1, by omega⟩
          have hne : ¬ (2 * (6 - (t : Int)) - 1 = 0) := by omega
          have HD := Lib.hid hd
          clear hd
          have h0i : (0 : Int) < (t : Int) := by omega
          go_wp2
          try rw [show decide (0 < (t : Int)) = true from decide_eq_true h0i]
          go_loopw [4, 32] (fun s4 s32 wi => ∃ j : Nat, j ≤ t ∧ s32 = .int .i64 (j : Int) ∧ s4 = .int .i64 ((c / d ^ j : Nat) : Int) ∧ Below w.heap.size w wi) (fun _ s32 _ => t - (intOf s32).toNat)
          case atStart => exact ⟨0, by omega, rfl, by simp, HB.out⟩
          case round =>
            obtain ⟨j, hj, rfl, rfl, hb⟩ := hrel
            have HB := Lib.hid hb
            clear hb
            by_cases hjt : j < t
            · have hdv := dv_step c d j
              rw [HD.out] at hdv
              have hq1 : c / d ^ j ≤ c := Nat.div_le_self _ _
              have hq2 : c / d ^ (j + 1) ≤ c := Nat.div_le_self _ _
              obtain ⟨u, hu⟩ : ∃ u, u = c / d ^ j := ⟨_, rfl⟩
              obtain ⟨v, hv⟩ : ∃ v, v = c / d ^ (j + 1) := ⟨_, rfl⟩
              rw [← hu, ← hv] at hdv
              rw [← hu] at hq1 ⊢
              rw [← hv] at hq2
              have HV := Lib.hid hv
              clear hu hv
              go_wp2
              go_roundw
              case rel => exact ⟨j + 1, by omega, by go_num, by rw [← HV.out], HB.out⟩
              case measure => simp [intOf]; omega
            · obtain rfl : j = t := by omega
              go_wp2
              go_roundw
              case rel =>
                refine ⟨j - 1, c / d ^ j, by omega, by go_num, rfl, ?_, HB.out⟩
                have e : 5 - (j - 1) = (5 - j) + 1 := by omega
                have e2 : 2 * (5 - j) + 1 = d := by have := HD.out; omega
                have e3 : 6 - 1 - (5 - j) = j := by omega
                rw [e]
                show _ = gq 6 F (5 - j) / (2 * (5 - j) + 1) ^ (6 - 1 - (5 - j))
                rw [e2, e3, ← HC.out]
              case measure => simp [intOf]; omega
        · obtain rfl : t = 0 := by omega
          go_wp2
          go_ret2
          exact ⟨by rw [HL.out, HC.out]; rfl, HB.out⟩

set_option maxRecDepth 100000 in
set_option maxHeartbeats 2000000 in
theorem sLg2 (w : World) : Calls Tryz.prog 40 #[.int .i64 2] w (RetNB (lgf 2 : Int) true w) := by
  have HL : Hid (lgf 2 = gq 2 (fct 1) 1) := by show _ = _; rfl
  obtain ⟨L, hL⟩ : ∃ L, L = lgf 2 := ⟨_, rfl⟩
  rw [← hL] at HL ⊢
  clear hL
  go_enter Tryz.func40, Tryz.ntmps40
  go_wp2_with fail
  refine (l1In_any 2 2 6 _).mono ?_
  rw [show inB 2 2 6 = true by decide]
  rintro e w1 ⟨rfl, rfl⟩
  go_wp2
  go_loopw [4, 5] (fun s4 s5 wr => ∃ k : Nat, 1 ≤ k ∧ k ≤ 1 ∧ s5 = .int .i64 ((k : Int) + 1) ∧ s4 = .int .i64 ((fct k : Nat) : Int) ∧ Below w.heap.size w wr) (fun _ s5 _ => 17 - (intOf s5).toNat)
  case atStart => exact ⟨1, by omega, by omega, rfl, rfl, Below.refl _ _⟩
  case round =>
    obtain ⟨k, hk1, hk2, rfl, rfl, hb⟩ := hrel
    have HB := Lib.hid hb
    clear hb
    by_cases hlt : k < 1
    · exact absurd hlt (by omega)
    · obtain rfl : k = 1 := by omega
      have hfl := fct_le 1 (by omega)
      obtain ⟨F, hF⟩ : ∃ F, F = fct 1 := ⟨_, rfl⟩
      rw [← hF] at hfl HL ⊢
      clear hF
      go_wp2
      go_loopw [4, 6, 7] (fun s4 s6 _ wr => ∃ p c : Nat, 1 ≤ p ∧ p ≤ 2 ∧ s6 = .int .i64 (p : Int) ∧ s4 = .int .i64 (c : Int) ∧ c = gq 2 F (p - 1) ∧ Below w.heap.size w wr) (fun _ s6 _ _ => 2 - (intOf s6).toNat)
      case atStart => exact ⟨1, F, by omega, by omega, rfl, rfl, rfl, HB.out⟩
      case round =>
        obtain ⟨p, c, hp1, hp2, rfl, rfl, hc, hb⟩ := hrel
        have HB := Lib.hid hb
        have hcl : c ≤ 1307674368000 := by rw [hc]; exact Nat.le_trans (gq_le _ _ _) hfl
        have HC := Lib.hid hc
        clear hb hc
        by_cases h0 : p < 2
        · obtain ⟨d, hd⟩ : ∃ d : Nat, (d : Int) = 2 * (p : Int) - 1 := ⟨2 * p - 1, by omega⟩
          have hne : ¬ (2 * (p : Int) - 1 = 0) := by omega
          have HD := Lib.hid hd
          clear hd
          have h0i : (p : Int) < 2 := by omega
          go_wp2
          try rw [show decide ((p : Int) < 2) = true from decide_eq_true h0i]
          go_loopw [4, 7] (fun s4 s7 wi => ∃ j : Nat, j + p ≤ 2 ∧ s7 = .int .i64 (j : Int) ∧ s4 = .int .i64 ((c / d ^ j : Nat) : Int) ∧ Below w.heap.size w wi) (fun _ s7 _ => 2 - (intOf s7).toNat)
          case atStart => exact ⟨0, by omega, rfl, by simp, HB.out⟩
          case round =>
            obtain ⟨j, hj, rfl, rfl, hb⟩ := hrel
            have HB := Lib.hid hb
            clear hb
            by_cases hjt : j + p < 2
            · have hdv := dv_step c d j
              rw [HD.out] at hdv
              have hq1 : c / d ^ j ≤ c := Nat.div_le_self _ _
              have hq2 : c / d ^ (j + 1) ≤ c := Nat.div_le_self _ _
              obtain ⟨u, hu⟩ : ∃ u, u = c / d ^ j := ⟨_, rfl⟩
              obtain ⟨v, hv⟩ : ∃ v, v = c / d ^ (j + 1) := ⟨_, rfl⟩
              rw [← hu, ← hv] at hdv
              rw [← hu] at hq1 ⊢
              rw [← hv] at hq2
              have HV := Lib.hid hv
              clear hu hv
              go_wp2
              go_roundw
              case rel => exact ⟨j + 1, by omega, by go_num, by rw [← HV.out], HB.out⟩
              case measure => simp [intOf]; omega
            · have hj2 : j + p = 2 := by omega
              have HJ := Lib.hid hj2
              clear hj2
              go_wp2
              go_roundw
              case rel =>
                refine ⟨p + 1, c / d ^ j, by omega, by omega, by go_num, rfl, ?_, HB.out⟩
                have e : p + 1 - 1 = (p - 1) + 1 := by omega
                have e2 : 2 * (p - 1) + 1 = d := by have := HD.out; omega
                have e3 : 2 - 1 - (p - 1) = j := by have := HJ.out; omega
                rw [e]
                show _ = gq 2 F (p - 1) / (2 * (p - 1) + 1) ^ (2 - 1 - (p - 1))
                rw [e2, e3, ← HC.out]
              case measure => simp [intOf]; omega
        · obtain rfl : p = 2 := by omega
          go_wp2
          go_ret2
          exact ⟨by rw [HL.out, HC.out]; rfl, HB.out⟩

set_option maxRecDepth 100000 in
set_option maxHeartbeats 2000000 in
theorem sLg3 (w : World) : Calls Tryz.prog 40 #[.int .i64 3] w (RetNB (lgf 3 : Int) true w) := by
  have HL : Hid (lgf 3 = gq 3 (fct 3) 2) := by show _ = _; rfl
  obtain ⟨L, hL⟩ : ∃ L, L = lgf 3 := ⟨_, rfl⟩
  rw [← hL] at HL ⊢
  clear hL
  go_enter Tryz.func40, Tryz.ntmps40
  go_wp2_with fail
  refine (l1In_any 3 2 6 _).mono ?_
  rw [show inB 3 2 6 = true by decide]
  rintro e w1 ⟨rfl, rfl⟩
  go_wp2
  go_loopw [4, 5] (fun s4 s5 wr => ∃ k : Nat, 1 ≤ k ∧ k ≤ 3 ∧ s5 = .int .i64 ((k : Int) + 1) ∧ s4 = .int .i64 ((fct k : Nat) : Int) ∧ Below w.heap.size w wr) (fun _ s5 _ => 17 - (intOf s5).toNat)
  case atStart => exact ⟨1, by omega, by omega, rfl, rfl, Below.refl _ _⟩
  case round =>
    obtain ⟨k, hk1, hk2, rfl, rfl, hb⟩ := hrel
    have HB := Lib.hid hb
    clear hb
    by_cases hlt : k < 3
    · have hf := fct_step k
      have hfl := fct_le (k + 1) (by omega)
      obtain ⟨c, hc⟩ : ∃ c, c = fct (k + 1) := ⟨_, rfl⟩
      obtain ⟨b, hb⟩ : ∃ b, b = fct k := ⟨_, rfl⟩
      rw [← hc] at hf hfl
      rw [← hb] at hf ⊢
      have HC := Lib.hid hc
      clear hc hb
      have hw : IntKind.i64.wrap (c : Int) = (c : Int) := IntWalk.i64_in _ (by omega)
      go_wp2
      go_roundw
      case rel => exact ⟨k + 1, by omega, by omega, by go_num, by rw [HC.out], HB.out⟩
      case measure => simp [intOf]; omega
    · obtain rfl : k = 3 := by omega
      have hfl := fct_le 3 (by omega)
      obtain ⟨F, hF⟩ : ∃ F, F = fct 3 := ⟨_, rfl⟩
      rw [← hF] at hfl HL ⊢
      clear hF
      go_wp2
      go_loopw [4, 6, 7] (fun s4 s6 _ wr => ∃ p c : Nat, 1 ≤ p ∧ p ≤ 3 ∧ s6 = .int .i64 (p : Int) ∧ s4 = .int .i64 (c : Int) ∧ c = gq 3 F (p - 1) ∧ Below w.heap.size w wr) (fun _ s6 _ _ => 3 - (intOf s6).toNat)
      case atStart => exact ⟨1, F, by omega, by omega, rfl, rfl, rfl, HB.out⟩
      case round =>
        obtain ⟨p, c, hp1, hp2, rfl, rfl, hc, hb⟩ := hrel
        have HB := Lib.hid hb
        have hcl : c ≤ 1307674368000 := by rw [hc]; exact Nat.le_trans (gq_le _ _ _) hfl
        have HC := Lib.hid hc
        clear hb hc
        by_cases h0 : p < 3
        · obtain ⟨d, hd⟩ : ∃ d : Nat, (d : Int) = 2 * (p : Int) - 1 := ⟨2 * p - 1, by omega⟩
          have hne : ¬ (2 * (p : Int) - 1 = 0) := by omega
          have HD := Lib.hid hd
          clear hd
          have h0i : (p : Int) < 3 := by omega
          go_wp2
          try rw [show decide ((p : Int) < 3) = true from decide_eq_true h0i]
          go_loopw [4, 7] (fun s4 s7 wi => ∃ j : Nat, j + p ≤ 3 ∧ s7 = .int .i64 (j : Int) ∧ s4 = .int .i64 ((c / d ^ j : Nat) : Int) ∧ Below w.heap.size w wi) (fun _ s7 _ => 3 - (intOf s7).toNat)
          case atStart => exact ⟨0, by omega, rfl, by simp, HB.out⟩
          case round =>
            obtain ⟨j, hj, rfl, rfl, hb⟩ := hrel
            have HB := Lib.hid hb
            clear hb
            by_cases hjt : j + p < 3
            · have hdv := dv_step c d j
              rw [HD.out] at hdv
              have hq1 : c / d ^ j ≤ c := Nat.div_le_self _ _
              have hq2 : c / d ^ (j + 1) ≤ c := Nat.div_le_self _ _
              obtain ⟨u, hu⟩ : ∃ u, u = c / d ^ j := ⟨_, rfl⟩
              obtain ⟨v, hv⟩ : ∃ v, v = c / d ^ (j + 1) := ⟨_, rfl⟩
              rw [← hu, ← hv] at hdv
              rw [← hu] at hq1 ⊢
              rw [← hv] at hq2
              have HV := Lib.hid hv
              clear hu hv
              go_wp2
              go_roundw
              case rel => exact ⟨j + 1, by omega, by go_num, by rw [← HV.out], HB.out⟩
              case measure => simp [intOf]; omega
            · have hj2 : j + p = 3 := by omega
              have HJ := Lib.hid hj2
              clear hj2
              go_wp2
              go_roundw
              case rel =>
                refine ⟨p + 1, c / d ^ j, by omega, by omega, by go_num, rfl, ?_, HB.out⟩
                have e : p + 1 - 1 = (p - 1) + 1 := by omega
                have e2 : 2 * (p - 1) + 1 = d := by have := HD.out; omega
                have e3 : 3 - 1 - (p - 1) = j := by have := HJ.out; omega
                rw [e]
                show _ = gq 3 F (p - 1) / (2 * (p - 1) + 1) ^ (3 - 1 - (p - 1))
                rw [e2, e3, ← HC.out]
              case measure => simp [intOf]; omega
        · obtain rfl : p = 3 := by omega
          go_wp2
          go_ret2
          exact ⟨by rw [HL.out, HC.out]; rfl, HB.out⟩

set_option maxRecDepth 100000 in
set_option maxHeartbeats 2000000 in
theorem sLg4 (w : World) : Calls Tryz.prog 40 #[.int .i64 4] w (RetNB (lgf 4 : Int) true w) := by
  have HL : Hid (lgf 4 = gq 4 (fct 6) 3) := by show _ = _; rfl
  obtain ⟨L, hL⟩ : ∃ L, L = lgf 4 := ⟨_, rfl⟩
  rw [← hL] at HL ⊢
  clear hL
  go_enter Tryz.func40, Tryz.ntmps40
  go_wp2_with fail
  refine (l1In_any 4 2 6 _).mono ?_
  rw [show inB 4 2 6 = true by decide]
  rintro e w1 ⟨rfl, rfl⟩
  go_wp2
  go_loopw [4, 5] (fun s4 s5 wr => ∃ k : Nat, 1 ≤ k ∧ k ≤ 6 ∧ s5 = .int .i64 ((k : Int) + 1) ∧ s4 = .int .i64 ((fct k : Nat) : Int) ∧ Below w.heap.size w wr) (fun _ s5 _ => 17 - (intOf s5).toNat)
  case atStart => exact ⟨1, by omega, by omega, rfl, rfl, Below.refl _ _⟩
  case round =>
    obtain ⟨k, hk1, hk2, rfl, rfl, hb⟩ := hrel
    have HB := Lib.hid hb
    clear hb
    by_cases hlt : k < 6
    · have hf := fct_step k
      have hfl := fct_le (k + 1) (by omega)
      obtain ⟨c, hc⟩ : ∃ c, c = fct (k + 1) := ⟨_, rfl⟩
      obtain ⟨b, hb⟩ : ∃ b, b = fct k := ⟨_, rfl⟩
      rw [← hc] at hf hfl
      rw [← hb] at hf ⊢
      have HC := Lib.hid hc
      clear hc hb
      have hw : IntKind.i64.wrap (c : Int) = (c : Int) := IntWalk.i64_in _ (by omega)
      go_wp2
      go_roundw
      case rel => exact ⟨k + 1, by omega, by omega, by go_num, by rw [HC.out], HB.out⟩
      case measure => simp [intOf]; omega
    · obtain rfl : k = 6 := by omega
      have hfl := fct_le 6 (by omega)
      obtain ⟨F, hF⟩ : ∃ F, F = fct 6 := ⟨_, rfl⟩
      rw [← hF] at hfl HL ⊢
      clear hF
      go_wp2
      go_loopw [4, 6, 7] (fun s4 s6 _ wr => ∃ p c : Nat, 1 ≤ p ∧ p ≤ 4 ∧ s6 = .int .i64 (p : Int) ∧ s4 = .int .i64 (c : Int) ∧ c = gq 4 F (p - 1) ∧ Below w.heap.size w wr) (fun _ s6 _ _ => 4 - (intOf s6).toNat)
      case atStart => exact ⟨1, F, by omega, by omega, rfl, rfl, rfl, HB.out⟩
      case round =>
        obtain ⟨p, c, hp1, hp2, rfl, rfl, hc, hb⟩ := hrel
        have HB := Lib.hid hb
        have hcl : c ≤ 1307674368000 := by rw [hc]; exact Nat.le_trans (gq_le _ _ _) hfl
        have HC := Lib.hid hc
        clear hb hc
        by_cases h0 : p < 4
        · obtain ⟨d, hd⟩ : ∃ d : Nat, (d : Int) = 2 * (p : Int) - 1 := ⟨2 * p - 1, by omega⟩
          have hne : ¬ (2 * (p : Int) - 1 = 0) := by omega
          have HD := Lib.hid hd
          clear hd
          have h0i : (p : Int) < 4 := by omega
          go_wp2
          try rw [show decide ((p : Int) < 4) = true from decide_eq_true h0i]
          go_loopw [4, 7] (fun s4 s7 wi => ∃ j : Nat, j + p ≤ 4 ∧ s7 = .int .i64 (j : Int) ∧ s4 = .int .i64 ((c / d ^ j : Nat) : Int) ∧ Below w.heap.size w wi) (fun _ s7 _ => 4 - (intOf s7).toNat)
          case atStart => exact ⟨0, by omega, rfl, by simp, HB.out⟩
          case round =>
            obtain ⟨j, hj, rfl, rfl, hb⟩ := hrel
            have HB := Lib.hid hb
            clear hb
            by_cases hjt : j + p < 4
            · have hdv := dv_step c d j
              rw [HD.out] at hdv
              have hq1 : c / d ^ j ≤ c := Nat.div_le_self _ _
              have hq2 : c / d ^ (j + 1) ≤ c := Nat.div_le_self _ _
              obtain ⟨u, hu⟩ : ∃ u, u = c / d ^ j := ⟨_, rfl⟩
              obtain ⟨v, hv⟩ : ∃ v, v = c / d ^ (j + 1) := ⟨_, rfl⟩
              rw [← hu, ← hv] at hdv
              rw [← hu] at hq1 ⊢
              rw [← hv] at hq2
              have HV := Lib.hid hv
              clear hu hv
              go_wp2
              go_roundw
              case rel => exact ⟨j + 1, by omega, by go_num, by rw [← HV.out], HB.out⟩
              case measure => simp [intOf]; omega
            · have hj2 : j + p = 4 := by omega
              have HJ := Lib.hid hj2
              clear hj2
              go_wp2
              go_roundw
              case rel =>
                refine ⟨p + 1, c / d ^ j, by omega, by omega, by go_num, rfl, ?_, HB.out⟩
                have e : p + 1 - 1 = (p - 1) + 1 := by omega
                have e2 : 2 * (p - 1) + 1 = d := by have := HD.out; omega
                have e3 : 4 - 1 - (p - 1) = j := by have := HJ.out; omega
                rw [e]
                show _ = gq 4 F (p - 1) / (2 * (p - 1) + 1) ^ (4 - 1 - (p - 1))
                rw [e2, e3, ← HC.out]
              case measure => simp [intOf]; omega
        · obtain rfl : p = 4 := by omega
          go_wp2
          go_ret2
          exact ⟨by rw [HL.out, HC.out]; rfl, HB.out⟩

set_option maxRecDepth 100000 in
set_option maxHeartbeats 2000000 in
theorem sLg5 (w : World) : Calls Tryz.prog 40 #[.int .i64 5] w (RetNB (lgf 5 : Int) true w) := by
  have HL : Hid (lgf 5 = gq 5 (fct 10) 4) := by show _ = _; rfl
  obtain ⟨L, hL⟩ : ∃ L, L = lgf 5 := ⟨_, rfl⟩
  rw [← hL] at HL ⊢
  clear hL
  go_enter Tryz.func40, Tryz.ntmps40
  go_wp2_with fail
  refine (l1In_any 5 2 6 _).mono ?_
  rw [show inB 5 2 6 = true by decide]
  rintro e w1 ⟨rfl, rfl⟩
  go_wp2
  go_loopw [4, 5] (fun s4 s5 wr => ∃ k : Nat, 1 ≤ k ∧ k ≤ 10 ∧ s5 = .int .i64 ((k : Int) + 1) ∧ s4 = .int .i64 ((fct k : Nat) : Int) ∧ Below w.heap.size w wr) (fun _ s5 _ => 17 - (intOf s5).toNat)
  case atStart => exact ⟨1, by omega, by omega, rfl, rfl, Below.refl _ _⟩
  case round =>
    obtain ⟨k, hk1, hk2, rfl, rfl, hb⟩ := hrel
    have HB := Lib.hid hb
    clear hb
    by_cases hlt : k < 10
    · have hf := fct_step k
      have hfl := fct_le (k + 1) (by omega)
      obtain ⟨c, hc⟩ : ∃ c, c = fct (k + 1) := ⟨_, rfl⟩
      obtain ⟨b, hb⟩ : ∃ b, b = fct k := ⟨_, rfl⟩
      rw [← hc] at hf hfl
      rw [← hb] at hf ⊢
      have HC := Lib.hid hc
      clear hc hb
      have hw : IntKind.i64.wrap (c : Int) = (c : Int) := IntWalk.i64_in _ (by omega)
      go_wp2
      go_roundw
      case rel => exact ⟨k + 1, by omega, by omega, by go_num, by rw [HC.out], HB.out⟩
      case measure => simp [intOf]; omega
    · obtain rfl : k = 10 := by omega
      have hfl := fct_le 10 (by omega)
      obtain ⟨F, hF⟩ : ∃ F, F = fct 10 := ⟨_, rfl⟩
      rw [← hF] at hfl HL ⊢
      clear hF
      go_wp2
      go_loopw [4, 6, 7] (fun s4 s6 _ wr => ∃ p c : Nat, 1 ≤ p ∧ p ≤ 5 ∧ s6 = .int .i64 (p : Int) ∧ s4 = .int .i64 (c : Int) ∧ c = gq 5 F (p - 1) ∧ Below w.heap.size w wr) (fun _ s6 _ _ => 5 - (intOf s6).toNat)
      case atStart => exact ⟨1, F, by omega, by omega, rfl, rfl, rfl, HB.out⟩
      case round =>
        obtain ⟨p, c, hp1, hp2, rfl, rfl, hc, hb⟩ := hrel
        have HB := Lib.hid hb
        have hcl : c ≤ 1307674368000 := by rw [hc]; exact Nat.le_trans (gq_le _ _ _) hfl
        have HC := Lib.hid hc
        clear hb hc
        by_cases h0 : p < 5
        · obtain ⟨d, hd⟩ : ∃ d : Nat, (d : Int) = 2 * (p : Int) - 1 := ⟨2 * p - 1, by omega⟩
          have hne : ¬ (2 * (p : Int) - 1 = 0) := by omega
          have HD := Lib.hid hd
          clear hd
          have h0i : (p : Int) < 5 := by omega
          go_wp2
          try rw [show decide ((p : Int) < 5) = true from decide_eq_true h0i]
          go_loopw [4, 7] (fun s4 s7 wi => ∃ j : Nat, j + p ≤ 5 ∧ s7 = .int .i64 (j : Int) ∧ s4 = .int .i64 ((c / d ^ j : Nat) : Int) ∧ Below w.heap.size w wi) (fun _ s7 _ => 5 - (intOf s7).toNat)
          case atStart => exact ⟨0, by omega, rfl, by simp, HB.out⟩
          case round =>
            obtain ⟨j, hj, rfl, rfl, hb⟩ := hrel
            have HB := Lib.hid hb
            clear hb
            by_cases hjt : j + p < 5
            · have hdv := dv_step c d j
              rw [HD.out] at hdv
              have hq1 : c / d ^ j ≤ c := Nat.div_le_self _ _
              have hq2 : c / d ^ (j + 1) ≤ c := Nat.div_le_self _ _
              obtain ⟨u, hu⟩ : ∃ u, u = c / d ^ j := ⟨_, rfl⟩
              obtain ⟨v, hv⟩ : ∃ v, v = c / d ^ (j + 1) := ⟨_, rfl⟩
              rw [← hu, ← hv] at hdv
              rw [← hu] at hq1 ⊢
              rw [← hv] at hq2
              have HV := Lib.hid hv
              clear hu hv
              go_wp2
              go_roundw
              case rel => exact ⟨j + 1, by omega, by go_num, by rw [← HV.out], HB.out⟩
              case measure => simp [intOf]; omega
            · have hj2 : j + p = 5 := by omega
              have HJ := Lib.hid hj2
              clear hj2
              go_wp2
              go_roundw
              case rel =>
                refine ⟨p + 1, c / d ^ j, by omega, by omega, by go_num, rfl, ?_, HB.out⟩
                have e : p + 1 - 1 = (p - 1) + 1 := by omega
                have e2 : 2 * (p - 1) + 1 = d := by have := HD.out; omega
                have e3 : 5 - 1 - (p - 1) = j := by have := HJ.out; omega
                rw [e]
                show _ = gq 5 F (p - 1) / (2 * (p - 1) + 1) ^ (5 - 1 - (p - 1))
                rw [e2, e3, ← HC.out]
              case measure => simp [intOf]; omega
        · obtain rfl : p = 5 := by omega
          go_wp2
          go_ret2
          exact ⟨by rw [HL.out, HC.out]; rfl, HB.out⟩

set_option maxRecDepth 100000 in
set_option maxHeartbeats 2000000 in
theorem sLg6 (w : World) : Calls Tryz.prog 40 #[.int .i64 6] w (RetNB (lgf 6 : Int) true w) := by
  have HL : Hid (lgf 6 = gq 6 (fct 15) 5) := by show _ = _; rfl
  obtain ⟨L, hL⟩ : ∃ L, L = lgf 6 := ⟨_, rfl⟩
  rw [← hL] at HL ⊢
  clear hL
  go_enter Tryz.func40, Tryz.ntmps40
  go_wp2_with fail
  refine (l1In_any 6 2 6 _).mono ?_
  rw [show inB 6 2 6 = true by decide]
  rintro e w1 ⟨rfl, rfl⟩
  go_wp2
  go_loopw [4, 5] (fun s4 s5 wr => ∃ k : Nat, 1 ≤ k ∧ k ≤ 15 ∧ s5 = .int .i64 ((k : Int) + 1) ∧ s4 = .int .i64 ((fct k : Nat) : Int) ∧ Below w.heap.size w wr) (fun _ s5 _ => 17 - (intOf s5).toNat)
  case atStart => exact ⟨1, by omega, by omega, rfl, rfl, Below.refl _ _⟩
  case round =>
    obtain ⟨k, hk1, hk2, rfl, rfl, hb⟩ := hrel
    have HB := Lib.hid hb
    clear hb
    by_cases hlt : k < 15
    · have hf := fct_step k
      have hfl := fct_le (k + 1) (by omega)
      obtain ⟨c, hc⟩ : ∃ c, c = fct (k + 1) := ⟨_, rfl⟩
      obtain ⟨b, hb⟩ : ∃ b, b = fct k := ⟨_, rfl⟩
      rw [← hc] at hf hfl
      rw [← hb] at hf ⊢
      have HC := Lib.hid hc
      clear hc hb
      have hw : IntKind.i64.wrap (c : Int) = (c : Int) := IntWalk.i64_in _ (by omega)
      go_wp2
      go_roundw
      case rel => exact ⟨k + 1, by omega, by omega, by go_num, by rw [HC.out], HB.out⟩
      case measure => simp [intOf]; omega
    · obtain rfl : k = 15 := by omega
      have hfl := fct_le 15 (by omega)
      obtain ⟨F, hF⟩ : ∃ F, F = fct 15 := ⟨_, rfl⟩
      rw [← hF] at hfl HL ⊢
      clear hF
      go_wp2
      go_loopw [4, 6, 7] (fun s4 s6 _ wr => ∃ p c : Nat, 1 ≤ p ∧ p ≤ 6 ∧ s6 = .int .i64 (p : Int) ∧ s4 = .int .i64 (c : Int) ∧ c = gq 6 F (p - 1) ∧ Below w.heap.size w wr) (fun _ s6 _ _ => 6 - (intOf s6).toNat)
      case atStart => exact ⟨1, F, by omega, by omega, rfl, rfl, rfl, HB.out⟩
      case round =>
        obtain ⟨p, c, hp1, hp2, rfl, rfl, hc, hb⟩ := hrel
        have HB := Lib.hid hb
        have hcl : c ≤ 1307674368000 := by rw [hc]; exact Nat.le_trans (gq_le _ _ _) hfl
        have HC := Lib.hid hc
        clear hb hc
        by_cases h0 : p < 6
        · obtain ⟨d, hd⟩ : ∃ d : Nat, (d : Int) = 2 * (p : Int) - 1 := ⟨2 * p - 1, by omega⟩
          have hne : ¬ (2 * (p : Int) - 1 = 0) := by omega
          have HD := Lib.hid hd
          clear hd
          have h0i : (p : Int) < 6 := by omega
          go_wp2
          try rw [show decide ((p : Int) < 6) = true from decide_eq_true h0i]
          go_loopw [4, 7] (fun s4 s7 wi => ∃ j : Nat, j + p ≤ 6 ∧ s7 = .int .i64 (j : Int) ∧ s4 = .int .i64 ((c / d ^ j : Nat) : Int) ∧ Below w.heap.size w wi) (fun _ s7 _ => 6 - (intOf s7).toNat)
          case atStart => exact ⟨0, by omega, rfl, by simp, HB.out⟩
          case round =>
            obtain ⟨j, hj, rfl, rfl, hb⟩ := hrel
            have HB := Lib.hid hb
            clear hb
            by_cases hjt : j + p < 6
            · have hdv := dv_step c d j
              rw [HD.out] at hdv
              have hq1 : c / d ^ j ≤ c := Nat.div_le_self _ _
              have hq2 : c / d ^ (j + 1) ≤ c := Nat.div_le_self _ _
              obtain ⟨u, hu⟩ : ∃ u, u = c / d ^ j := ⟨_, rfl⟩
              obtain ⟨v, hv⟩ : ∃ v, v = c / d ^ (j + 1) := ⟨_, rfl⟩
              rw [← hu, ← hv] at hdv
              rw [← hu] at hq1 ⊢
              rw [← hv] at hq2
              have HV := Lib.hid hv
              clear hu hv
              go_wp2
              go_roundw
              case rel => exact ⟨j + 1, by omega, by go_num, by rw [← HV.out], HB.out⟩
              case measure => simp [intOf]; omega
            · have hj2 : j + p = 6 := by omega
              have HJ := Lib.hid hj2
              clear hj2
              go_wp2
              go_roundw
              case rel =>
                refine ⟨p + 1, c / d ^ j, by omega, by omega, by go_num, rfl, ?_, HB.out⟩
                have e : p + 1 - 1 = (p - 1) + 1 := by omega
                have e2 : 2 * (p - 1) + 1 = d := by have := HD.out; omega
                have e3 : 6 - 1 - (p - 1) = j := by have := HJ.out; omega
                rw [e]
                show _ = gq 6 F (p - 1) / (2 * (p - 1) + 1) ^ (6 - 1 - (p - 1))
                rw [e2, e3, ← HC.out]
              case measure => simp [intOf]; omega
        · obtain rfl : p = 6 := by omega
          go_wp2
          go_ret2
          exact ⟨by rw [HL.out, HC.out]; rfl, HB.out⟩

set_option maxHeartbeats 1000000 in
theorem iLongestByFormula_any (x : Int) (w : World) (lo : -9223372036854775808 ≤ x) (hi : x ≤ 9223372036854775807) :
    Calls Tryz.prog 39 #[.int .i64 x] w (RetNB (lgN x) (lgQ x) w) := by
  by_cases hx : 2 ≤ x ∧ x ≤ 6
  · have h1 : lgN x = (lgf x.toNat : Int) := if_pos hx
    have h2 : lgQ x = true := decide_eq_true hx
    rw [h1, h2]
    obtain rfl | rfl | rfl | rfl | rfl : x = 2 ∨ x = 3 ∨ x = 4 ∨ x = 5 ∨ x = 6 := by omega
    · exact iLg2 w
    · exact iLg3 w
    · exact iLg4 w
    · exact iLg5 w
    · exact iLg6 w
  · have h1 : lgN x = 0 := if_neg hx
    have h2 : lgQ x = false := decide_eq_false hx
    rw [h1, h2]
    clear h1 h2
    by_cases h2 : x < 2
    · go_enter Tryz.func39, Tryz.ntmps39
      go_wp2
      go_ret2
      exact ⟨rfl, Below.refl _ _⟩
    · have h6 : 6 < x := by omega
      go_enter Tryz.func39, Tryz.ntmps39
      go_wp2
      go_ret2
      exact ⟨rfl, Below.refl _ _⟩

set_option maxHeartbeats 1000000 in
theorem sLongestByFormula_any (x : Int) (w : World) (lo : -9223372036854775808 ≤ x) (hi : x ≤ 9223372036854775807) :
    Calls Tryz.prog 40 #[.int .i64 x] w (RetNB (lgN x) (lgQ x) w) := by
  by_cases hx : 2 ≤ x ∧ x ≤ 6
  · have h1 : lgN x = (lgf x.toNat : Int) := if_pos hx
    have h2 : lgQ x = true := decide_eq_true hx
    rw [h1, h2]
    obtain rfl | rfl | rfl | rfl | rfl : x = 2 ∨ x = 3 ∨ x = 4 ∨ x = 5 ∨ x = 6 := by omega
    · exact sLg2 w
    · exact sLg3 w
    · exact sLg4 w
    · exact sLg5 w
    · exact sLg6 w
  · have h1 : lgN x = 0 := if_neg hx
    have h2 : lgQ x = false := decide_eq_false hx
    rw [h1, h2]
    clear h1 h2
    have HX := Lib.hid (show inB x 2 6 = false from (by unfold inB; exact decide_eq_false hx))
    clear hx
    go_enter Tryz.func40, Tryz.ntmps40
    go_wp2_with fail
    refine (l1In_any x 2 6 _).mono ?_
    rw [HX.out]
    rintro e w1 ⟨rfl, rfl⟩
    go_wp2
    go_ret2
    exact ⟨rfl, Below.refl _ _⟩
end Go.Proofs.YtgeeifjbfceogaaGreatDoor
