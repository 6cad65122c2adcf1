/- All lists of noughts and ones are sorted just where the falling order is: the model's test. -/
import Derived.Test.YtbfilmdociemmaaSo12
namespace Go.Proofs.Ytbfilmdociemmaa
open Go Go.RowKit

theorem bitsL_snoc (n N b : Nat) (hb : b ≤ 1) : bitsL (n + 1) (2 * N + b) = bitsL n N ++ [(b : Int)] := by
  refine gi_ext (by simp [bitsL_length]) fun j hj => ?_
  rw [bitsL_length] at hj
  rw [gi_bitsL _ _ _ hj]
  by_cases e : j = n
  · subst e
    have : gi (bitsL j N ++ [(b : Int)]) j = (b : Int) := by
      rw [gi_lt (by simp [bitsL_length])]
      simp [bitsL_length]
    rw [this, show j + 1 - 1 - j = 0 by omega, Nat.pow_zero, Nat.div_one]
    omega
  · have hjn : j < n := by omega
    have : gi (bitsL n N ++ [(b : Int)]) j = gi (bitsL n N) j := by
      rw [gi_lt (by simp [bitsL_length]; omega), gi_lt (by rw [bitsL_length]; exact hjn), List.getElem_append_left]
    rw [this, gi_bitsL _ _ _ hjn, show n + 1 - 1 - j = (n - 1 - j) + 1 by omega, Nat.pow_succ, Nat.mul_comm (2 ^ (n - 1 - j)) 2, ← Nat.div_div_eq_div_mul, show (2 * N + b) / 2 = N by omega]
theorem bits_surj : ∀ (n : Nat) (v : List Int), isBits v → v.length = n → ∃ N, N < 2 ^ n ∧ v = bitsL n N := by
  intro n
  induction n with
  | zero => exact fun v _ hl => ⟨0, by decide, by rw [List.eq_nil_of_length_eq_zero hl]; rfl⟩
  | succ n ih =>
    intro v hv hl
    obtain ⟨N, hN, e⟩ := ih (v.take n) (fun j hj => by
      have hj2 : j < n := by simp at hj; omega
      have h1 : gi (v.take n) j = gi v j := by
        rw [gi_lt hj, gi_lt (by omega)]; simp
      rw [h1]; exact hv j (by omega)) (by simp; omega)
    have h2 := hv n (by omega)
    have h3 : v = v.take n ++ [gi v n] := by
      rw [gi_lt (by omega), ← List.take_succ_eq_append_getElem (by omega), List.take_of_length_le (by omega)]
    rcases h2 with h2 | h2
    · exact ⟨2 * N + 0, by rw [Nat.pow_succ]; omega, by rw [bitsL_snoc n N 0 (by omega), ← e]; rw [h2] at h3; exact h3⟩
    · exact ⟨2 * N + 1, by rw [Nat.pow_succ]; omega, by rw [bitsL_snoc n N 1 (by omega), ← e]; rw [h2] at h3; exact h3⟩
theorem pow2_le {n : Nat} (hn : n ≤ 8) : 2 ^ n ≤ 256 := Nat.le_trans (Nat.pow_le_pow_right (by decide) hn) (by decide)
/-- all lists of noughts and ones with a number are sorted just where the falling order is -/
theorem fall_iff {zs : List Int} {n : Nat} (hz : rungsIn zs n) : srtB (runS zs (fallL n)) = true ↔ ∀ N, N < 2 ^ n → srtB (runS zs (bitsL n N)) = true :=
  ⟨fun h N _ => bits_of_fall hz h (isBits_bitsL n N) (bitsL_length n N), fun h => fall_of_bits hz (fun v hv hl => by
    obtain ⟨N, hN, e⟩ := bits_surj n v hv hl
    rw [e]; exact h N hN)⟩

set_option maxHeartbeats 1000000 in
theorem soAll_any (n : Nat) (A : Option Addr) (m c : Nat) (zs : List Int) (w : World) (h : RI w A m zs) (hn : n ≤ 8) (h0 : 0 < n) (hm : m ≤ 60) (hz : rungsIn zs n) :
    Calls Try.prog 45 #[.int .i64 (n : Int), .slice A m c] w (RetB (srtB (runS zs (fallL n))) w) := by
  have H0 := Lib.hid h
  have HZ := Lib.hid hz
  obtain ⟨P, hP⟩ : ∃ P, P = 2 ^ n := ⟨_, rfl⟩
  have hP2 : P ≤ 256 := by rw [hP]; exact pow2_le hn
  have hpw : wrap64 ((2 : Int) ^ n) = (P : Int) := by
    have e : ((2 : Int) ^ n) = (P : Int) := by rw [hP]; simp
    rw [e]; exact IntWalk.wrap64_in _ (by omega)
  have hF := fall_iff hz
  rw [← hP] at hF
  obtain ⟨q, hq⟩ : ∃ q, q = srtB (runS zs (fallL n)) := ⟨_, rfl⟩
  rw [← hq] at hF ⊢
  have HF := Lib.hid hF
  clear h hP hF hq hz
  go_enter Try.func45, Try.ntmps45
  go_wp2
  go_loopw [5] (fun i wr => ∃ k : Nat, k ≤ P ∧ i = .int .i64 k ∧ (∀ N, N < k → srtB (runS zs (bitsL n N)) = true) ∧ Below w.heap.size w wr) (fun i _ => P - (intOf i).toNat)
  case atStart => exact ⟨0, Nat.zero_le _, rfl, fun N hN => absurd hN (by omega), Below.refl _ _⟩
  case round =>
    obtain ⟨k, hk, rfl, hall, hb⟩ := hrel
    have HALL := Lib.hid hall
    have HB := Lib.hid hb
    by_cases hlt : k < P
    · have HR := Lib.hid (H0.out.below hb (Nat.le_refl _))
      have hk2 : k ≤ 256 := by omega
      clear hall hb
      go_wp2_with fail
      refine (soBits_any n k _ hn hk2).mono ?_
      rintro e w1 ⟨A1, c1, rfl, o, hb⟩
      replace HB := belStep HB hb
      replace HR := riStep HR hb
      have O := Lib.hid o
      have HS := Lib.hid (fun w2 (r : RI w2 A m zs) (r2 : RI w2 A1 n (bitsL n k)) => soSorted_any A m c zs A1 n c1 (bitsL n k) w2 r r2 hn h0 hm HZ.out)
      obtain ⟨s, hs⟩ : ∃ s, s = srtB (runS zs (bitsL n k)) := ⟨_, rfl⟩
      rw [← hs] at HS
      have HSS := Lib.hid hs
      clear hb o hs
      go_wp2_with fail
      refine (HS.out _ HR.out O.out.ri).mono ?_
      rintro e w2 ⟨rfl, hb⟩
      replace HB := belStep HB hb
      clear hb HS
      cases s
      · have e : q = false := by
          rcases h1 : q with _ | _
          · rfl
          · have := HF.out.1 h1 k hlt
            rw [← HSS.out] at this; cases this
        have E := Lib.hid e
        clear e
        go_wp2
        go_ret
        exact ⟨ret_b E.out.symm, HB.out⟩
      · go_wp2
        go_roundw
        case rel =>
          refine ⟨k + 1, by omega, by go_num, fun N hN => ?_, HB.out⟩
          by_cases e : N = k
          · subst e; exact HSS.out.symm
          · exact HALL.out N (by omega)
        case measure => simp [intOf]; omega
    · obtain rfl : k = P := by omega
      have E := Lib.hid (HF.out.2 hall)
      clear hall hb
      go_wp2
      go_ret
      exact ⟨ret_b E.out.symm, HB.out⟩
end Go.Proofs.Ytbfilmdociemmaa
