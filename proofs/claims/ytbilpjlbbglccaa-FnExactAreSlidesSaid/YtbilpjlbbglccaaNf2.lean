/- Which rung can come to the top, as the program looks for it. -/
import Derived.Test.YtbilpjlbbglccaaMv2
import Derived.Test.YtbilpjlbbglccaaNf1
import Derived.WalkMore
import Derived.Deep.LoopGhost
namespace Go.Proofs.Ytbilpjlbbglccaa
open Go Go.RowKit

theorem far_no {a b : Int} (h : absd (a - b) < 2) : far a b = false := by rw [far_abs]; exact decide_eq_false (by omega)
theorem far_yes {a b : Int} (h : ¬ absd (a - b) < 2) : far a b = true := by rw [far_abs]; exact decide_eq_true (by omega)
theorem bst_le {zs : List Int} {k n : Nat} (h : k ≤ n) (h0 : 0 < n) : bst zs k < n := by
  rcases Nat.eq_zero_or_pos k with e | e
  · subst e; simp [bst]; exact h0
  · have := bst_lt zs k e; omega
theorem bst_keep {zs : List Int} {k : Nat} (h : ¬ (freeK zs (gi zs k) k = true ∧ gi zs k < gi zs (bst zs k))) : bst zs (k + 1) = bst zs k := by simp only [bst]; rw [if_neg h]
theorem bst_new {zs : List Int} {k : Nat} (h1 : freeK zs (gi zs k) k = true) (h2 : gi zs k < gi zs (bst zs k)) : bst zs (k + 1) = k := by simp only [bst]; rw [if_pos ⟨h1, h2⟩]
theorem freeK_next {zs : List Int} {r : Int} {m : Nat} (h : freeK zs r m = true) (h2 : far (gi zs m) r = true) : freeK zs r (m + 1) = true := by simp [freeK, h, h2]

set_option maxRecDepth 100000 in
set_option maxHeartbeats 1000000 in
theorem leastOnTop_any (b off n c : Nat) (zs : List Int) (w : World) (h : RI w (some ⟨b, off, none⟩) n zs) (hn : n ≤ 1000) (h0 : 0 < n) (hnc : n ≤ c) (hI : Small zs) :
    Calls Try.prog 59 #[.slice (some ⟨b, off, none⟩) n c] w (fun e w' => e = .returned (.int .i64 (bst zs n : Nat)) ∧ w' = w) := by
  have hl := h.1
  have HC : Hid (∀ j, j < n → w.cell? ⟨b, off + j, none⟩ = some (.int .i64 (gi zs j))) := by
    obtain ⟨b', off', e, _, hc⟩ := h.2 h0
    injection e with e; injection e with e1 e2 e3
    subst e1 e2
    exact hc
  have HI := Lib.hid hI
  clear h hI
  go_enter Try.func59, Try.ntmps59
  go_wp2_with fail
  go_step3
  go_wp2
  go_step3
  go_wp2
  go_loop [3, 4, 5, 7, 10] (fun s3 _ _ _ s10 => ∃ k : Nat, k ≤ n ∧ s10 = .int .i64 k ∧ s3 = .int .i64 (bst zs k : Nat)) (fun _ _ _ _ s10 => n - (intOf s10).toNat)
  case atStart => exact ⟨0, Nat.zero_le _, rfl, rfl⟩
  case round =>
    obtain ⟨k, hk, rfl, rfl⟩ := hrel
    by_cases hlt : k < n
    · have hbk := bst_le (zs := zs) hk h0
      have HBI := Lib.hid (HI.out (bst zs k) (by omega))
      obtain ⟨q, hq⟩ : ∃ q, q = bst zs k := ⟨_, rfl⟩
      have HQ := Lib.hid hq
      rw [← hq] at hbk ⊢
      clear hq
      have hck := HC.out k hlt
      have hcq := HC.out q hbk
      have hkc : (k : Int) ≤ (c : Int) := by omega
      have i0 : (0 : Int) ≤ (k : Int) := by omega
      by_cases hge : gi zs q ≤ gi zs k
      · have HG := Lib.hid hge
        go_wp2
        go_round
        case rel => exact ⟨k + 1, by omega, by go_num, by rw [bst_keep (fun h => by have := h.2; have := HG.out; rw [← HQ.out] at *; omega), ← HQ.out]⟩
        case measure => simp [intOf]; omega
      · have hge2 : gi zs k < gi zs q := by omega
        have HG := Lib.hid hge2
        go_wp2_with fail
        go_loop [7, 25] (fun _ s25 => ∃ m : Nat, m ≤ k ∧ s25 = .int .i64 m ∧ freeK zs (gi zs k) m = true) (fun _ s25 => n - (intOf s25).toNat)
        case atStart => exact ⟨0, Nat.zero_le _, rfl, rfl⟩
        case round =>
          obtain ⟨m, hm, rfl, hf⟩ := hrel
          have HF := Lib.hid hf
          clear hf
          by_cases hlm : m < k
          · have hcm := HC.out m (by omega)
            have hx := HI.out m (by omega)
            have hy := HI.out k (by omega)
            by_cases hfr : absd (gi zs m - gi zs k) < 2
            · have HFR := Lib.hid hfr
              go_wp2_with (go_at_call 49; refine (apart_any _ _ _ hx hy).mono ?_; rintro e w3 ⟨rfl, hw3⟩; replace hw3 := hw3.symm; subst hw3)
              go_round
              case rel => exact ⟨k + 1, by omega, by go_num, by rw [bst_keep (fun h => by have := freeK_no k hlm (far_no HFR.out); rw [this] at h; exact absurd h.1 (by simp)), ← HQ.out]⟩
              case measure => simp [intOf]; omega
            · have HFR := Lib.hid hfr
              have hfr2 : 2 ≤ absd (gi zs m - gi zs k) := by omega
              go_wp2_with (go_at_call 49; refine (apart_any _ _ _ hx hy).mono ?_; rintro e w3 ⟨rfl, hw3⟩; replace hw3 := hw3.symm; subst hw3)
              go_round
              case rel => exact ⟨m + 1, by omega, by go_num, freeK_next HF.out (far_yes (by have := HFR.out; omega))⟩
              case measure => simp [intOf]; omega
          · obtain rfl : m = k := by omega
            go_wp2
            go_round
            case rel => exact ⟨m + 1, by omega, by go_num, by rw [bst_new HF.out (by rw [← HQ.out]; exact HG.out)]⟩
            case measure => simp [intOf]; omega
    · obtain rfl : k = n := by omega
      go_wp2
      try rw [Exit.noGoto_ret]
      go_ret
      exact ⟨rfl, rfl⟩
end Go.Proofs.Ytbilpjlbbglccaa
