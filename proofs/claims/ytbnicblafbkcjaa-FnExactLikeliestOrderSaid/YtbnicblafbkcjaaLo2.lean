/- Two rows compared, as the library does it. -/
import Derived.Test.YtbnicblafbkcjaaLo1
import Derived.Test.YtbnicblafbkcjaaCmp
import Derived.Test.YtbnicblafbkcjaaMgM
namespace Go.Proofs.Ytbnicblafbkcjaa
open Go Go.RowKit

theorem cmpL_step {a b : List Int} {k : Nat} (ha : k < a.length) (hb : k < b.length) (h : gi a k = gi b k) : cmpL (a.drop k) (b.drop k) = cmpL (a.drop (k + 1)) (b.drop (k + 1)) := by
  rw [drop_gi ha, drop_gi hb, cmpL, if_pos h]
theorem cmpL_here {a b : List Int} {k : Nat} (ha : k < a.length) (hb : k < b.length) (h : gi a k ≠ gi b k) : cmpL (a.drop k) (b.drop k) = Lib.compareInt (gi a k) (gi b k) := by
  rw [drop_gi ha, drop_gi hb, cmpL, if_neg h]

set_option maxRecDepth 100000 in
set_option maxHeartbeats 1000000 in
theorem compare_any (A B : Option Addr) (n c d : Nat) (a b : List Int) (w : World) (h1 : RI w A n a) (h2 : RI w B n b) (hn : n ≤ 1048576) :
    Calls Try.prog 38 #[.slice A n c, .slice B n d] w (SameI (cmpL a b) w) := by
  have hla := h1.1
  have hlb := h2.1
  go_enter Try.func38, Try.ntmps38
  go_wp2
  go_loopw [5, 6, 7, 8, 11] (fun _ _ _ _ s wi => ∃ k : Nat, k ≤ n ∧ s = .int .i64 (k : Int) ∧ cmpL (a.drop k) (b.drop k) = cmpL a b ∧ wi = w) (fun _ _ _ _ s _ => n - (intOf s).toNat)
  case atStart => exact ⟨0, Nat.zero_le _, rfl, by simp, rfl⟩
  case round =>
    obtain ⟨k, hk, rfl, hc, rfl⟩ := hrel
    by_cases hlt : (k : Int) < (n : Int)
    · obtain ⟨g1, o1, rfl, hg1, hc1⟩ := h1.cell (show k < n by omega)
      obtain ⟨g2, o2, rfl, hg2, hc2⟩ := h2.cell (show k < n by omega)
      have k1 := hc1 k (by omega)
      have k2 := hc2 k (by omega)
      have hk0 : (0 : Int) ≤ (k : Int) := by omega
      by_cases hx : gi a k = gi b k
      · have HS : Hid (cmpL (a.drop (k + 1)) (b.drop (k + 1)) = cmpL a b) := Lib.hid (by rw [← cmpL_step (by omega) (by omega) hx]; exact hc)
        have e0 : Lib.compareInt (gi a k) (gi b k) = 0 := by rw [hx]; unfold Lib.compareInt; rw [if_neg (by omega), if_neg (by omega)]
        have E0 := Lib.hid e0
        obtain ⟨x, hx1⟩ : ∃ x, x = gi a k := ⟨_, rfl⟩
        obtain ⟨y, hy1⟩ : ∃ y, y = gi b k := ⟨_, rfl⟩
        rw [← hx1] at k1 E0
        rw [← hy1] at k2 E0
        clear hx e0 hx1 hy1 hc hc1 hc2
        go_wp2_with (go_at_call 55; refine (cmp_Compare_int _ _ _).mono ?_; rw [E0.out]; rintro e w' ⟨rfl, rfl⟩)
        go_roundw
        case rel => exact ⟨k + 1, by omega, by go_num, HS.out, by first | rfl | trivial⟩
        case measure => simp [intOf]; omega
      · have HS : Hid (Lib.compareInt (gi a k) (gi b k) = cmpL a b) := Lib.hid (by rw [← cmpL_here (by omega) (by omega) hx]; exact hc)
        have hne : ¬ (cmpL a b = 0) := by
          rw [← HS.out]; unfold Lib.compareInt
          split
          · omega
          · split
            · omega
            · exfalso; omega
        obtain ⟨x, hx1⟩ : ∃ x, x = gi a k := ⟨_, rfl⟩
        obtain ⟨y, hy1⟩ : ∃ y, y = gi b k := ⟨_, rfl⟩
        rw [← hx1] at k1 HS
        rw [← hy1] at k2 HS
        obtain ⟨v, hv⟩ : ∃ v, v = cmpL a b := ⟨_, rfl⟩
        rw [← hv] at HS hne ⊢
        have hbn : (v != 0) = true := by rw [bne_iff_ne]; exact hne
        clear hx hx1 hy1 hc hc1 hc2 hv
        go_wp2_with (go_at_call 55; refine (cmp_Compare_int _ _ _).mono ?_; rw [HS.out]; rintro e w' ⟨rfl, rfl⟩)
        go_ret
        exact ⟨rfl, rfl⟩
    · obtain rfl : k = n := by omega
      have hz : cmpL a b = 0 := by
        rw [← hc, List.drop_of_length_le (by omega), List.drop_of_length_le (by omega)]
        rfl
      have HZ := Lib.hid hz
      clear hc hz
      go_wp2
      go_ret
      exact ⟨ret_i HZ.out.symm, rfl⟩
end Go.Proofs.Ytbnicblafbkcjaa
-- Lo2
