/- The contracts of MeetingsOf, of the program and of its model. -/
import Derived.Test.YthalcjgpjagcoaaMgD
import Derived.Test.YthalcjgpjagcoaaMgC
import Derived.BigQuiet
import Derived.Deep.RegionHeld3
namespace Go.Proofs.Ythalcjgpjagcoaa
open Go Go.RowKit

/-- at how many of the first k rungs two meet -/
def meets (zs : List Int) (a b : Int) : Nat → Int
  | 0 => 0
  | k + 1 => meets zs a b k + if at_ zs a (k + 1) = at_ zs b k ∧ at_ zs b (k + 1) = at_ zs a k then 1 else 0
theorem meets_le (zs : List Int) (a b : Int) (k : Nat) : 0 ≤ meets zs a b k ∧ meets zs a b k ≤ k := by
  induction k with
  | zero => simp [meets]
  | succ k ih => simp only [meets]; split <;> omega
theorem meets_yes {zs : List Int} {a b : Int} {k : Nat} (h1 : at_ zs a (k + 1) = at_ zs b k) (h2 : at_ zs b (k + 1) = at_ zs a k) : meets zs a b k + 1 = meets zs a b (k + 1) := by simp [meets, h1, h2]
theorem meets_no {zs : List Int} {a b : Int} {k : Nat} (h : ¬ (at_ zs a (k + 1) = at_ zs b k ∧ at_ zs b (k + 1) = at_ zs a k)) : meets zs a b k = meets zs a b (k + 1) := by
  simp only [meets]; rw [if_neg h]; omega
def meetB (W : Int) (zs : List Int) (a b : Int) : Bool := wire W zs a && (wire W zs b && !(a == b))
def meetN (W : Int) (zs : List Int) (a b : Int) : Int := if meetB W zs a b = true then meets zs a b zs.length else 0
theorem meetN_yes {W : Int} {zs : List Int} {a b : Int} (h : meetB W zs a b = true) : meetN W zs a b = meets zs a b zs.length := by unfold meetN; rw [if_pos h]
theorem meetN_no {W : Int} {zs : List Int} {a b : Int} (h : meetB W zs a b = false) : meetN W zs a b = 0 := by unfold meetN; rw [h]; rfl
theorem meetB_1 {W : Int} {zs : List Int} {a b : Int} (h : wire W zs a = false) : meetB W zs a b = false := by simp [meetB, h]
theorem meetB_2 {W : Int} {zs : List Int} {a b : Int} (h : wire W zs b = false) : meetB W zs a b = false := by simp [meetB, h]
theorem meetB_3 {W : Int} {zs : List Int} {a b : Int} (h : a = b) : meetB W zs a b = false := by simp [meetB, h]
theorem meetB_4 {W : Int} {zs : List Int} {a b : Int} (h1 : wire W zs a = true) (h2 : wire W zs b = true) (h : a ≠ b) : meetB W zs a b = true := by simp [meetB, h1, h2, h]

set_option maxRecDepth 100000 in
set_option maxHeartbeats 4000000 in
theorem laMeet_any (A : Option Addr) (n c : Nat) (zs : List Int) (a b : Int) (w : World) (h : RI w A n zs) (hn : n ≤ 1048576) (ha : Wires zs a) :
    Calls Try.prog 40 #[.slice A n c, .int .i64 a, .int .i64 b] w (SameI (meets zs a b n) w) := by
  have hzl := h.1
  go_enter Try.func40, Try.ntmps40
  go_wp2
  go_loop [1, 2, 7, 9, 10, 11, 14] (fun s1 s2 s7 _ _ _ i => ∃ k : Nat, k ≤ n ∧ i = .int .i64 k ∧ s1 = .int .i64 (at_ zs a k) ∧ s2 = .int .i64 (at_ zs b k) ∧ s7 = .int .i64 (meets zs a b k)) (fun _ _ _ _ _ _ i => n - (intOf i).toNat)
  case atStart => exact ⟨0, Nat.zero_le _, rfl, by rw [at_zero], by rw [at_zero], rfl⟩
  case round =>
    obtain ⟨k, hk, rfl, rfl, rfl, rfl⟩ := hrel
    by_cases hlt : k < n
    · obtain ⟨bb, off, rfl, hbw, hc⟩ := h.cell hlt
      have hck := hc k hlt
      have g1 := ha.rung (k := k) (by omega)
      have g2 := meets_le zs a b k
      have HSa := Lib.hid (at_succ zs a k (by omega))
      have HSb := Lib.hid (at_succ zs b k (by omega))
      clear hc h
      by_cases c1 : at_ zs a (k + 1) = at_ zs b k
      · have e1 : (at_ zs a (k + 1) == at_ zs b k) = true := beq_iff_eq.2 c1
        by_cases c2 : at_ zs b (k + 1) = at_ zs a k
        · have e2 : (at_ zs b (k + 1) == at_ zs a k) = true := beq_iff_eq.2 c2
          have HM := Lib.hid (meets_yes c1 c2)
          clear c1 c2
          go_wp2_with (go_at_call 63; refine (laOver_any _ _ _ (by omega)).mono ?_; (first | rw [← HSa.out] | rw [← HSb.out]); rintro e w' ⟨rfl, rfl⟩)
          go_round
          case rel => exact ⟨k + 1, by omega, by go_num, rfl, rfl, by rw [HM.out]⟩
          case measure => simp [intOf]; omega
        · have e2 : (at_ zs b (k + 1) == at_ zs a k) = false := beq_eq_false_iff_ne.2 c2
          have HM := Lib.hid (meets_no (zs := zs) (a := a) (b := b) (k := k) (fun h => c2 h.2))
          clear c1 c2
          go_wp2_with (go_at_call 63; refine (laOver_any _ _ _ (by omega)).mono ?_; (first | rw [← HSa.out] | rw [← HSb.out]); rintro e w' ⟨rfl, rfl⟩)
          go_round
          case rel => exact ⟨k + 1, by omega, by go_num, rfl, rfl, by rw [HM.out]⟩
          case measure => simp [intOf]; omega
      · have e1 : (at_ zs a (k + 1) == at_ zs b k) = false := beq_eq_false_iff_ne.2 c1
        have HM := Lib.hid (meets_no (zs := zs) (a := a) (b := b) (k := k) (fun h => c1 h.1))
        clear c1
        go_wp2_with (go_at_call 63; refine (laOver_any _ _ _ (by omega)).mono ?_; (first | rw [← HSa.out] | rw [← HSb.out]); rintro e w' ⟨rfl, rfl⟩)
        go_round
        case rel => exact ⟨k + 1, by omega, by go_num, rfl, rfl, by rw [HM.out]⟩
        case measure => simp [intOf]; omega
    · obtain rfl : k = n := by omega
      go_wp2
      go_ret
      exact ⟨rfl, rfl⟩

end Go.Proofs.Ythalcjgpjagcoaa
