/- The contract of a move of rungs. -/
import Derived.Test.YtnogmbhcphglkaaDoorMv2
namespace Go.Proofs.YtnogmbhcphglkaaDoor
open Go Go.RowKit

set_option maxRecDepth 100000 in
set_option maxHeartbeats 600000 in
theorem drop_any (A : Option Addr) (n c : Nat) (zs : List Int) (a : Int) (w : World) (h : RI w A n zs) (hn : n ≤ 10000) (hnc : n ≤ c) (hI : Small zs) :
    Calls Tryd.prog 50 #[.slice A n c, .int .i64 a] w (FreshIB w (ifL (drpOk zs a) (drpL zs a.toNat)).length (ifL (drpOk zs a) (drpL zs a.toNat)) (drpOk zs a)) := by
  have hl := h.1
  by_cases hb : 0 ≤ a ∧ a + 2 ≤ n
  · obtain ⟨k, rfl⟩ : ∃ k : Nat, a = (k : Int) := ⟨a.toNat, by omega⟩
    rw [Int.toNat_natCast, drpOk_at (zs := zs) (k := k) (by omega)]
    obtain ⟨b, off, rfl, hbw, hc⟩ := h.2 (by omega)
    have HPT := Lib.hid (part_ok b off n c k 2 w (by omega) hnc (by omega) (by omega) (by omega))
    have hx := hI k (by omega)
    have hy := hI (k + 1) (by omega)
    have hck := hc k (by omega)
    have hcp := hc (k + 1) (by omega)
    rw [← Nat.add_assoc] at hcp
    have hkm : k + 2 ≤ n := by omega
    have HA := Lib.hid h
    obtain ⟨x, hxe⟩ : ∃ x, x = gi zs k := ⟨_, rfl⟩
    obtain ⟨y, hye⟩ : ∃ y, y = gi zs (k + 1) := ⟨_, rfl⟩
    have HXE := Lib.hid hxe
    have HYE := Lib.hid hye
    rw [← hxe] at hx hck ⊢
    rw [← hye] at hy hcp ⊢
    have HLC : Hid (drpL zs k = zs.take k ++ ([] ++ zs.drop (k + 2))) := rfl
    by_cases hq : x = y
    · rw [decide_eq_true hq, ifL_yes]
      have e0 : (x != y) = false := by rw [bne_eq_false_iff_eq]; exact hq
      have HWI : Hid (∀ (w' : World), RI w' (some ⟨b, off, none⟩) n zs → Calls Tryd.prog 63 #[.slice (some ⟨b, off, none⟩) n c, .int .i64 (k : Int), .int .i64 2, .slice none 0 0] w' (FreshI w' (drpL zs k).length (drpL zs k))) := fun w' h => by
        rw [HLC.out]
        exact with_any b off n c zs k 2 2 rfl none 0 0 [] w' h (RI.empty w' none) hkm hnc (by omega) (by omega) (by omega)
      clear hc h hI hxe hye hb
      go_enter Tryd.func50, Tryd.ntmps50
      go_wp2_with fail
      refine HPT.out.mono ?_
      rintro e w1 ⟨rfl, hw1⟩
      replace hw1 := hw1.symm
      subst hw1
      go_wp2
      go_quiet (fail)
      go_wp2_with fail
      refine (HWI.out _ (by exact HA.out)).mono ?_
      rintro e w5 ⟨A5, c5, rfl, o5, hb⟩
      have hb5 : Below w.heap.size w w5 := Below.trans (by repeat (first | exact Below.refl _ _ | refine Below.alloc ?_ (by simp) _ | refine below_drewN ?_ _ | refine Below.drew ?_)) (hb.mono (by first | exact Nat.le_refl _ | simp))
      have O5 := Lib.hid o5
      clear hb
      go_wp2
      go_ret2
      exact ⟨A5, c5, rfl, O5.out, hb5⟩
    · rw [decide_eq_false hq, ifL_no]
      have e0 : (x != y) = true := by rw [bne_iff_ne]; exact hq
      clear hc h hI hxe hye hb
      go_enter Tryd.func50, Tryd.ntmps50
      go_wp2_with fail
      refine HPT.out.mono ?_
      rintro e w1 ⟨rfl, hw1⟩
      replace hw1 := hw1.symm
      subst hw1
      go_wp2
      go_quiet (fail)
      go_wp2
      go_ret2
      exact ⟨none, 0, rfl, OI.none_ _ _, belowDrewN (Below.refl _ _) _⟩
  · rw [drpOk_no1 (zs := zs) (a := a) (by omega), ifL_no]
    have HPT := Lib.hid (part_no A n c a 2 w (by omega) (by omega) (by omega))
    clear h hI hb
    go_enter Tryd.func50, Tryd.ntmps50
    go_wp2_with fail
    refine HPT.out.mono ?_
    rintro e w1 ⟨rfl, hw1⟩
    replace hw1 := hw1.symm
    subst hw1
    go_wp2
    go_quiet (fail)
    go_wp2
    go_ret2
    exact ⟨none, 0, rfl, OI.none_ _ _, belowDrewN (Below.refl _ _) _⟩
end Go.Proofs.YtnogmbhcphglkaaDoor
