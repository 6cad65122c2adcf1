/- The contract of a move of rungs, of the model. -/
import Derived.Test.YtnogmbhcphglkaaDoorMv2
import Derived.Test.YtnogmbhcphglkaaDoorC1r
import Derived.Test.YtnogmbhcphglkaaDoorSSO
namespace Go.Proofs.YtnogmbhcphglkaaDoor
open Go Go.RowKit

set_option maxRecDepth 100000 in
set_option maxHeartbeats 400000 in
theorem lsSlide_any (A : Option Addr) (n c : Nat) (zs : List Int) (a : Int) (w : World) (h : RI w A n zs) (hn : n ≤ 10000) (_hnc : n ≤ c) (hI : Small zs) :
    Calls Tryd.prog 38 #[.slice A n c, .int .i64 a] w (FreshIB w (ifL (sldOk zs a) (sldL zs a.toNat)).length (ifL (sldOk zs a) (sldL zs a.toNat)) (sldOk zs a)) := by
  have hl := h.1
  by_cases hb : 0 ≤ a ∧ a + 2 ≤ n
  · obtain ⟨k, rfl⟩ : ∃ k : Nat, a = (k : Int) := ⟨a.toNat, by omega⟩
    rw [Int.toNat_natCast, sldOk_at (zs := zs) (k := k) (by omega)]
    obtain ⟨b, off, rfl, hbw, hc⟩ := h.2 (by omega)
    have HIN : Hid (∀ w : World, Calls Tryd.prog 46 #[.int .i64 (k : Int), .int .i64 0, .int .i64 ((n : Int) - 2)] w (fun e w' => e = .returned (.bool true) ∧ w' = w)) := fun w => (l1In_any _ _ _ w).mono (by rw [inB_true (by omega)]; rintro e w' ⟨rfl, h⟩; exact ⟨rfl, h.symm⟩)
    have hx := hI k (by omega)
    have hy := hI (k + 1) (by omega)
    have hck := hc k (by omega)
    have hcp := hc (k + 1) (by omega)
    have hkm : k + 2 ≤ n := by omega
    have i0 : (0 : Int) ≤ (k : Int) := by omega
    have i1 : (k : Int) < (n : Int) := by omega
    have i2 : (k : Int) + 1 < (n : Int) := by omega
    have HA := Lib.hid h
    obtain ⟨x, hxe⟩ : ∃ x, x = gi zs k := ⟨_, rfl⟩
    obtain ⟨y, hye⟩ : ∃ y, y = gi zs (k + 1) := ⟨_, rfl⟩
    have HXE := Lib.hid hxe
    have HYE := Lib.hid hye
    rw [← hxe] at hx hck ⊢
    rw [← hye] at hy hcp ⊢
    have hsub : IntKind.i64.wrap (x - y) = x - y := IntWalk.i64_in _ (by omega)
    by_cases hq : 2 ≤ absd (x - y)
    · rw [decide_eq_true hq, ifL_yes]
      clear hc h hI hxe hye hb
      have hq1 : ¬ absd (x - y) < 2 := by omega
      have hd : decide (absd (x - y) < 2) = false := decide_eq_false hq1
      go_enter Tryd.func38, Tryd.ntmps38
      go_wp2
      go_quiet ((first | (go_at_call 46; refine Calls.quiet_of_same (HIN.out _)) | (go_at_call 55; refine Calls.quiet_of_same (l1Abs_any (x - y) _ (by omega)))))
      go_wp2_with fail
      refine (l1Own_any (some ⟨b, off, none⟩) n c zs _ (by exact HA.out) (by omega)).mono ?_
      rintro e w2 ⟨A2, c2, rfl, o2, hb⟩
      rcases o2.form with ⟨_, _, h0⟩ | ⟨g, _, rfl, hBg, hgw, _, _, _, _, _⟩
      · omega
      have HB2 : Hid (Below w.heap.size w w2) := Below.trans (by repeat (first | exact Below.refl _ _ | refine Below.alloc ?_ (by simp) _ | refine below_drewN ?_ _ | refine Below.drew ?_)) (hb.mono (by first | exact Nat.le_refl _ | simp))
      have O2 : Hid (OI w2 w.heap.size (some ⟨g, 0, none⟩) n c2 zs) := o2
      have gk := o2.cells k (by omega)
      have gp := o2.cells (k + 1) (by omega)
      have fk : w2.frozen? ⟨g, k, none⟩ = false := o2.2.frozenAt k
      have fp : w2.frozen? ⟨g, k + 1, none⟩ = false := o2.2.frozenAt (k + 1)
      have hck2 := (HB2.out.cell (p := ⟨b, off + k, none⟩) hbw).trans hck
      have hcp2 := (HB2.out.cell (p := ⟨b, off + (k + 1), none⟩) hbw).trans hcp
      have hBg' : w.heap.size ≤ g := hBg
      have hne : b ≠ g := by omega
      have HR : Hid ((zs.set k y).set (k + 1) x = sldL zs k) := by show _ = _; unfold sldL; rw [HXE.out, HYE.out]
      clear hb o2
      go_wp2
      go_ret2
      exact ⟨some ⟨g, 0, none⟩, c2, by rw [sldL_len, hl]; rfl, by rw [← HR.out, show ((zs.set k y).set (k + 1) x).length = n by rw [HR.out, sldL_len, hl]]; exact ((O2.out.stored k y).stored (k + 1) x), ((HB2.out.setCell (p := ⟨g, k, none⟩) hBg' _).setCell (p := ⟨g, k + 1, none⟩) hBg' _)⟩
    · rw [decide_eq_false hq, ifL_no]
      clear hc h hI hxe hye hb
      have hq1 : absd (x - y) < 2 := by omega
      go_enter Tryd.func38, Tryd.ntmps38
      go_wp2
      go_quiet ((first | (go_at_call 46; refine Calls.quiet_of_same (HIN.out _)) | (go_at_call 55; refine Calls.quiet_of_same (l1Abs_any (x - y) _ (by omega)))))
      go_wp2
      go_ret2
      exact ⟨none, 0, rfl, OI.none_ _ _, belowDrewN (Below.refl _ _) _⟩
  · rw [sldOk_no1 (zs := zs) (a := a) (by omega), ifL_no]
    have HIN : Hid (∀ w : World, Calls Tryd.prog 46 #[.int .i64 a, .int .i64 0, .int .i64 ((n : Int) - 2)] w (fun e w' => e = .returned (.bool false) ∧ w' = w)) := fun w => (l1In_any _ _ _ w).mono (by rw [inB_false (by omega)]; rintro e w' ⟨rfl, h⟩; exact ⟨rfl, h.symm⟩)
    clear h hI hb
    go_enter Tryd.func38, Tryd.ntmps38
    go_wp2
    go_quiet ((go_at_call 46; refine Calls.quiet_of_same (HIN.out _)))
    go_wp2
    go_ret2
    exact ⟨none, 0, rfl, OI.none_ _ _, belowDrewN (Below.refl _ _) _⟩
end Go.Proofs.YtnogmbhcphglkaaDoor
