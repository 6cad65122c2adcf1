/- The contract of a move of rungs, of the model. -/
import Derived.Test.YtnogmbhcphglkaaDoorMv2
import Derived.Test.YtnogmbhcphglkaaDoorC1r
import Derived.Test.YtnogmbhcphglkaaDoorSSO
namespace Go.Proofs.YtnogmbhcphglkaaDoor
open Go Go.RowKit

set_option maxRecDepth 100000 in
set_option maxHeartbeats 400000 in
theorem lsDrop_any (A : Option Addr) (n c : Nat) (zs : List Int) (a : Int) (w : World) (h : RI w A n zs) (hn : n ≤ 10000) (_hnc : n ≤ c) (hI : Small zs) :
    Calls Tryd.prog 53 #[.slice A n c, .int .i64 a] w (FreshIB w (ifL (drpOk zs a) (drpL zs a.toNat)).length (ifL (drpOk zs a) (drpL zs a.toNat)) (drpOk zs a)) := by
  have hl := h.1
  by_cases hb : 0 ≤ a ∧ a + 2 ≤ n
  · obtain ⟨k, rfl⟩ : ∃ k : Nat, a = (k : Int) := ⟨a.toNat, by omega⟩
    rw [Int.toNat_natCast, drpOk_at (zs := zs) (k := k) (by omega)]
    obtain ⟨b, off, rfl, hbw, hc⟩ := h.2 (by omega)
    have HIN : Hid (∀ w : World, Calls Tryd.prog 46 #[.int .i64 (k : Int), .int .i64 0, .int .i64 ((n : Int) - 2)] w (fun e w' => e = .returned (.bool true) ∧ w' = w)) := fun w => (l1In_any _ _ _ w).mono (by rw [inB_true (by omega)]; rintro e w' ⟨rfl, h⟩; exact ⟨rfl, h.symm⟩)
    have hx := hI k (by omega)
    have hy := hI (k + 1) (by omega)
    have hck := hc k (by omega)
    have hcp := hc (k + 1) (by omega)
    have hkm : k + 2 ≤ n := by omega
    have i0 : (0 : Int) ≤ (k : Int) := by omega
    have i1 : (k : Int) < (n : Int) := by omega
    have i2 : (k : Int) + 1 < (n : Int) := by omega
    have HA := Lib.hid h
    obtain ⟨x, hxe⟩ : ∃ x, x = gi zs k := ⟨_, rfl⟩
    obtain ⟨y, hye⟩ : ∃ y, y = gi zs (k + 1) := ⟨_, rfl⟩
    have HXE := Lib.hid hxe
    have HYE := Lib.hid hye
    rw [← hxe] at hx hck ⊢
    rw [← hye] at hy hcp ⊢
    have hsub : IntKind.i64.wrap (x - y) = x - y := IntWalk.i64_in _ (by omega)
    have HTK := Lib.hid (h.take (k := k) (by omega))
    by_cases hq : x = y
    · rw [decide_eq_true hq, ifL_yes]
      subst hq
      have e0 : (x != x) = false := by simp
      have i4 : (k : Int) ≤ (n : Int) := by omega
      have i5 : (k : Int) + 2 ≤ (n : Int) := by omega
      have i6 : (k : Int) ≤ (c : Int) := by omega
      by_cases hcc : c = k + 2
      · have HDR : Hid (zs.take k ++ [] = drpL zs k) := by show _ = _; unfold drpL; rw [List.drop_eq_nil_of_le (by omega)]
        have HDL : Hid ((drpL zs k).length = k + 0) := by show _ = _; rw [← HDR.out]; simp; omega
        have hcn : n = k + 2 := by omega
        subst hcn
        subst hcc
        have HIN1 : Hid (∀ w : World, Calls Tryd.prog 46 #[.int .i64 (k : Int), .int .i64 0, .int .i64 (k : Int)] w (fun e w' => e = .returned (.bool true) ∧ w' = w)) := fun w => (l1In_any _ _ _ w).mono (by rw [inB_true (by omega)]; rintro e w' ⟨rfl, h⟩; exact ⟨rfl, h.symm⟩)
        have HIN2 : Hid (∀ w : World, Calls Tryd.prog 46 #[.int .i64 (k : Int), .int .i64 0, .int .i64 ((k : Int) + 2 - 2)] w (fun e w' => e = .returned (.bool true) ∧ w' = w)) := fun w => (l1In_any _ _ _ w).mono (by rw [inB_true (by omega)]; rintro e w' ⟨rfl, h⟩; exact ⟨rfl, h.symm⟩)
        clear hc h hI hxe hye hb
        have s1 : IntKind.i64.wrap ((k : Int) + 2) = (k : Int) + 2 := IntWalk.i64_in _ (by omega)
        have s2 : (0 : Int) ≤ (k : Int) + 2 := by omega
        have s3 : ((k : Int) + 2).toNat = k + 2 := by omega
        have j1 : (k : Int) ≤ (k : Int) + 2 := by omega
        have j4 : (k : Int) < (k : Int) + 2 := by omega
        have j5 : (k : Int) + 1 < (k : Int) + 2 := by omega
        go_enter Tryd.func53, Tryd.ntmps53
        go_wp2
        go_quiet ((go_at_call 46; first | with_reducible refine Calls.quiet_of_same (HIN1.out _) | with_reducible refine Calls.quiet_of_same (HIN2.out _) | with_reducible refine Calls.quiet_of_same (HIN.out _)))
        go_wp2_with fail
        go_region_held3 (fun _ => True) (trivial)
          (first
            | (go_at_call 37; refine (l1Own_any (some ⟨b, off, none⟩) k _ (zs.take k) _ (by exact HTK.out) (by omega)).mono ?_; rintro e w2 ⟨A2, c2, rfl, o2, hb⟩; have b2 : Hid (Below w.heap.size w w2) := Below.trans (by repeat (first | exact Below.refl _ _ | refine Below.alloc ?_ (by simp) _ | refine below_drewN ?_ _ | refine Below.drew ?_)) (hb.mono (by first | exact Nat.le_refl _ | simp)); have O2 : Hid (OI w2 w.heap.size A2 k c2 (zs.take k)) := o2; have HA2 : Hid (RI w2 (some ⟨b, off, none⟩) (k + 2) zs) := HA.out.below b2.out (Nat.le_refl _); clear hb o2)
            | (refine step_append_ints _ rfl (.tmp 27) (.tmp 31) rfl w.heap.size A2 k c2 (zs.take k) (some ⟨b, off, none⟩) 0 0 [] rfl rfl O2.out (RI.empty _ (some ⟨b, off, none⟩)) (by omega) (by omega) b2.out.size ?_; intro A3 c3 w3 ho3 hg3; have b3 : Hid (Below w.heap.size w w3) := b2.out.trans (ofMark O2.out hg3 (Nat.le_refl _) b2.out.size); have O3 := Lib.hid ho3; clear ho3 hg3))
        go_wp2
        go_ret2
        exact ⟨A3, c3, by rw [HDL.out]; rfl, by rw [HDL.out]; exact HDR.out ▸ O3.out, b3.out⟩
      · have HDR : Hid (zs.take k ++ zs.drop (k + 2) = drpL zs k) := rfl
        have HDL : Hid ((drpL zs k).length = k + (n - (k + 2))) := by show _ = _; rw [← HDR.out]; simp; omega
        have HIN1 : Hid (∀ w : World, Calls Tryd.prog 46 #[.int .i64 (k : Int), .int .i64 0, .int .i64 (k : Int)] w (fun e w' => e = .returned (.bool true) ∧ w' = w)) := fun w => (l1In_any _ _ _ w).mono (by rw [inB_true (by omega)]; rintro e w' ⟨rfl, h⟩; exact ⟨rfl, h.symm⟩)
        have HIN2 : Hid (∀ w : World, Calls Tryd.prog 46 #[.int .i64 (k : Int), .int .i64 0, .int .i64 ((k : Int) + 2 - 2)] w (fun e w' => e = .returned (.bool true) ∧ w' = w)) := fun w => (l1In_any _ _ _ w).mono (by rw [inB_true (by omega)]; rintro e w' ⟨rfl, h⟩; exact ⟨rfl, h.symm⟩)
        clear hc h hI hxe hye hb
        have s1 : IntKind.i64.wrap ((k : Int) + 2) = (k : Int) + 2 := IntWalk.i64_in _ (by omega)
        have s2 : (0 : Int) ≤ (k : Int) + 2 := by omega
        have s3 : ((k : Int) + 2).toNat = k + 2 := by omega
        have j1 : (n : Int) ≤ (c : Int) := by omega
        have j3 : ¬ c = k + 2 := hcc
        have j6 : ¬ c = k := by omega
        go_enter Tryd.func53, Tryd.ntmps53
        go_wp2
        go_quiet ((go_at_call 46; first | with_reducible refine Calls.quiet_of_same (HIN1.out _) | with_reducible refine Calls.quiet_of_same (HIN2.out _) | with_reducible refine Calls.quiet_of_same (HIN.out _)))
        go_wp2_with fail
        go_region_held3 (fun _ => True) (trivial)
          (first
            | (go_at_call 37; refine (l1Own_any (some ⟨b, off, none⟩) k _ (zs.take k) _ (by exact HTK.out) (by omega)).mono ?_; rintro e w2 ⟨A2, c2, rfl, o2, hb⟩; have b2 : Hid (Below w.heap.size w w2) := Below.trans (by repeat (first | exact Below.refl _ _ | refine Below.alloc ?_ (by simp) _ | refine below_drewN ?_ _ | refine Below.drew ?_)) (hb.mono (by first | exact Nat.le_refl _ | simp)); have O2 : Hid (OI w2 w.heap.size A2 k c2 (zs.take k)) := o2; have HA2 : Hid (RI w2 (some ⟨b, off, none⟩) n zs) := HA.out.below b2.out (Nat.le_refl _); clear hb o2)
            | (refine step_append_ints _ rfl (.tmp 27) (.tmp 31) rfl w.heap.size A2 k c2 (zs.take k) (some ⟨b, off + (k + 2), none⟩) (n - (k + 2)) (c - (k + 2)) (zs.drop (k + 2)) rfl rfl O2.out (HA2.out.drop (k := k + 2) hkm) (by omega) (by omega) b2.out.size ?_; intro A3 c3 w3 ho3 hg3; have b3 : Hid (Below w.heap.size w w3) := b2.out.trans (ofMark O2.out hg3 (Nat.le_refl _) b2.out.size); have O3 := Lib.hid ho3; clear ho3 hg3))
        go_wp2
        go_ret2
        exact ⟨A3, c3, by rw [HDL.out]; rfl, by rw [HDL.out]; exact HDR.out ▸ O3.out, b3.out⟩
    · rw [decide_eq_false hq, ifL_no]
      have e0 : (x != y) = true := by rw [bne_iff_ne]; exact hq
      clear hc h hI hxe hye hb
      go_enter Tryd.func53, Tryd.ntmps53
      go_wp2
      go_quiet ((first | (go_at_call 46; refine Calls.quiet_of_same (HIN.out _)) | (go_at_call 55; refine Calls.quiet_of_same (l1Abs_any (x - y) _ (by omega)))))
      go_wp2
      go_ret2
      exact ⟨none, 0, rfl, OI.none_ _ _, belowDrewN (Below.refl _ _) _⟩
  · rw [drpOk_no1 (zs := zs) (a := a) (by omega), ifL_no]
    have HIN : Hid (∀ w : World, Calls Tryd.prog 46 #[.int .i64 a, .int .i64 0, .int .i64 ((n : Int) - 2)] w (fun e w' => e = .returned (.bool false) ∧ w' = w)) := fun w => (l1In_any _ _ _ w).mono (by rw [inB_false (by omega)]; rintro e w' ⟨rfl, h⟩; exact ⟨rfl, h.symm⟩)
    clear h hI hb
    go_enter Tryd.func53, Tryd.ntmps53
    go_wp2
    go_quiet ((go_at_call 46; refine Calls.quiet_of_same (HIN.out _)))
    go_wp2
    go_ret2
    exact ⟨none, 0, rfl, OI.none_ _ _, belowDrewN (Below.refl _ _) _⟩
end Go.Proofs.YtnogmbhcphglkaaDoor
