/- The contract of a move of rungs. -/
import Derived.Test.YtnogmbhcphglkaaDoorMv2
namespace Go.Proofs.YtnogmbhcphglkaaDoor
open Go Go.RowKit

set_option maxRecDepth 100000 in
set_option maxHeartbeats 600000 in
theorem slide_any (A : Option Addr) (n c : Nat) (zs : List Int) (a : Int) (w : World) (h : RI w A n zs) (hn : n ≤ 10000) (hnc : n ≤ c) (hI : Small zs) :
    Calls Tryd.prog 48 #[.slice A n c, .int .i64 a] w (FreshIB w (ifL (sldOk zs a) (sldL zs a.toNat)).length (ifL (sldOk zs a) (sldL zs a.toNat)) (sldOk zs a)) := by
  have hl := h.1
  by_cases hb : 0 ≤ a ∧ a + 2 ≤ n
  · obtain ⟨k, rfl⟩ : ∃ k : Nat, a = (k : Int) := ⟨a.toNat, by omega⟩
    rw [Int.toNat_natCast, sldOk_at (zs := zs) (k := k) (by omega)]
    obtain ⟨b, off, rfl, hbw, hc⟩ := h.2 (by omega)
    have HPT := Lib.hid (part_ok b off n c k 2 w (by omega) hnc (by omega) (by omega) (by omega))
    have hx := hI k (by omega)
    have hy := hI (k + 1) (by omega)
    have hck := hc k (by omega)
    have hcp := hc (k + 1) (by omega)
    rw [← Nat.add_assoc] at hcp
    have hkm : k + 2 ≤ n := by omega
    have HA := Lib.hid h
    obtain ⟨x, hxe⟩ : ∃ x, x = gi zs k := ⟨_, rfl⟩
    obtain ⟨y, hye⟩ : ∃ y, y = gi zs (k + 1) := ⟨_, rfl⟩
    have HXE := Lib.hid hxe
    have HYE := Lib.hid hye
    rw [← hxe] at hx hck ⊢
    rw [← hye] at hy hcp ⊢
    have HLC : Hid (sldL zs k = zs.take k ++ ([y, x] ++ zs.drop (k + 2))) := by show _ = _; rw [sldL_cat (by omega), HXE.out, HYE.out, List.append_assoc]
    by_cases hq : 2 ≤ absd (x - y)
    · rw [decide_eq_true hq, ifL_yes]
      clear hc h hI hxe hye hb
      have hq1 : ¬ absd (x - y) < 2 := by omega
      have hd : decide (absd (x - y) < 2) = false := decide_eq_false hq1
      go_enter Tryd.func48, Tryd.ntmps48
      go_wp2_with fail
      refine HPT.out.mono ?_
      rintro e w1 ⟨rfl, hw1⟩
      replace hw1 := hw1.symm
      subst hw1
      go_wp2
      go_quiet ((go_at_call 62; refine Calls.quiet_of_same (apart_any x y _ (by omega) (by omega))))
      have HWI : Hid (∀ (w' : World), RI w' (some ⟨b, off, none⟩) n zs → ∀ (A2 : Option Addr), RI w' A2 2 [y, x] → Calls Tryd.prog 63 #[.slice (some ⟨b, off, none⟩) n c, .int .i64 (k : Int), .int .i64 2, .slice A2 2 2] w' (FreshI w' (sldL zs k).length (sldL zs k))) := fun w' h A2 h2 => by
        rw [HLC.out]
        exact with_any b off n c zs k 2 2 rfl A2 2 2 [y, x] w' h h2 hkm hnc (by omega) (by omega) (by omega)
      go_wp2_with fail
      go_region_held3 (fun w' => w'.cell? ⟨b, off + k, none⟩ = some (.int .i64 x) ∧ w'.cell? ⟨b, off + k + 1, none⟩ = some (.int .i64 y))
        (first | exact ⟨hck, hcp⟩ | exact ⟨cellNewBelow hck hbw, cellNewBelow hcp hbw⟩ | exact ⟨(hb5.cell (p := ⟨b, off + k, none⟩) hbw).trans hck, (hb5.cell (p := ⟨b, off + k + 1, none⟩) hbw).trans hcp⟩)
        ((go_at_call 63; refine (HWI.out _ (by exact (HA.out.alloc _)) _ (by exact RI.lit2 _ y x)).mono ?_; rintro e w5 ⟨A5, c5, rfl, o5, hb⟩; have hb5 : Below w.heap.size w w5 := Below.trans (by repeat (first | exact Below.refl _ _ | refine Below.alloc ?_ (by simp) _ | refine below_drewN ?_ _ | refine Below.drew ?_)) (hb.mono (by simp)); have O5 := Lib.hid o5; clear hb))
      go_wp2
      go_ret2
      exact ⟨A5, c5, rfl, O5.out.mono (by simp), hb5⟩
    · rw [decide_eq_false hq, ifL_no]
      clear hc h hI hxe hye hb
      have hq1 : absd (x - y) < 2 := by omega
      go_enter Tryd.func48, Tryd.ntmps48
      go_wp2_with fail
      refine HPT.out.mono ?_
      rintro e w1 ⟨rfl, hw1⟩
      replace hw1 := hw1.symm
      subst hw1
      go_wp2
      go_quiet ((go_at_call 62; refine Calls.quiet_of_same (apart_any x y _ (by omega) (by omega))))
      go_wp2
      go_ret2
      exact ⟨none, 0, rfl, OI.none_ _ _, belowDrewN (Below.refl _ _) _⟩
  · rw [sldOk_no1 (zs := zs) (a := a) (by omega), ifL_no]
    have HPT := Lib.hid (part_no A n c a 2 w (by omega) (by omega) (by omega))
    clear h hI hb
    go_enter Tryd.func48, Tryd.ntmps48
    go_wp2_with fail
    refine HPT.out.mono ?_
    rintro e w1 ⟨rfl, hw1⟩
    replace hw1 := hw1.symm
    subst hw1
    go_wp2
    go_quiet (fail)
    go_wp2
    go_ret2
    exact ⟨none, 0, rfl, OI.none_ _ _, belowDrewN (Below.refl _ _) _⟩
end Go.Proofs.YtnogmbhcphglkaaDoor
