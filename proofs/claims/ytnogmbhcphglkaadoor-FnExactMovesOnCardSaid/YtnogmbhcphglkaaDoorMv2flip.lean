/- The contract of a move of rungs. -/
import Derived.Test.YtnogmbhcphglkaaDoorMv2
namespace Go.Proofs.YtnogmbhcphglkaaDoor
open Go Go.RowKit

set_option maxRecDepth 100000 in
set_option maxHeartbeats 600000 in
theorem flip_any (A : Option Addr) (n c : Nat) (zs : List Int) (a : Int) (w : World) (h : RI w A n zs) (hn : n ≤ 10000) (hnc : n ≤ c) (hI : Small zs) :
    Calls Tryd.prog 49 #[.slice A n c, .int .i64 a] w (FreshIB w (ifL (flpOk zs a) (flpL zs a.toNat)).length (ifL (flpOk zs a) (flpL zs a.toNat)) (flpOk zs a)) := by
  have hl := h.1
  by_cases hb : 0 ≤ a ∧ a + 3 ≤ n
  · obtain ⟨k, rfl⟩ : ∃ k : Nat, a = (k : Int) := ⟨a.toNat, by omega⟩
    rw [Int.toNat_natCast, flpOk_at (zs := zs) (k := k) (by omega)]
    obtain ⟨b, off, rfl, hbw, hc⟩ := h.2 (by omega)
    have HPT := Lib.hid (part_ok b off n c k 3 w (by omega) hnc (by omega) (by omega) (by omega))
    have hx := hI k (by omega)
    have hy := hI (k + 1) (by omega)
    have hck := hc k (by omega)
    have hcp := hc (k + 1) (by omega)
    rw [← Nat.add_assoc] at hcp
    have hkm : k + 3 ≤ n := by omega
    have HA := Lib.hid h
    have hz := hI (k + 2) (by omega)
    have hcq := hc (k + 2) (by omega)
    rw [← Nat.add_assoc] at hcq
    obtain ⟨x, hxe⟩ : ∃ x, x = gi zs k := ⟨_, rfl⟩
    obtain ⟨y, hye⟩ : ∃ y, y = gi zs (k + 1) := ⟨_, rfl⟩
    have HXE := Lib.hid hxe
    have HYE := Lib.hid hye
    rw [← hxe] at hx hck ⊢
    rw [← hye] at hy hcp ⊢
    obtain ⟨z, hze⟩ : ∃ z, z = gi zs (k + 2) := ⟨_, rfl⟩
    have HZE := Lib.hid hze
    rw [← hze] at hz hcq ⊢
    have HLC : Hid (flpL zs k = zs.take k ++ ([y, x, y] ++ zs.drop (k + 3))) := by show _ = _; rw [flpL_cat (by omega), HXE.out, HYE.out, List.append_assoc]
    by_cases hq0 : x = z
    · rw [decide_eq_true hq0, Bool.true_and]
      subst hq0
      have e0 : (x != x) = false := by simp
      by_cases hq : absd (x - y) = 1
      · rw [decide_eq_true hq, ifL_yes]
        have e1 : (absd (x - y) != 1) = false := by rw [bne_eq_false_iff_eq]; exact hq
        clear hc h hI hxe hye hze hb hq
        go_enter Tryd.func49, Tryd.ntmps49
        go_wp2_with fail
        refine HPT.out.mono ?_
        rintro e w1 ⟨rfl, hw1⟩
        replace hw1 := hw1.symm
        subst hw1
        go_wp2
        go_quiet ((go_at_call 62; refine Calls.quiet_of_same (apart_any x y _ (by omega) (by omega))))
        have HWI : Hid (∀ (w' : World), RI w' (some ⟨b, off, none⟩) n zs → ∀ (A2 : Option Addr), RI w' A2 3 [y, x, y] → Calls Tryd.prog 63 #[.slice (some ⟨b, off, none⟩) n c, .int .i64 (k : Int), .int .i64 3, .slice A2 3 3] w' (FreshI w' (flpL zs k).length (flpL zs k))) := fun w' h A2 h2 => by
          rw [HLC.out]
          exact with_any b off n c zs k 3 3 rfl A2 3 3 [y, x, y] w' h h2 hkm hnc (by omega) (by omega) (by omega)
        go_wp2_with fail
        go_region_held3 (fun w' => w'.cell? ⟨b, off + k, none⟩ = some (.int .i64 x) ∧ w'.cell? ⟨b, off + k + 1, none⟩ = some (.int .i64 y))
          (first | exact ⟨hck, hcp⟩ | exact ⟨cellNewBelow hck hbw, cellNewBelow hcp hbw⟩ | exact ⟨(hb5.cell (p := ⟨b, off + k, none⟩) hbw).trans hck, (hb5.cell (p := ⟨b, off + k + 1, none⟩) hbw).trans hcp⟩)
          ((go_at_call 63; refine (HWI.out _ (by exact (HA.out.alloc _)) _ (by exact RI.lit3 _ y x y)).mono ?_; rintro e w5 ⟨A5, c5, rfl, o5, hb⟩; have hb5 : Below w.heap.size w w5 := Below.trans (by repeat (first | exact Below.refl _ _ | refine Below.alloc ?_ (by simp) _ | refine below_drewN ?_ _ | refine Below.drew ?_)) (hb.mono (by simp)); have O5 := Lib.hid o5; clear hb))
        go_wp2
        go_ret2
        exact ⟨A5, c5, rfl, O5.out.mono (by simp), hb5⟩
      · rw [decide_eq_false hq, ifL_no]
        have e1 : (absd (x - y) != 1) = true := by rw [bne_iff_ne]; exact hq
        clear hc h hI hxe hye hze hb hq
        go_enter Tryd.func49, Tryd.ntmps49
        go_wp2_with fail
        refine HPT.out.mono ?_
        rintro e w1 ⟨rfl, hw1⟩
        replace hw1 := hw1.symm
        subst hw1
        go_wp2
        go_quiet ((go_at_call 62; refine Calls.quiet_of_same (apart_any x y _ (by omega) (by omega))))
        go_wp2
        go_ret2
        exact ⟨none, 0, rfl, OI.none_ _ _, belowDrewN (Below.refl _ _) _⟩
    · rw [decide_eq_false hq0, Bool.false_and, ifL_no]
      have e0 : (x != z) = true := by rw [bne_iff_ne]; exact hq0
      clear hc h hI hxe hye hze hb
      go_enter Tryd.func49, Tryd.ntmps49
      go_wp2_with fail
      refine HPT.out.mono ?_
      rintro e w1 ⟨rfl, hw1⟩
      replace hw1 := hw1.symm
      subst hw1
      go_wp2
      go_quiet ((go_at_call 62; refine Calls.quiet_of_same (apart_any x y _ (by omega) (by omega))))
      go_wp2
      go_ret2
      exact ⟨none, 0, rfl, OI.none_ _ _, belowDrewN (Below.refl _ _) _⟩
  · rw [flpOk_no1 (zs := zs) (a := a) (by omega), ifL_no]
    have HPT := Lib.hid (part_no A n c a 3 w (by omega) (by omega) (by omega))
    clear h hI hb
    go_enter Tryd.func49, Tryd.ntmps49
    go_wp2_with fail
    refine HPT.out.mono ?_
    rintro e w1 ⟨rfl, hw1⟩
    replace hw1 := hw1.symm
    subst hw1
    go_wp2
    go_quiet (fail)
    go_wp2
    go_ret2
    exact ⟨none, 0, rfl, OI.none_ _ _, belowDrewN (Below.refl _ _) _⟩
end Go.Proofs.YtnogmbhcphglkaaDoor
