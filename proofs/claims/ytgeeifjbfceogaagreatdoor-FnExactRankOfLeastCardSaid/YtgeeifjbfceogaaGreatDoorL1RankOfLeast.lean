/- The law of RankOfLeast, gone through: it returns true, and nothing that was there has turned. -/
import Derived.Test.YtgeeifjbfceogaaGreatDoorRk4
import Derived.Test.YtgeeifjbfceogaaGreatDoorMgC
namespace Go.Proofs.YtgeeifjbfceogaaGreatDoor
open Go Go.RowKit

set_option maxHeartbeats 1000000 in
theorem lawRankOfLeast_any (W : Int) (A : Option Addr) (n c : Nat) (zs : List Int) (w : World) (h : RI w A n zs) (hn : n ≤ 9223372036854775807) (hG : Glob w) :
    Calls Tryz.prog 8 #[.agg #[.int .i64 W, .slice A n c]] w (RetB true w) := by
  have HGL := Lib.hid hG
  clear hG
  by_cases hn2 : (n : Int) ≤ 1048576
  · have E := Lib.hid (szv_yes hn2).symm
    have hn3 : n ≤ 1048576 := by omega
    obtain ⟨r, hr⟩ : ∃ r, r = rnkN W zs := ⟨_, rfl⟩
    have HR := Lib.hid hr
    obtain ⟨q, hq⟩ : ∃ q, q = rlQ W zs := ⟨_, rfl⟩
    have HQ := Lib.hid hq
    have e0 : (q != q) = false := by simp
    have e1 : (r != r) = false := by simp
    clear hq hr
    go_enter Tryz.func8, Tryz.ntmps8
    go_wp2_with fail
    have HA := boxNew (W := W) (c := c) 41 h
    have HB := belAlloc (belRefl (w := w)) (.cells #[.int .i64 W, .slice A n c] 41)
    refine (szLadder_any W A n c _ _ (by omega) (by omega) hn).mono ?_
    rw [E.out]
    rintro e w1 ⟨rfl, hb⟩
    have HA := boxStep HA hb; have HB := belStep HB hb; have a0 := HA.out.c0; have a1 := HA.out.c1; have az := HA.out.lt
    clear hb h
    go_wp2_with fail
    refine (toLadder_any W A n c zs _ HA.out.ri hn3).mono ?_
    rintro e w2 ⟨A2, c2, rfl, o2, hb⟩
    replace HA := boxStep HA hb; replace HB := belStep HB hb; replace a0 := HA.out.c0; replace a1 := HA.out.c1; replace az := HA.out.lt; clear hb
    go_wp2_with fail
    refine (sRankOfLeast_any W A2 n c2 zs _ o2.ri hn3).mono ?_
    rw [← HR.out, ← HQ.out]
    rintro e w3 ⟨rfl, hb⟩
    clear o2
    replace HA := boxStep HA hb; replace HB := belStep HB hb; replace a0 := HA.out.c0; replace a1 := HA.out.c1; replace az := HA.out.lt; clear hb
    go_wp2_with fail
    refine (toLadder_any W A n c zs _ HA.out.ri hn3).mono ?_
    rintro e w4 ⟨A4, c4, rfl, o4, hb⟩
    replace HA := boxStep HA hb; replace HB := belStep HB hb; replace a0 := HA.out.c0; replace a1 := HA.out.c1; replace az := HA.out.lt; clear hb
    go_wp2_with fail
    have HX := boxNew (W := W) (c := c4) 44 o4.ri
    replace HA := boxAlloc HA (.cells #[.int .i64 W, .slice A4 n c4] 44)
    replace HB := belAlloc HB (.cells #[.int .i64 W, .slice A4 n c4] 44)
    refine (iRankOfLeast_any W A4 n c4 zs _ HX.out.ri hn3 (HGL.out.below HB.out)).mono ?_
    rw [← HR.out, ← HQ.out]
    rintro e w5 ⟨rfl, hb⟩
    clear o4
    replace HA := boxStep HA hb; replace HX := boxStep HX hb; replace HB := belStep HB hb; replace a0 := HA.out.c0; replace a1 := HA.out.c1; replace az := HA.out.lt; have x0 := HX.out.c0; have x1 := HX.out.c1; have xz := HX.out.lt; clear hb
    go_wp2_with fail
    have HD := boxDrew HA; have HXD := boxDrew HX; have HBD := belDrew HB
    go_region_held3 (fun w' => w'.cell? ⟨w.heap.size, 0, none⟩ = some (.int .i64 W) ∧ w'.cell? ⟨w.heap.size, 1, none⟩ = some (.slice A n c) ∧ w'.cell? ⟨w4.heap.size, 0, none⟩ = some (.int .i64 W) ∧ w'.cell? ⟨w4.heap.size, 1, none⟩ = some (.slice A4 n c4))
      (first | exact ⟨HA.out.c0, HA.out.c1, HX.out.c0, HX.out.c1⟩ | exact ⟨HA6.out.c0, HA6.out.c1, HX6.out.c0, HX6.out.c1⟩ | exact ⟨HA7.out.c0, HA7.out.c1, HX7.out.c0, HX7.out.c1⟩)
      (first
        | (go_at_call 30; refine (toLadder_any W A n c zs _ HD.out.ri hn3).mono ?_; rintro e w6 ⟨A6, c6, rfl, o6, hb⟩; have HA6 := boxStep HD hb; have HX6 := boxStep HXD hb; have HB6 := belStep HBD hb; clear hb)
        | (go_at_call 32; refine (eqLadder_any W A4 n c4 zs W A6 n c6 zs _ HX6.out.ri o6.ri hn3 hn3).mono ?_; rw [(eqSelf W zs).out]; rintro e w7 ⟨rfl, hb⟩; have HA7 := boxStep HA6 hb; have HX7 := boxStep HX6 hb; have HB7 := belStep HB6 hb; clear hb))
    go_wp2
    go_ret
    exact ⟨rfl, HB7.out⟩
  · have E := Lib.hid (szv_no hn2).symm
    go_enter Tryz.func8, Tryz.ntmps8
    go_wp2_with fail
    refine (szLadder_any W A n c _ _ (by omega) (by omega) hn).mono ?_
    rw [E.out]
    rintro e w1 ⟨rfl, hb⟩
    have HB := belStep (belAlloc (belRefl (w := w)) (.cells #[.int .i64 W, .slice A n c] 41)) hb
    clear hb h
    go_wp2_with fail
    go_ret
    exact ⟨rfl, HB.out⟩
end Go.Proofs.YtgeeifjbfceogaaGreatDoor
