/- BrickOrder, of the program and of its model. -/
import Derived.Test.YtnhhbpogjhcibaaBk2
import Derived.Test.YtnhhbpogjhcibaaMgP
import Derived.Test.YtnhhbpogjhcibaaStP
namespace Go.Proofs.Ytnhhbpogjhcibaa
open Go Go.RowKit

def boL (x y : Int) : List Int := if bkB x y = true then res (oeK x.toNat y.toNat) x.toNat else []
theorem boL_yes {x y : Int} (h : bkB x y = true) : boL x y = res (oeK x.toNat y.toNat) x.toNat := by unfold boL; rw [if_pos h]
theorem boL_no {x y : Int} (h : bkB x y = false) : boL x y = [] := by unfold boL; rw [h]; rfl
theorem bkB_iff {x y : Int} (h : bkB x y = true) : (2 ≤ x ∧ x ≤ 8) ∧ (0 ≤ y ∧ y ≤ 20) ∧ lad x (oeK x.toNat y.toNat) = true := by
  unfold bkB at h
  simp only [Bool.and_eq_true] at h
  exact ⟨inB_iff.1 h.1.1, inB_iff.1 h.1.2, h.2⟩
theorem boL_len (x y : Int) : (boL x y).length ≤ 1000 := by
  rcases h : bkB x y with _ | _
  · rw [boL_no h]; simp
  · rw [boL_yes h, res_length]; have := (bkB_iff h).1; omega
theorem bkL_yes {x y : Int} (h : bkB x y = true) : bkL x y = oeK x.toNat y.toNat := by unfold bkL; rw [h, ifL_yes]

set_option maxRecDepth 100000 in
set_option maxHeartbeats 1000000 in
theorem iBrickOrder_any (x y : Int) (w : World) :
    Calls Try.prog 44 #[.int .i64 x, .int .i64 y] w (FreshIB w (boL x y).length (boL x y) (bkB x y)) := by
  have HB := belRefl (w := w)
  have HI := Lib.hid (fun w2 => iBrickLadder_any x y w2)
  have hl := bkL_len x y
  rcases hq : bkB x y with _ | _
  · rw [boL_no hq]
    rw [hq] at HI
    obtain ⟨ys, hys⟩ : ∃ ys, ys = bkL x y := ⟨_, rfl⟩
    rw [← hys] at HI hl
    rw [ifW_no] at HI
    clear hq hys
    go_enter Try.func44, Try.ntmps44
    go_wp2_with fail
    refine (HI.out _).mono ?_
    rintro e w1 ⟨A1, c1, rfl, o1, hb⟩
    replace HB := belStep HB hb
    have HO := Lib.hid o1
    clear hb o1
    go_wp2
    go_ret2
    exact ⟨none, 0, rfl, OI.none_ _ _, (belAlloc HB _).out⟩
  · have hx := (bkB_iff hq).1
    have hlad := (bkB_iff hq).2.2
    obtain ⟨n, rfl⟩ : ∃ n : Nat, x = (n : Int) := ⟨x.toNat, by omega⟩
    rw [boL_yes hq, Int.toNat_natCast]
    rw [bkL_yes hq, hq, ifW_yes, Int.toNat_natCast] at HI
    rw [bkL_yes hq, Int.toNat_natCast] at hl
    rw [Int.toNat_natCast] at hlad
    obtain ⟨ys, hys⟩ : ∃ ys, ys = oeK n y.toNat := ⟨_, rfl⟩
    rw [← hys] at HI hl hlad ⊢
    rw [res_length]
    have HR := Lib.hid (fun A c w2 (r : RI w2 A ys.length ys) => iResultOf_any (n : Int) A ys.length c ys w2 r (by omega))
    rw [resN_yes hlad, Int.toNat_natCast, res_length, hlad] at HR
    clear hq hys hlad
    go_enter Try.func44, Try.ntmps44
    go_wp2_with fail
    refine (HI.out _).mono ?_
    rintro e w1 ⟨A1, c1, rfl, o1, hb⟩
    replace HB := belStep HB hb
    have HO := Lib.hid o1
    clear hb o1
    have hzz := HB.out.size
    go_wp2_with fail
    have HX := boxNew (W := (n : Int)) (c := c1) 24 HO.out.ri
    replace HB := belAlloc HB (.cells #[.int .i64 (n : Int), .slice A1 ys.length c1] 24)
    refine (HR.out A1 c1 _ HX.out.ri).mono ?_
    rintro e w2 ⟨A2, c2, rfl, o2, hb⟩
    replace HB := belStep HB hb
    have HO2 := Lib.hid o2
    clear hb o2
    go_wp2
    go_ret2
    exact ⟨A2, c2, rfl, HO2.out.mono (by simp; omega), HB.out⟩

set_option maxRecDepth 100000 in
set_option maxHeartbeats 1000000 in
theorem sBrickOrder_any (x y : Int) (w : World) :
    Calls Try.prog 43 #[.int .i64 x, .int .i64 y] w (FreshIB w (boL x y).length (boL x y) (bkB x y)) := by
  have HB := belRefl (w := w)
  have HI := Lib.hid (fun w2 => sBrickLadder_any x y w2)
  have hl := bkL_len x y
  rcases hq : bkB x y with _ | _
  · rw [boL_no hq]
    rw [hq] at HI
    obtain ⟨ys, hys⟩ : ∃ ys, ys = bkL x y := ⟨_, rfl⟩
    rw [← hys] at HI hl
    rw [ifW_no] at HI
    clear hq hys
    go_enter Try.func43, Try.ntmps43
    go_wp2_with fail
    refine (HI.out _).mono ?_
    rintro e w1 ⟨A1, c1, rfl, o1, hb⟩
    replace HB := belStep HB hb
    have HO := Lib.hid o1
    clear hb o1
    go_wp2
    go_ret2
    exact ⟨none, 0, rfl, OI.none_ _ _, (belAlloc HB _).out⟩
  · have hx := (bkB_iff hq).1
    have hlad := (bkB_iff hq).2.2
    obtain ⟨n, rfl⟩ : ∃ n : Nat, x = (n : Int) := ⟨x.toNat, by omega⟩
    rw [boL_yes hq, Int.toNat_natCast]
    rw [bkL_yes hq, hq, ifW_yes, Int.toNat_natCast] at HI
    rw [bkL_yes hq, Int.toNat_natCast] at hl
    rw [Int.toNat_natCast] at hlad
    obtain ⟨ys, hys⟩ : ∃ ys, ys = oeK n y.toNat := ⟨_, rfl⟩
    rw [← hys] at HI hl hlad ⊢
    rw [res_length]
    have HR := Lib.hid (fun A c w2 (r : RI w2 A ys.length ys) => laResult_any n A ys.length c ys w2 r (by omega) hlad)
    clear hq hys hlad
    go_enter Try.func43, Try.ntmps43
    go_wp2_with fail
    refine (HI.out _).mono ?_
    rintro e w1 ⟨A1, c1, rfl, o1, hb⟩
    replace HB := belStep HB hb
    have HO := Lib.hid o1
    clear hb o1
    have hzz := HB.out.size
    have HX := boxNew (W := (n : Int)) (c := c1) 24 HO.out.ri
    have a0 := HX.out.c0; have a1 := HX.out.c1
    go_wp2_with fail
    replace HB := belAlloc HB (.cells #[.int .i64 (n : Int), .slice A1 ys.length c1] 24)
    refine (HR.out A1 c1 _ HX.out.ri).mono ?_
    rintro e w2 ⟨A2, c2, rfl, o2, hb⟩
    replace HB := belStep HB hb
    have HO2 := Lib.hid o2
    clear hb o2
    go_wp2
    go_ret2
    exact ⟨A2, c2, rfl, HO2.out.mono (by simp; omega), HB.out⟩

end Go.Proofs.Ytnhhbpogjhcibaa
