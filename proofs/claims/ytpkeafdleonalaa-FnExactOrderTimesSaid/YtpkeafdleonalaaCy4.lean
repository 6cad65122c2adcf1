/- The contracts of SignOf, of the program and of its model. -/
import Derived.Test.YtpkeafdleonalaaCy3
import Derived.IntWalk
namespace Go.Proofs.Ytpkeafdleonalaa
open Go Go.RowKit

def signN (zs : List Int) : Int := if ord zs = true then sg (cycles zs) (cycles zs).length else 0
theorem signN_yes {zs : List Int} (h : ord zs = true) : signN zs = sg (cycles zs) (cycles zs).length := by unfold signN; rw [if_pos h]
theorem signN_no {zs : List Int} (h : ord zs = false) : signN zs = 0 := by unfold signN; rw [h]; rfl
theorem sg_two (zss : List (List Int)) (j : Nat) : sg zss j = 1 ∨ sg zss j = -1 := by
  rw [sg_par]; split
  · exact .inl rfl
  · exact .inr rfl

set_option maxRecDepth 100000 in
set_option maxHeartbeats 1000000 in
theorem laSign_any (A0 : Option Addr) (n c0 : Nat) (zs : List Int) (w : World) (h : RI w A0 n zs) (hq : ord zs = true) :
    Calls Try.prog 47 #[.slice A0 n c0] w (RetI (sg (cycles zs) (cycles zs).length) w) := by
  have HC := Lib.hid (laCycles_any A0 n c0 zs w h hq)
  have hY := cycles_sum (ord_inn hq) (ord_iff.1 hq).2.1
  have h8 := (ord_iff.1 hq).2.1
  obtain ⟨yss, hys⟩ : ∃ yss, yss = cycles zs := ⟨_, rfl⟩
  rw [← hys] at HC hY ⊢
  obtain ⟨m, hm⟩ : ∃ m, m = yss.length := ⟨_, rfl⟩
  rw [← hm]
  have HM := Lib.hid hm
  have hm8 : m ≤ 8 := by omega
  have hle : ∀ j, (gz yss j).length ≤ 8 := fun j => by have := gz_le_sum yss j; omega
  clear hys hm hY h8 hq h
  go_enter Try.func47, Try.ntmps47
  go_wp2_with fail
  refine HC.out.mono ?_
  rintro e w1 ⟨A, c, M, S, rfl, ho, hb⟩
  rw [← HM.out] at ho ⊢
  have HR := Lib.hid ho.rb
  have HB := Lib.hid hb
  clear ho hb
  go_wp2
  go_loop [3, 5, 9] (fun s _ i => ∃ k : Nat, k ≤ m ∧ i = .int .i64 k ∧ s = .int .i64 (sg yss k)) (fun _ _ i => m - (intOf i).toNat)
  case atStart => exact ⟨0, Nat.zero_le _, rfl, rfl⟩
  case round =>
    obtain ⟨k, hk, rfl, rfl⟩ := hrel
    by_cases hlt : k < m
    · obtain ⟨b, off, rfl, hbw, hc⟩ := HR.out.2.2 (by omega)
      obtain ⟨a, m1, d, hck, hra⟩ := hc k hlt
      have hl1 := hra.1
      have hl8 := hle k
      rw [hl1] at hl8
      have hr : Int.tmod (m1 : Int) 2 = (m1 : Int) % 2 := Int.tmod_eq_emod_of_nonneg (by omega)
      have hs := sg_two yss k
      have hneg : IntKind.i64.wrap (-(sg yss k)) = -(sg yss k) := IntWalk.i64_in _ (by omega)
      have i1 : (0 : Int) ≤ (k : Int) := by omega
      have i2 : (k : Int) < (m : Int) := by omega
      have HS : Hid (sg yss (k + 1) = if (m1 : Int) % 2 = 0 then - sg yss k else sg yss k) := by show sg yss (k + 1) = _; simp only [sg]; rw [hl1]
      clear hc hra hs
      by_cases hp : (m1 : Int) % 2 = 0
      · rw [hp] at hr
        have HP := Lib.hid hp
        clear hp
        go_wp2
        go_round
        case rel => exact ⟨k + 1, by omega, by go_num, by rw [HS.out, if_pos HP.out]⟩
        case measure => simp [intOf]; omega
      · have hr1 : (m1 : Int) % 2 = 1 := by omega
        rw [hr1] at hr
        have HP := Lib.hid hp
        clear hp hr1
        go_wp2
        go_round
        case rel => exact ⟨k + 1, by omega, by go_num, by rw [HS.out, if_neg HP.out]⟩
        case measure => simp [intOf]; omega
    · obtain rfl : k = m := by omega
      go_wp2
      go_ret
      exact ⟨rfl, HB.out⟩

set_option maxHeartbeats 400000 in
theorem sSignOf_any (A0 : Option Addr) (n c0 : Nat) (zs : List Int) (w : World) (h : RI w A0 n zs) (hn : n ≤ 1048576) (hnc : n ≤ c0) :
    Calls Try.prog 24 #[.slice A0 n c0] w (RetIB (signN zs) (ord zs) w) := by
  rcases hq : ord zs with _ | _
  · rw [signN_no hq]
    have HW := Lib.hid hq
    clear hq
    go_enter Try.func24, Try.ntmps24
    go_wp2_with fail
    refine (laOrder_any A0 n c0 zs _ h hn hnc).mono ?_
    rw [HW.out]
    rintro e w1 ⟨rfl, rfl⟩
    go_wp2
    go_ret2
    exact ⟨rfl, Below.refl _ _⟩
  · rw [signN_yes hq]
    have HW := Lib.hid hq
    clear hq
    go_enter Try.func24, Try.ntmps24
    go_wp2_with fail
    refine (laOrder_any A0 n c0 zs _ h hn hnc).mono ?_
    rw [HW.out]
    rintro e w1 ⟨rfl, rfl⟩
    go_wp2_with fail
    refine (laSign_any A0 n c0 zs _ h HW.out).mono ?_
    rintro e w2 ⟨rfl, hb⟩
    have HB := Lib.hid hb
    clear hb
    go_wp2
    go_ret2
    exact ⟨rfl, HB.out⟩

set_option maxHeartbeats 1000000 in
theorem iSignOf_any (A0 : Option Addr) (n c0 : Nat) (zs : List Int) (w : World) (h : RI w A0 n zs) (hn : n ≤ 1048576) (hnc : n ≤ c0) :
    Calls Try.prog 25 #[.slice A0 n c0] w (RetIB (signN zs) (ord zs) w) := by
  have HC := Lib.hid (iCyclesOf_any A0 n c0 zs w h hn hnc)
  have hl := h.1
  rcases hq : ord zs with _ | _
  · rw [signN_no hq]
    rw [hq, cycN_no hq] at HC
    clear hq h
    go_enter Try.func25, Try.ntmps25
    go_wp2_with fail
    refine HC.out.mono ?_
    rintro e w1 ⟨A, c, M, S, rfl, ho, hb⟩
    have HB := Lib.hid hb
    clear hb ho
    go_wp2
    go_ret2
    exact ⟨rfl, HB.out⟩
  · rw [signN_yes hq]
    rw [hq, cycN_yes hq] at HC
    have hY := cycles_sum (ord_inn hq) (ord_iff.1 hq).2.1
    have h8 := (ord_iff.1 hq).2.1
    have hsg := sg_par (cycles zs) (cycles zs).length
    rw [tot_all, hY.1, hl] at hsg
    obtain ⟨m, hm⟩ : ∃ m, m = (cycles zs).length := ⟨_, rfl⟩
    rw [← hm] at hsg hY ⊢
    have hmn : m ≤ n := by omega
    have hn8 : n ≤ 8 := by omega
    have HM := Lib.hid hm
    have hr : Int.tmod ((n : Int) - (m : Int)) 2 = ((n : Int) - (m : Int)) % 2 := Int.tmod_eq_emod_of_nonneg (by omega)
    clear hq h hm hY h8
    by_cases hp : ((n : Int) - (m : Int)) % 2 = 0
    · rw [if_pos hp] at hsg
      rw [hsg]
      rw [hp] at hr
      clear hp hsg
      go_enter Try.func25, Try.ntmps25
      go_wp2_with fail
      refine HC.out.mono ?_
      rintro e w1 ⟨A, c, M, S, rfl, ho, hb⟩
      rw [← HM.out]
      have HB := Lib.hid hb
      clear hb ho
      go_wp2
      go_ret2
      exact ⟨rfl, HB.out⟩
    · rw [if_neg hp] at hsg
      rw [hsg]
      have hr1 : ((n : Int) - (m : Int)) % 2 = 1 := by omega
      rw [hr1] at hr
      clear hp hsg hr1
      go_enter Try.func25, Try.ntmps25
      go_wp2_with fail
      refine HC.out.mono ?_
      rintro e w1 ⟨A, c, M, S, rfl, ho, hb⟩
      rw [← HM.out]
      have HB := Lib.hid hb
      clear hb ho
      go_wp2
      go_ret2
      exact ⟨rfl, HB.out⟩
end Go.Proofs.Ytpkeafdleonalaa
