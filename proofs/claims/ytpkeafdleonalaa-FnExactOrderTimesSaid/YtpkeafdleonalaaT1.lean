/- The contracts of OrderTimes' model. -/
import Derived.Test.YtpkeafdleonalaaMathT
import Derived.Test.YtpkeafdleonalaaCy4
namespace Go.Proofs.Ytpkeafdleonalaa
open Go Go.RowKit

theorem gcd_next (x y : Nat) : Nat.gcd y (x % y) = Nat.gcd x y := by
  rw [Nat.gcd_comm x y, Nat.gcd_rec y x, Nat.gcd_comm]

set_option maxRecDepth 100000 in
set_option maxHeartbeats 1000000 in
theorem laCommon_any (a b : Nat) (w : World) (ha : a ≤ 1000000) (hb : b ≤ 1000000) : Calls Try.prog 34 #[.int .i64 (a : Int), .int .i64 (b : Int)] w (RetI ((Nat.gcd a b : Nat) : Int) w) := by
  go_enter Try.func34, Try.ntmps34
  go_wp2
  go_loopw [0, 1] (fun s t wr => ∃ x y : Nat, x ≤ 1000000 ∧ y ≤ 1000000 ∧ s = .int .i64 (x : Int) ∧ t = .int .i64 (y : Int) ∧ Nat.gcd x y = Nat.gcd a b ∧ Below w.heap.size w wr) (fun _ t _ => (intOf t).toNat)
  case atStart => exact ⟨a, b, ha, hb, rfl, rfl, rfl, Below.refl _ _⟩
  case round =>
    obtain ⟨x, y, hx, hy, rfl, rfl, hg, hbl⟩ := hrel
    have HG := Lib.hid hg
    have HB := Lib.hid hbl
    clear hg hbl
    rcases Nat.eq_zero_or_pos y with h0 | h0
    · have h1 : ¬ ((0 : Int) < (y : Int)) := by omega
      have H0 := Lib.hid h0
      clear h0
      go_wp2
      go_ret
      exact ⟨by rw [← HG.out, H0.out, Nat.gcd_zero_right]; rfl, HB.out⟩
    · have h1 : (0 : Int) < (y : Int) := by omega
      have h2 : ¬ ((y : Int) = 0) := by omega
      have hm : Int.tmod (x : Int) (y : Int) = ((x % y : Nat) : Int) := by rw [Int.tmod_eq_emod_of_nonneg (by omega)]; simp
      have hlt := Nat.mod_lt x h0
      have HY := Lib.hid hlt
      have hw : IntKind.i64.wrap ((x % y : Nat) : Int) = ((x % y : Nat) : Int) := IntWalk.i64_in _ (by omega)
      clear hlt
      go_wp2
      go_region
      all_goals
        go_wp2
        go_roundw
        case rel => exact ⟨y, x % y, hy, by have := HY.out; omega, rfl, by first | rfl | (congr 1), by rw [gcd_next]; exact HG.out, (by repeat (first | exact Below.refl _ _ | exact HB.out | refine Below.setCell ?_ (by simp <;> omega) _ | refine Below.alloc ?_ (by simp <;> omega) _ | refine below_drewN ?_ _))⟩
        case measure => have := HY.out; simp [intOf]; omega

def timesN (zs : List Int) : Int := if ord zs = true then (per zs : Int) else 0
theorem timesN_yes {zs : List Int} (h : ord zs = true) : timesN zs = (per zs : Int) := by unfold timesN; rw [if_pos h]
theorem timesN_no {zs : List Int} (h : ord zs = false) : timesN zs = 0 := by unfold timesN; rw [h]; rfl

set_option maxRecDepth 100000 in
set_option maxHeartbeats 2000000 in
theorem sOrderTimes_any (A0 : Option Addr) (n c0 : Nat) (zs : List Int) (w : World) (h : RI w A0 n zs) (hn : n ≤ 1048576) (hnc : n ≤ c0) :
    Calls Try.prog 9 #[.slice A0 n c0] w (RetIB (timesN zs) (ord zs) w) := by
  rcases hq : ord zs with _ | _
  · rw [timesN_no hq]
    have HW := Lib.hid hq
    clear hq
    go_enter Try.func9, Try.ntmps9
    go_wp2_with fail
    refine (laOrder_any A0 n c0 zs _ h hn hnc).mono ?_
    rw [HW.out]
    rintro e w1 ⟨rfl, rfl⟩
    go_wp2
    go_ret2
    exact ⟨rfl, Below.refl _ _⟩
  · rw [timesN_yes hq]
    have HC := Lib.hid (laCycles_any A0 n c0 zs w h hq)
    have HO := Lib.hid (laOrder_any A0 n c0 zs w h hn hnc)
    rw [hq] at HO
    have hY := cycles_sum (ord_inn hq) (ord_iff.1 hq).2.1
    have h8 := (ord_iff.1 hq).2.1
    have hP : Hid (∀ k, k ≤ (cycles zs).length → 0 < lcmK (cycles zs) k ∧ lcmK (cycles zs) k ≤ 256) := fun k hk => ⟨lcmK_pos hq k hk, lcmK_256 hq hk⟩
    have HPer : Hid (per zs = lcmK (cycles zs) (cycles zs).length) := rfl
    obtain ⟨yss, hys⟩ : ∃ yss, yss = cycles zs := ⟨_, rfl⟩
    rw [← hys] at HC hY hP HPer
    obtain ⟨m, hm⟩ : ∃ m, m = yss.length := ⟨_, rfl⟩
    rw [← hm] at hP HPer
    have HM := Lib.hid hm
    have hm8 : m ≤ 8 := by omega
    have hle : ∀ j, (gz yss j).length ≤ 8 := fun j => by have := gz_le_sum yss j; omega
    clear hys hm hY h8 hq h
    go_enter Try.func9, Try.ntmps9
    go_wp2_with fail
    refine HO.out.mono ?_
    rintro e w1 ⟨rfl, rfl⟩
    go_wp2_with fail
    refine HC.out.mono ?_
    rintro e w1 ⟨A, c, M, S, rfl, ho, hb⟩
    rw [← HM.out] at ho ⊢
    have HR := Lib.hid ho.rb
    have HB := Lib.hid hb
    clear ho hb
    go_wp2
    go_loopw [4, 6, 13] (fun s _ i wr => ∃ k : Nat, k ≤ m ∧ i = .int .i64 k ∧ s = .int .i64 ((lcmK yss k : Nat) : Int) ∧ Below w1.heap.size w1 wr) (fun _ _ i _ => m - (intOf i).toNat)
    case atStart => exact ⟨0, Nat.zero_le _, rfl, rfl, Below.refl _ _⟩
    case round =>
      obtain ⟨k, hk, rfl, rfl, hbl⟩ := hrel
      have HBL := Lib.hid hbl
      clear hbl
      by_cases hlt : k < m
      · obtain ⟨b, off, rfl, hbw, hc⟩ := (HR.out.step HBL.out).2.2 (by omega)
        obtain ⟨a, m1, d, hck, hra⟩ := hc k hlt
        have hl1 := hra.1
        have hl8 := hle k
        rw [hl1] at hl8
        have hp := hP.out k hk
        have hp1 := hP.out (k + 1) (by omega)
        have hbz : b < wr.heap.size := Nat.lt_of_lt_of_le hbw HBL.out.size
        have i1 : (0 : Int) ≤ (k : Int) := by omega
        have i2 : (k : Int) < (m : Int) := by omega
        obtain ⟨t, ht⟩ : ∃ t, t = lcmK yss k := ⟨_, rfl⟩
        have HS : Hid (lcmK yss (k + 1) = t / Nat.gcd t m1 * m1) := by show _ = _; rw [lcm_step, ht, ← hl1]; rfl
        rw [← ht] at hp ⊢
        have hz : (t : Int) ≤ 256 := by omega
        clear hc hra ht
        have hd : Int.tdiv (t : Int) ((Nat.gcd t m1 : Nat) : Int) = ((t / Nat.gcd t m1 : Nat) : Int) := by rw [Int.tdiv_eq_ediv_of_nonneg (by omega)]; simp
        have hg0 : ¬ (((Nat.gcd t m1 : Nat) : Int) = 0) := by have := Nat.gcd_pos_of_pos_left m1 hp.1; omega
        obtain ⟨g, hg⟩ : ∃ g, g = Nat.gcd t m1 := ⟨_, rfl⟩
        rw [← hg] at hd hg0 HS
        have hq1 : t / g ≤ 256 := Nat.le_trans (Nat.div_le_self _ _) hp.2
        have HLQ : Hid (((t / g : Nat) : Int) * (m1 : Int) = ((lcmK yss (k + 1) : Nat) : Int)) := by show _ = _; rw [HS.out]; simp
        obtain ⟨u, hu⟩ : ∃ u, u = t / g := ⟨_, rfl⟩
        rw [← hu] at hd HLQ hq1
        have hmul := HLQ.out
        have HG := Lib.hid hg
        clear hg hu HS
        go_wp2_with fail
        refine (laCommon_any t m1 _ (by omega) (by omega)).mono ?_
        rw [← HG.out]
        rintro e w2 ⟨rfl, hb2⟩
        have HB2 := Lib.hid (HBL.out.trans (hb2.mono HBL.out.size))
        clear hb2
        go_wp2
        go_roundw
        case rel => exact ⟨k + 1, by omega, by go_num, by rw [← HLQ.out], HB2.out⟩
        case measure => simp [intOf]; omega
      · obtain rfl : k = m := by omega
        go_wp2
        go_ret2
        exact ⟨by rw [HPer.out]; rfl, HB.out.trans (HBL.out.mono HB.out.size)⟩
end Go.Proofs.Ytpkeafdleonalaa
