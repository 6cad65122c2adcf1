/- Ratios in lowest terms, of the program and of its model. -/
import Derived.Test.YtbgkhehopldilaaCe2
import Derived.BigRegion
namespace Go.Proofs.Ytbgkhehopldilaa
open Go Go.RowKit

theorem gcd_next (x y : Nat) : Nat.gcd y (x % y) = Nat.gcd x y := by
  rw [Nat.gcd_comm x y, Nat.gcd_rec y x, Nat.gcd_comm]

set_option maxRecDepth 100000 in
set_option maxHeartbeats 1000000 in
theorem laCommon_any (a b : Nat) (w : World) (ha : a ≤ 4000000000000000000) (hb : b ≤ 4000000000000000000) : Calls Try.prog 37 #[.int .i64 (a : Int), .int .i64 (b : Int)] w (RetI ((Nat.gcd a b : Nat) : Int) w) := by
  go_enter Try.func37, Try.ntmps37
  go_wp2
  go_loopw [0, 1] (fun s t wr => ∃ x y : Nat, x ≤ 4000000000000000000 ∧ y ≤ 4000000000000000000 ∧ s = .int .i64 (x : Int) ∧ t = .int .i64 (y : Int) ∧ Nat.gcd x y = Nat.gcd a b ∧ Below w.heap.size w wr) (fun _ t _ => (intOf t).toNat)
  case atStart => exact ⟨a, b, ha, hb, rfl, rfl, rfl, Below.refl _ _⟩
  case round =>
    obtain ⟨x, y, hx, hy, rfl, rfl, hg, hbl⟩ := hrel
    have HG := Lib.hid hg
    have HB := Lib.hid hbl
    clear hg hbl
    rcases Nat.eq_zero_or_pos y with h0 | h0
    · have h1 : ¬ ((0 : Int) < (y : Int)) := by omega
      have H0 := Lib.hid h0
      clear h0
      go_wp2
      go_ret
      exact ⟨by rw [← HG.out, H0.out, Nat.gcd_zero_right]; rfl, HB.out⟩
    · have h1 : (0 : Int) < (y : Int) := by omega
      have h2 : ¬ ((y : Int) = 0) := by omega
      have hm : Int.tmod (x : Int) (y : Int) = ((x % y : Nat) : Int) := by rw [Int.tmod_eq_emod_of_nonneg (by omega)]; simp
      have hlt := Nat.mod_lt x h0
      have HY := Lib.hid hlt
      have hw : IntKind.i64.wrap ((x % y : Nat) : Int) = ((x % y : Nat) : Int) := IntWalk.i64_in _ (by omega)
      clear hlt
      go_wp2
      go_region
      all_goals
        go_wp2
        go_roundw
        case rel => exact ⟨y, x % y, hy, by have := HY.out; omega, rfl, by first | rfl | (congr 1), by rw [gcd_next]; exact HG.out, (by repeat (first | exact Below.refl _ _ | exact HB.out | refine Below.setCell ?_ (by simp <;> omega) _ | refine Below.alloc ?_ (by simp <;> omega) _ | refine below_drewN ?_ _))⟩
        case measure => have := HY.out; simp [intOf]; omega

/-- a ratio in lowest terms -/
def RetR (a d : Nat) (w : World) (e : Ending) (w' : World) : Prop :=
  e = .returned (.agg #[.int .i64 ((a / Nat.gcd a d : Nat) : Int), .int .i64 ((d / Nat.gcd a d : Nat) : Int)]) ∧ Below w.heap.size w w'

theorem div64 {a g : Nat} (ha : a ≤ 4000000000000000000) : IntKind.i64.wrap (Int.tdiv (a : Int) (g : Int)) = ((a / g : Nat) : Int) := by
  rw [show Int.tdiv (a : Int) (g : Int) = ((a / g : Nat) : Int) from rfl]
  have h := Nat.div_le_self a g
  obtain ⟨q, hq⟩ : ∃ q, q = a / g := ⟨_, rfl⟩
  rw [← hq] at h ⊢
  exact IntWalk.i64_in _ (by omega)

theorem div64' {a g : Nat} (ha : a ≤ 4000000000000000000) : wrap64 ((a : Int) / (g : Int)) = ((a / g : Nat) : Int) := by
  have h := Nat.div_le_self a g
  rw [show (a : Int) / (g : Int) = ((a / g : Nat) : Int) from rfl]
  obtain ⟨q, hq⟩ : ∃ q, q = a / g := ⟨_, rfl⟩
  rw [← hq] at h ⊢
  unfold wrap64
  omega

set_option maxRecDepth 100000 in
set_option maxHeartbeats 1000000 in
theorem ratioOf_any (a d : Nat) (w : World) (ha : a ≤ 4000000000000000000) (hd : d ≤ 4000000000000000000) (h0 : 0 < d) :
    Calls Try.prog 35 #[.int .i64 (a : Int), .int .i64 (d : Int)] w (RetR a d w) := by
  go_enter Try.func35, Try.ntmps35
  go_wp2
  go_loopw [5, 6] (fun s t wr => ∃ x y : Nat, x ≤ 4000000000000000000 ∧ y ≤ 4000000000000000000 ∧ s = .int .i64 (x : Int) ∧ t = .int .i64 (y : Int) ∧ Nat.gcd x y = Nat.gcd a d ∧ Cell2 wr w.heap.size (.int .i64 0) (.int .i64 0) ∧ Below w.heap.size w wr) (fun _ t _ => (intOf t).toNat)
  case atStart => exact ⟨d, a, hd, ha, rfl, rfl, Nat.gcd_comm _ _, (cellNew w _ _ _).out, (Below.refl _ _).alloc (Nat.le_refl _) _⟩
  case round =>
    obtain ⟨x, y, hx, hy, rfl, rfl, hg, hc, hbl⟩ := hrel
    have HG := Lib.hid hg
    have HB := Lib.hid hbl
    have HC := Lib.hid hc
    clear hg hbl hc
    rcases Nat.eq_zero_or_pos y with h1 | h1
    · have h2 : ¬ ((0 : Int) < (y : Int)) := by omega
      have hgx : x = Nat.gcd a d := by rw [← HG.out, h1, Nat.gcd_zero_right]
      have hxp : 0 < x := by rw [hgx]; exact Nat.gcd_pos_of_pos_right _ h0
      have h3 : ¬ ((x : Int) = 0) := by omega
      have d1 := div64' (g := x) ha
      have d2 := div64' (g := x) hd
      have HX := Lib.hid hgx
      have k0 := HC.out.c0; have k1 := HC.out.c1; have f0 := HC.out.f0; have f1 := HC.out.f1; have kz := HC.out.lt
      clear h1 hgx
      obtain ⟨q1, hq1⟩ : ∃ q : Nat, q = a / x := ⟨_, rfl⟩
      obtain ⟨q2, hq2⟩ : ∃ q : Nat, q = d / x := ⟨_, rfl⟩
      rw [← hq1] at d1
      rw [← hq2] at d2
      have HQ1 := Lib.hid hq1
      have HQ2 := Lib.hid hq2
      clear hq1 hq2
      go_wp2
      go_region
      all_goals
        go_wp2
        exact bodyPost_ret (v := .agg #[.int .i64 (q1 : Int), .int .i64 (q2 : Int)]) (by simp [results, Try.results35, go_sem, k0, k1]) rfl ⟨by rw [HQ1.out, HQ2.out, HX.out], (by repeat (first | exact Below.refl _ _ | exact HB.out | refine Below.setCell ?_ (by simp <;> omega) _ | refine Below.alloc ?_ (by simp <;> omega) _ | refine below_drewN ?_ _))⟩
    · have h2 : (0 : Int) < (y : Int) := by omega
      have h3 : ¬ ((y : Int) = 0) := by omega
      have hm : Int.tmod (x : Int) (y : Int) = ((x % y : Nat) : Int) := by rw [Int.tmod_eq_emod_of_nonneg (by omega)]; simp
      have hlt := Nat.mod_lt x h1
      have HY := Lib.hid hlt
      have hw : IntKind.i64.wrap ((x % y : Nat) : Int) = ((x % y : Nat) : Int) := IntWalk.i64_in _ (by omega)
      clear hlt
      go_wp2
      go_region
      all_goals
        go_wp2
        go_roundw
        case rel => exact ⟨y, x % y, hy, by have := HY.out; omega, rfl, by first | rfl | (congr 1), by rw [gcd_next]; exact HG.out, by first | exact HC.out | exact (cellDrew HC).out, (by repeat (first | exact Below.refl _ _ | exact HB.out | refine Below.setCell ?_ (by simp <;> omega) _ | refine Below.alloc ?_ (by simp <;> omega) _ | refine below_drewN ?_ _))⟩
        case measure => have := HY.out; simp [intOf]; omega

set_option maxHeartbeats 400000 in
theorem l1Most_any (a b : Int) (w : World) : Calls Try.prog 31 #[.int .i64 a, .int .i64 b] w (SameI (max a b) w) := by
  by_cases h : b < a
  · have E : Hid (max a b = a) := by show _ = _; omega
    go_enter Try.func31, Try.ntmps31
    go_wp2
    go_ret
    exact ⟨ret_i E.out.symm, rfl⟩
  · have E : Hid (max a b = b) := by show _ = _; omega
    go_enter Try.func31, Try.ntmps31
    go_wp2
    go_ret
    exact ⟨ret_i E.out.symm, rfl⟩
set_option maxHeartbeats 400000 in
theorem l1Abs_nat (a : Nat) (w : World) (ha : a ≤ 4000000000000000000) : Calls Try.prog 38 #[.int .i64 (a : Int)] w (SameI (a : Int) w) := by
  have E : Hid (max (a : Int) (-(a : Int)) = (a : Int)) := by show _ = _; omega
  have hai : (a : Int) ≤ 4000000000000000000 := by omega
  have hw : IntKind.i64.wrap (-(a : Int)) = -(a : Int) := IntWalk.i64_in _ (by omega)
  go_enter Try.func38, Try.ntmps38
  go_wp2_with (go_at_call 31; refine (l1Most_any _ _ _).mono ?_; rw [E.out]; rintro e w' ⟨rfl, rfl⟩)
  go_ret
  exact ⟨rfl, rfl⟩

set_option maxRecDepth 100000 in
set_option maxHeartbeats 1000000 in
theorem chRatio_any (a d : Nat) (w : World) (ha : a ≤ 4000000000000000000) (hd : d ≤ 4000000000000000000) (h0 : 0 < d) :
    Calls Try.prog 26 #[.int .i64 (a : Int), .int .i64 (d : Int)] w (RetR a d w) := by
  have hxp : 0 < Nat.gcd a d := Nat.gcd_pos_of_pos_right _ h0
  obtain ⟨x, hx⟩ : ∃ x, x = Nat.gcd a d := ⟨_, rfl⟩
  rw [← hx] at hxp
  have HX := Lib.hid hx
  have h3 : ¬ ((x : Int) = 0) := by omega
  have d1 := div64' (g := x) ha
  have d2 := div64' (g := x) hd
  obtain ⟨q1, hq1⟩ : ∃ q : Nat, q = a / x := ⟨_, rfl⟩
  obtain ⟨q2, hq2⟩ : ∃ q : Nat, q = d / x := ⟨_, rfl⟩
  rw [← hq1] at d1
  rw [← hq2] at d2
  have HQ1 := Lib.hid hq1
  have HQ2 := Lib.hid hq2
  clear hq1 hq2 hx
  go_enter Try.func26, Try.ntmps26
  go_wp2_with (go_at_call 38; refine (l1Abs_nat _ _ ha).mono ?_; rintro e w' ⟨rfl, rfl⟩)
  have HC := cellNew w (.int .i64 0) (.int .i64 0) 32
  have HB := belAlloc (belRefl (w := w)) (.cells #[.int .i64 0, .int .i64 0] 32)
  refine (laCommon_any a d _ ha hd).mono ?_
  rw [← HX.out]
  rintro e w1 ⟨rfl, hb⟩
  replace HC := cellStep HC hb
  replace HB := belStep HB hb
  have k0 := HC.out.c0; have k1 := HC.out.c1; have f0 := HC.out.f0; have f1 := HC.out.f1; have kz := HC.out.lt
  clear hb
  go_wp2
  go_region
  all_goals
    go_wp2
    exact bodyPost_ret (v := .agg #[.int .i64 (q1 : Int), .int .i64 (q2 : Int)]) (by simp [results, Try.results26, go_sem, k0, k1]) rfl ⟨by rw [HQ1.out, HQ2.out, HX.out], (by repeat (first | exact Below.refl _ _ | exact HB.out | refine Below.setCell ?_ (by simp <;> omega) _ | refine Below.alloc ?_ (by simp <;> omega) _ | refine below_drewN ?_ _))⟩

set_option maxHeartbeats 400000 in
theorem meanOf_any (s : Nat) (n k : Int) (w : World) (h : fallB n k = true) (hs : s ≤ 4000000000000000000) :
    Calls Try.prog 22 #[.int .i64 (s : Int), .int .i64 n, .int .i64 k] w (RetR s (allN n k) w) := by
  have HC0 : Hid (∀ w, Calls Try.prog 8 #[.int .i64 n, .int .i64 k] w (fun e w' => e = .returned (.tuple #[.int .i64 (allN n k : Int), .bool true]) ∧ w = w')) := fun w => iCountLadders_yes n k w h
  have HD : Hid (0 < allN n k ∧ allN n k ≤ 4000000000000000000) := by
    show _ ∧ _
    obtain ⟨⟨h2, h6⟩, hk0, hk⟩ := fallB_iff.1 h
    unfold allN
    have h1 := pow5 (m := n.toNat - 1) (j := k.toNat) (by omega) (by omega)
    have h3 := powPos (m := n.toNat - 1) (j := k.toNat) (by omega)
    omega
  obtain ⟨d, hd⟩ : ∃ d, d = allN n k := ⟨_, rfl⟩
  rw [← hd] at HC0 HD ⊢
  clear hd h
  have hd0 := HD.out.1
  have hd1 := HD.out.2
  obtain ⟨q1, hq1⟩ : ∃ q : Nat, q = s / Nat.gcd s d := ⟨_, rfl⟩
  obtain ⟨q2, hq2⟩ : ∃ q : Nat, q = d / Nat.gcd s d := ⟨_, rfl⟩
  have HR : Hid (∀ w, Calls Try.prog 35 #[.int .i64 (s : Int), .int .i64 (d : Int)] w (fun e w' => e = .returned (.agg #[.int .i64 (q1 : Int), .int .i64 (q2 : Int)]) ∧ Below w.heap.size w w')) := fun w => by
    have := ratioOf_any s d w hs hd1 hd0
    unfold RetR at this
    rw [← hq1, ← hq2] at this
    exact this
  unfold RetR
  rw [← hq1, ← hq2]
  clear hq1 hq2
  go_enter Try.func22, Try.ntmps22
  go_wp2_with (go_at_call 8; refine (HC0.out _).mono ?_; rintro e w' ⟨rfl, rfl⟩)
  have HC := cellNew w (.int .i64 0) (.int .i64 0) 32
  have HB := belAlloc (belRefl (w := w)) (.cells #[.int .i64 0, .int .i64 0] 32)
  refine (HR.out _).mono ?_
  rintro e w1 ⟨rfl, hb⟩
  replace HC := cellStep HC hb
  replace HB := belStep HB hb
  have k0 := HC.out.c0; have k1 := HC.out.c1; have f0 := HC.out.f0; have f1 := HC.out.f1; have kz := HC.out.lt
  clear hb
  go_wp2
  exact bodyPost_ret (v := .agg #[.int .i64 (q1 : Int), .int .i64 (q2 : Int)]) (by simp [results, Try.results22, go_sem, k0, k1]) rfl ⟨rfl, (by repeat (first | exact Below.refl _ _ | exact HB.out | refine Below.setCell ?_ (by simp <;> omega) _ | refine Below.alloc ?_ (by simp <;> omega) _ | refine below_drewN ?_ _))⟩
end Go.Proofs.Ytbgkhehopldilaa
