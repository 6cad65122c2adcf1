/- The contracts of the places around a pole. -/
import Derived.Test.YtpkdeoehfnnchaaPo3
import Derived.Test.YtpkdeoehfnnchaaMgC
namespace Go.Proofs.Ytpkdeoehfnnchaa
open Go Go.RowKit

/-- a place, and nothing that was there has turned -/
def RetP2 (x y : Int) (w : World) (e : Ending) (w' : World) : Prop := e = .returned (.agg #[.int .i64 x, .int .i64 y]) ∧ Below w.heap.size w w'

theorem tm1 {a b W x : Int} (hx : x = a + W * b) (h0 : 0 ≤ x) (ha : 0 ≤ a ∧ a < W) : x.tmod W = a := by
  rw [Int.tmod_eq_emod_of_nonneg h0, hx, Int.add_mul_emod_self_left]
  exact Int.emod_eq_of_lt ha.1 ha.2
theorem tm2 {a b W x : Int} (hx : x = a + W * b) (h0 : x < 0) (ha : 0 ≤ a ∧ a < W) : x.tmod W = if a = 0 then 0 else a - W := by
  have e : x.tmod W = -((-x).tmod W) := by rw [Int.neg_tmod]; omega
  rw [e, Int.tmod_eq_emod_of_nonneg (by omega)]
  split
  · rename_i h
    rw [hx, h, show -(0 + W * b) = W * (-b) by rw [Int.mul_neg]; omega, Int.mul_emod_right]
    rfl
  · rename_i h
    rw [hx, show -(a + W * b) = (W - a) + W * (-b - 1) by rw [Int.mul_sub, Int.mul_neg]; omega, Int.add_mul_emod_self_left, Int.emod_eq_of_lt (by omega) (by omega)]
    omega
theorem td1 {a b W x : Int} (hx : x = a + W * b) (hW : 0 < W) : (x - a).tdiv W = b := by
  rw [hx, show a + W * b - a = W * b by omega]
  exact Int.mul_tdiv_cancel_left _ (by omega)

set_option maxHeartbeats 1000000 in
theorem placeAt_any (a b W x : Int) (w : World) (hx : x = a + W * b) (hW : 3 ≤ W ∧ W ≤ 8) (ha : 0 ≤ a ∧ a < W) (h0 : -100000000 ≤ x) (h1 : x ≤ 100000000) (hb : -100000000 ≤ b ∧ b ≤ 100000000) :
    Calls Try.prog 35 #[.int .i64 x, .int .i64 W] w (RetP2 a b w) := by
  have e2 := td1 (a := a) hx (by omega)
  have ew : wrap64 b = b := Go.IntWalk.wrap64_in _ (by omega)
  by_cases hp : 0 ≤ x
  · have e1 := tm1 hx hp ha
    clear hx
    go_enter Try.func35, Try.ntmps35
    go_wp2
    exact bodyPost_ret (v := .agg #[.int .i64 a, .int .i64 b]) (by simp [results, Try.results35, go_sem]) rfl ⟨rfl, (by repeat (first | exact Below.refl _ _ | exact HB.out | refine Below.setCell ?_ (by simp <;> omega) _ | refine Below.alloc ?_ (by simp <;> omega) _ | refine below_drewN ?_ _))⟩
  · have e1 := tm2 hx (by omega) ha
    by_cases h : a = 0
    · subst h
      rw [if_pos rfl] at e1
      have e4 : x.tdiv W = b := by rwa [Int.sub_zero] at e2
      clear hx
      go_enter Try.func35, Try.ntmps35
      go_wp2
      exact bodyPost_ret (v := .agg #[.int .i64 0, .int .i64 b]) (by simp [results, Try.results35, go_sem]) rfl ⟨rfl, (by repeat (first | exact Below.refl _ _ | exact HB.out | refine Below.setCell ?_ (by simp <;> omega) _ | refine Below.alloc ?_ (by simp <;> omega) _ | refine below_drewN ?_ _))⟩
    · rw [if_neg h] at e1
      have e3 : a - W + W = a := by omega
      clear hx
      go_enter Try.func35, Try.ntmps35
      go_wp2
      exact bodyPost_ret (v := .agg #[.int .i64 a, .int .i64 b]) (by simp [results, Try.results35, go_sem]) rfl ⟨rfl, (by repeat (first | exact Below.refl _ _ | exact HB.out | refine Below.setCell ?_ (by simp <;> omega) _ | refine Below.alloc ?_ (by simp <;> omega) _ | refine below_drewN ?_ _))⟩

set_option maxHeartbeats 1000000 in
theorem number_any (a b W x : Int) (w : World) (hx : x = a + W * b) (hW : 3 ≤ W ∧ W ≤ 8) (ha : 0 ≤ a ∧ a < W) (hb : -10000000 ≤ b ∧ b ≤ 10000000) :
    Calls Try.prog 47 #[.agg #[.int .i64 a, .int .i64 b], .int .i64 W] w (RetI x w) := by
  have hm : -100000000 ≤ W * b ∧ W * b ≤ 100000000 := by
    obtain ⟨h1, h2⟩ := hW
    have c1 : W * b ≤ 8 * 10000000 := by
      rcases Int.le_total 0 b with h | h
      · calc W * b ≤ 8 * b := Int.mul_le_mul_of_nonneg_right h2 h
          _ ≤ _ := by omega
      · have := Int.mul_nonpos_of_nonneg_of_nonpos (a := W) (b := b) (by omega) h; omega
    have c2 : -(8 * 10000000) ≤ W * b := by
      rcases Int.le_total 0 b with h | h
      · have := Int.mul_nonneg (a := W) (b := b) (by omega) h; omega
      · calc -(8 * 10000000) ≤ 8 * b := by omega
          _ ≤ W * b := Int.mul_le_mul_of_nonpos_right h2 h
    omega
  have ew : wrap64 (W * b) = W * b := Go.IntWalk.wrap64_in _ (by omega)
  have ew2 : wrap64 (a + W * b) = x := by rw [hx]; exact Go.IntWalk.wrap64_in _ (by omega)
  go_enter Try.func47, Try.ntmps47
  go_wp2
  go_ret
  exact ⟨ret_i hx.symm, (by repeat (first | exact Below.refl _ _ | exact HB.out | refine Below.setCell ?_ (by simp <;> omega) _ | refine Below.alloc ?_ (by simp <;> omega) _ | refine below_drewN ?_ _))⟩

/-- one more rung: the number behind it -/
theorem step_up {a b W r : Int} (ha : a = r) : a + W * b + 1 = pstep W a r + W * (b + pwind W a r) := by
  subst ha
  unfold pstep pwind pnext
  rw [if_pos rfl]
  by_cases h : a + 1 = W
  · rw [if_pos h, if_pos h, if_pos rfl, Int.mul_add]; omega
  · rw [if_neg h, if_neg h, Int.mul_add]; omega
theorem step_down {a b W r : Int} (hne : a ≠ r) (ha : a = pnext W r) : a + W * b - 1 = pstep W a r + W * (b + pwind W a r) := by
  unfold pstep pwind
  rw [if_neg hne, if_pos ha, if_neg hne]
  unfold pnext at ha
  by_cases h : r + 1 = W
  · rw [if_pos h] at ha
    rw [if_pos h, if_pos ha, Int.mul_add]; omega
  · rw [if_neg h] at ha
    rw [if_neg h, Int.mul_add]; omega
theorem step_no {a W r : Int} (hne : a ≠ r) (ha : a ≠ pnext W r) : pstep W a r = a ∧ pwind W a r = 0 := by
  unfold pstep pwind
  rw [if_neg hne, if_neg ha, if_neg hne]
  unfold pnext at ha
  refine ⟨rfl, ?_⟩
  by_cases h : r + 1 = W
  · rw [if_pos h] at ha
    rw [if_pos h, if_neg ha]
  · rw [if_neg h]
theorem next_mod {W r : Int} (hr : 0 ≤ r ∧ r ≤ W - 1) : (r + 1).tmod W = pnext W r := by
  rw [Int.tmod_eq_emod_of_nonneg (by omega)]
  unfold pnext
  split
  · rename_i h; rw [h]; exact Int.emod_self
  · exact Int.emod_eq_of_lt (by omega) (by omega)

set_option maxHeartbeats 2000000 in
theorem placeOver_any (a b W r : Int) (w : World) (hW : 3 ≤ W ∧ W ≤ 8) (ha : 0 ≤ a ∧ a < W) (hr : 0 ≤ r ∧ r ≤ W - 1) (hb : -1000000 ≤ b ∧ b ≤ 1000000) :
    Calls Try.prog 45 #[.agg #[.int .i64 a, .int .i64 b], .int .i64 r, .int .i64 W] w (RetP2 (pstep W a r) (b + pwind W a r) w) := by
  have em := next_mod hr
  have hp := pstep_le (W := W) (s := a) (r := r) (by omega) hr
  have hq := pwind_le W a r
  have hm : -10000000 ≤ a + W * b ∧ a + W * b ≤ 10000000 := by
    obtain ⟨h1, h2⟩ := hW
    have c1 : W * b ≤ 8 * 1000000 := by
      rcases Int.le_total 0 b with h | h
      · calc W * b ≤ 8 * b := Int.mul_le_mul_of_nonneg_right h2 h
          _ ≤ _ := by omega
      · have := Int.mul_nonpos_of_nonneg_of_nonpos (a := W) (b := b) (by omega) h; omega
    have c2 : -(8 * 1000000) ≤ W * b := by
      rcases Int.le_total 0 b with h | h
      · have := Int.mul_nonneg (a := W) (b := b) (by omega) h; omega
      · calc -(8 * 1000000) ≤ 8 * b := by omega
          _ ≤ W * b := Int.mul_le_mul_of_nonpos_right h2 h
    omega
  by_cases h1 : a = r
  · have E := Lib.hid (step_up (b := b) (W := W) h1)
    have e1 : (a == r) = true := beq_iff_eq.2 h1
    obtain ⟨x, hx⟩ : ∃ x, x = a + W * b := ⟨_, rfl⟩
    obtain ⟨a', ha'⟩ : ∃ z, z = pstep W a r := ⟨_, rfl⟩
    obtain ⟨b', hb'⟩ : ∃ z, z = b + pwind W a r := ⟨_, rfl⟩
    rw [← hx, ← ha', ← hb'] at E
    rw [← ha', ← hb']
    rw [← hx] at hm
    rw [← ha'] at hp
    have hb2 : -1000001 ≤ b' ∧ b' ≤ 1000001 := by omega
    have HX := Lib.hid hx
    have HQ := Lib.hid (number_any a b W x · hx hW ha (by omega))
    have HR := Lib.hid (placeAt_any a' b' W (x + 1) · E.out hW (by omega) (by omega) (by omega) (by omega))
    clear hx ha' hb' hq h1
    go_enter Try.func45, Try.ntmps45
    go_wp2_with fail
    have HB := belAlloc (belAlloc (belRefl (w := w)) (.cells #[.int .i64 a, .int .i64 b] 53)) (.cells #[.int .i64 0, .int .i64 0] 53)
    have HC := cellNew (w.alloc (.cells #[.int .i64 a, .int .i64 b] 53)) (.int .i64 0) (.int .i64 0) 53
    refine (HQ.out _).mono ?_
    rintro e w1 ⟨rfl, hb⟩
    replace HB := belStep HB hb
    replace HC := cellStep HC hb
    clear hb
    go_wp2_with fail
    refine (HR.out _).mono ?_
    rintro e w2 ⟨rfl, hb⟩
    replace HB := belStep HB hb
    replace HC := cellStep HC hb
    have k0 := HC.out.c0; have k1 := HC.out.c1; have f0 := HC.out.f0; have f1 := HC.out.f1; have hz := HC.out.lt
    simp only [World.size_alloc] at k0 k1 f0 f1 hz
    clear hb
    go_wp2
    exact bodyPost_ret (v := .agg #[.int .i64 a', .int .i64 b']) (by simp [results, Try.results45, go_sem, k0, k1]) rfl ⟨rfl, (by repeat (first | exact Below.refl _ _ | exact HB.out | refine Below.setCell ?_ (by simp <;> omega) _ | refine Below.alloc ?_ (by simp <;> omega) _ | refine below_drewN ?_ _))⟩
  · by_cases h2 : a = pnext W r
    · have E := Lib.hid (step_down (b := b) (W := W) h1 h2)
      have e1 : (a == r) = false := beq_eq_false_iff_ne.2 h1
      have e2 : (a == pnext W r) = true := beq_iff_eq.2 h2
      obtain ⟨x, hx⟩ : ∃ x, x = a + W * b := ⟨_, rfl⟩
      obtain ⟨a', ha'⟩ : ∃ z, z = pstep W a r := ⟨_, rfl⟩
      obtain ⟨b', hb'⟩ : ∃ z, z = b + pwind W a r := ⟨_, rfl⟩
      rw [← hx, ← ha', ← hb'] at E
      rw [← ha', ← hb']
      rw [← hx] at hm
      rw [← ha'] at hp
      have hb2 : -1000001 ≤ b' ∧ b' ≤ 1000001 := by omega
      have HX := Lib.hid hx
      have HQ := Lib.hid (number_any a b W x · hx hW ha (by omega))
      have HR := Lib.hid (placeAt_any a' b' W (x - 1) · E.out hW (by omega) (by omega) (by omega) (by omega))
      clear hx ha' hb' hq h1 h2
      go_enter Try.func45, Try.ntmps45
      go_wp2_with fail
      have HB := belAlloc (belAlloc (belRefl (w := w)) (.cells #[.int .i64 a, .int .i64 b] 53)) (.cells #[.int .i64 0, .int .i64 0] 53)
      have HC := cellNew (w.alloc (.cells #[.int .i64 a, .int .i64 b] 53)) (.int .i64 0) (.int .i64 0) 53
      refine (HQ.out _).mono ?_
      rintro e w1 ⟨rfl, hb⟩
      replace HB := belStep HB hb
      replace HC := cellStep HC hb
      clear hb
      go_wp2_with fail
      refine (HR.out _).mono ?_
      rintro e w2 ⟨rfl, hb⟩
      replace HB := belStep HB hb
      replace HC := cellStep HC hb
      have k0 := HC.out.c0; have k1 := HC.out.c1; have f0 := HC.out.f0; have f1 := HC.out.f1; have hz := HC.out.lt
      simp only [World.size_alloc] at k0 k1 f0 f1 hz
      clear hb
      go_wp2
      exact bodyPost_ret (v := .agg #[.int .i64 a', .int .i64 b']) (by simp [results, Try.results45, go_sem, k0, k1]) rfl ⟨rfl, (by repeat (first | exact Below.refl _ _ | exact HB.out | refine Below.setCell ?_ (by simp <;> omega) _ | refine Below.alloc ?_ (by simp <;> omega) _ | refine below_drewN ?_ _))⟩
    · have e1 : (a == r) = false := beq_eq_false_iff_ne.2 h1
      have e2 : (a == pnext W r) = false := beq_eq_false_iff_ne.2 h2
      obtain ⟨ea, eb⟩ := step_no h1 h2
      rw [ea, eb, Int.add_zero]
      clear ea eb h1 h2 hp hq
      go_enter Try.func45, Try.ntmps45
      go_wp2
      exact bodyPost_ret (v := .agg #[.int .i64 a, .int .i64 b]) (by simp [results, Try.results45, go_sem]) rfl ⟨rfl, (by repeat (first | exact Below.refl _ _ | exact HB.out | refine Below.setCell ?_ (by simp <;> omega) _ | refine Below.alloc ?_ (by simp <;> omega) _ | refine below_drewN ?_ _))⟩
end Go.Proofs.Ytpkdeoehfnnchaa
