/- The model's taking game: the rung that is taken with best play. -/
import Derived.Test.YtiapbmgpjloafaaGn2
import Derived.Test.YtiapbmgpjloafaaGn3
namespace Go.Proofs.Ytiapbmgpjloafaa
open Go Go.RowKit

/-- is the outlook behind one rung the set's own one? -/
theorem beh_iff {u v : OutP} : behP u = v ↔ v.1 = !u.1 ∧ v.2 = u.2 + 1 := by
  obtain ⟨a, m⟩ := u
  obtain ⟨b, k⟩ := v
  unfold behP
  simp only [Prod.mk.injEq]
  exact ⟨fun ⟨h1, h2⟩ => ⟨h1.symm, h2.symm⟩, fun ⟨h1, h2⟩ => ⟨h1.symm, h2.symm⟩⟩

set_option maxRecDepth 100000 in
set_option maxHeartbeats 8000000 in
theorem best_any (g hb lb P : Nat) (N : Nat) (A : Option Addr) (n c : Nat) (zs : List Int) (S : Nat) (w : World) (hz : zs.length = n) (hn : n ≤ 12) (hP4 : P ≤ 4096) (hS : S < P) (hh : homeQ zs N S = false)
    (hT : TK w g hb lb P (N : Int) A n c) (hRH : w.rowIs hb 4 P (fun a => .bool (homeQ zs N a))) (hRL : w.rowIs lb 3 P (fun a => .int .i64 (scO (ovS zs N a)))) :
    Calls Try.prog 42 #[.pointer (some ⟨g, 0, none⟩), .int .i64 (S : Int)] w (fun e w' => e = .returned (.int .i64 (bxT (chL zs N) nxT (ovS zs N) S)) ∧ w' = w) := by
  have g0 := hT.c0; have g1 := hT.c1; have g2 := hT.c2; have g3 := hT.c3; have gz := hT.lt
  have HRH := Lib.hid hRH; have HRL := Lib.hid hRL
  have hlS := hRL.cell hS
  have hpos := ovS_pos (zs := zs) (N := N) hh
  have hle := ovS_le (zs := zs) (N := N) S
  have HBX := Lib.hid (fun k => @best_bx zs N S k hh)
  obtain ⟨k0, hk0, hb0, he0⟩ := best_ex (zs := zs) (N := N) hh
  have HK0 := Lib.hid (And.intro hk0 (And.intro hb0 he0))
  obtain ⟨R, hR⟩ : ∃ R, R = bxT (chL zs N) nxT (ovS zs N) S := ⟨_, rfl⟩
  rw [← hR] at HBX ⊢
  obtain ⟨⟨vb, vm⟩, hv⟩ : ∃ o : OutP, o = ovS zs N S := ⟨_, rfl⟩
  rw [← hv] at HBX HK0 hlS hpos hle
  simp only at hpos hle
  have hSi : (S : Int) < (P : Int) := by omega
  have HZ := Lib.hid hz
  clear hT hRH hRL hh hk0 hb0 he0 hR hv hz
  go_enter Try.func42, Try.ntmps42
  go_wp2
  go_loopw [14] (fun i wr => ∃ k : Nat, k ≤ n ∧ i = .int .i64 (k : Int) ∧ (∀ j, j < k → S.testBit j = true → behP (ovS zs N (nxT S j)) ≠ (vb, vm)) ∧ wr = w) (fun i _ => n - (intOf i).toNat)
  case atStart => exact ⟨0, Nat.zero_le _, rfl, fun j hj => absurd hj (by omega), rfl⟩
  case round =>
    obtain ⟨k, hk, rfl, hno, rfl⟩ := hrel
    have HNO := Lib.hid hno
    clear hno
    by_cases hkn : k < n
    · rcases hbit : S.testBit k with _ | _
      · have hs := shr0_no hbit
        have HBit := Lib.hid hbit
        clear hbit
        go_wp2
        go_roundw
        case rel =>
          refine ⟨k + 1, by omega, by go_num, fun j hj hb9 => ?_, by first | rfl | trivial⟩
          rcases Nat.lt_or_ge j k with h9 | h9
          · exact HNO.out j h9 hb9
          · have : j = k := by omega
            subst this
            rw [HBit.out] at hb9; cases hb9
        case measure => simp [intOf]; omega
      · have hs := shr0_yes hbit
        have HBit := Lib.hid hbit
        have hlt2 := nxT_lt hbit
        obtain ⟨Pk, hPk⟩ : ∃ Pk, Pk = 2 ^ k := ⟨_, rfl⟩
        have hpwk := pow_wrap (show k ≤ 12 by omega) hPk
        have hab := andNot_bit (S := S) (i := k) (by omega) (by omega) hbit
        have hna : nxT S k = S - Pk := by unfold nxT; rw [hPk]
        rw [← hPk] at hab
        have HNX : Hid (∀ (hne : behP (ovS zs N (nxT S k)) ≠ (vb, vm)) j, j < k + 1 → S.testBit j = true → behP (ovS zs N (nxT S j)) ≠ (vb, vm)) := Lib.hid (fun hne j hj hb9 => by
          rcases Nat.lt_or_ge j k with h9 | h9
          · exact HNO.out j h9 hb9
          · have : j = k := by omega
            subst this
            exact hne)
        have HFD : Hid (behP (ovS zs N (nxT S k)) = (vb, vm) → R = (k : Int)) := Lib.hid (fun he => HBX.out k (by have := HZ.out; omega) HBit.out he HNO.out)
        obtain ⟨a, ha⟩ : ∃ a, a = nxT S k := ⟨_, rfl⟩
        rw [← hna, ← ha] at hab
        rw [← ha] at hlt2 HNX HFD
        have haP : a < P := by omega
        have hha := HRH.out.cell haP
        have hla := HRL.out.cell haP
        have hai : (a : Int) < (P : Int) := by omega
        have ha0 : (0 : Int) ≤ (a : Int) := by omega
        clear hbit hna ha hPk
        obtain ⟨x, hx⟩ : ∃ x, x = scO (vb, vm) := ⟨_, rfl⟩
        rw [← hx] at hlS
        have hxle := sc_le (o := (vb, vm)) hle
        rw [← hx] at hxle
        rcases hqa : homeQ zs N a with _ | _
        · rw [hqa] at hha
          have hposa := ovS_pos (zs := zs) (N := N) hqa
          have hlea := ovS_le (zs := zs) (N := N) a
          obtain ⟨⟨ub, um⟩, hu⟩ : ∃ o : OutP, o = ovS zs N a := ⟨_, rfl⟩
          rw [← hu] at hla hposa hlea HNX HFD
          simp only at hposa hlea
          obtain ⟨y, hy⟩ : ∃ y, y = scO (ub, um) := ⟨_, rfl⟩
          rw [← hy] at hla
          have hyle := sc_le (o := (ub, um)) hlea
          rw [← hy] at hyle
          clear hu hqa
          have hw1 : IntKind.i64.wrap (1 - x) = 1 - x := IntWalk.i64_in _ (by omega)
          have hw2 : IntKind.i64.wrap (-x) = -x := IntWalk.i64_in _ (by omega)
          have hw3 : IntKind.i64.wrap (-x - 1) = -x - 1 := IntWalk.i64_in _ (by omega)
          by_cases he : behP (ub, um) = (vb, vm)
          · have HR := Lib.hid (HFD.out he)
            have hbi := beh_iff.1 he
            simp only at hbi
            obtain ⟨hb1, hb2⟩ := hbi
            cases ub
            · have hvb : vb = true := by rw [hb1]; rfl
              subst hvb
              have hxx : x = (vm : Int) := by rw [hx]; simp [scO]
              have hyy : y = -(um : Int) := by rw [hy]; simp [scO]
              have d1 : (x == 1) = false := beq_eq_false_iff_ne.2 (by omega)
              have d2 : decide (1 < x) = true := decide_eq_true (by omega)
              have d2' : 1 < x := by omega
              have d3 : (y == 1 - x) = true := beq_iff_eq.2 (by omega)
              clear he hb1 hb2 hx hy hxx hyy HNX HFD
              go_wp2
              go_ret
              exact ⟨by rw [HR.out]; rfl, by first | rfl | trivial⟩
            · have hvb : vb = false := by rw [hb1]; rfl
              subst hvb
              have hxx : x = -(vm : Int) := by rw [hx]; simp [scO]
              have hyy : y = (um : Int) := by rw [hy]; simp [scO]
              have d1 : (x == 1) = false := beq_eq_false_iff_ne.2 (by omega)
              have d2 : decide (1 < x) = false := decide_eq_false (by omega)
              have d2' : x ≤ 1 := by omega
              have d3 : decide (x < 0) = true := decide_eq_true (by omega)
              have d3' : x < 0 := by omega
              have d4 : (y == -x - 1) = true := beq_iff_eq.2 (by omega)
              clear he hb1 hb2 hx hy hxx hyy HNX HFD
              go_wp2
              go_ret
              exact ⟨by rw [HR.out]; rfl, by first | rfl | trivial⟩
          · have HNX2 := Lib.hid (HNX.out he)
            have hbi : ¬ (vb = !ub ∧ vm = um + 1) := fun h => he (beh_iff.2 h)
            have d1 : (x == 1) = false ∨ True := .inr trivial
            cases vb
            · have hxx : x = -(vm : Int) := by rw [hx]; simp [scO]
              have d1 : (x == 1) = false := beq_eq_false_iff_ne.2 (by omega)
              have d2 : decide (1 < x) = false := decide_eq_false (by omega)
              have d2' : x ≤ 1 := by omega
              have d3 : decide (x < 0) = true := decide_eq_true (by omega)
              have d3' : x < 0 := by omega
              have d4 : (y == -x - 1) = false := beq_eq_false_iff_ne.2 (by
                cases ub
                · have hyy : y = -(um : Int) := by rw [hy]; simp [scO]
                  omega
                · have hyy : y = (um : Int) := by rw [hy]; simp [scO]
                  intro e9
                  exact hbi ⟨rfl, by omega⟩)
              clear he hbi hx hy hxx HNX HFD
              go_wp2
              go_roundw
              case rel => exact ⟨k + 1, by omega, by go_num, HNX2.out, by first | rfl | trivial⟩
              case measure => simp [intOf]; omega
            · have hxx : x = (vm : Int) := by rw [hx]; simp [scO]
              have d2 : decide (x < 0) = false := decide_eq_false (by omega)
              have d2' : 0 ≤ x := by omega
              by_cases h1 : x = 1
              · have d1 : (x == 1) = true := beq_iff_eq.2 h1
                have d3 : decide (1 < x) = false := decide_eq_false (by omega)
                have d3' : x ≤ 1 := by omega
                clear he hbi hx hy hxx HNX HFD h1
                go_wp2
                go_roundw
                case rel => exact ⟨k + 1, by omega, by go_num, HNX2.out, by first | rfl | trivial⟩
                case measure => simp [intOf]; omega
              · have d1 : (x == 1) = false := beq_eq_false_iff_ne.2 h1
                have d3 : decide (1 < x) = true := decide_eq_true (by omega)
                have d3' : 1 < x := by omega
                have d4 : (y == 1 - x) = false := beq_eq_false_iff_ne.2 (by
                  cases ub
                  · have hyy : y = -(um : Int) := by rw [hy]; simp [scO]
                    intro e9
                    exact hbi ⟨rfl, by omega⟩
                  · have hyy : y = (um : Int) := by rw [hy]; simp [scO]
                    omega)
                clear he hbi hx hy hxx HNX HFD h1
                go_wp2
                go_roundw
                case rel => exact ⟨k + 1, by omega, by go_num, HNX2.out, by first | rfl | trivial⟩
                case measure => simp [intOf]; omega
        · rw [hqa] at hha
          rw [ovS_home hqa] at HNX HFD
          cases vb
          · have hxx : x = -(vm : Int) := by rw [hx]; simp [scO]
            have HNX2 := Lib.hid (HNX.out (by intro h; have := (beh_iff.1 h).1; simp at this))
            have d1 : (x == 1) = false := beq_eq_false_iff_ne.2 (by omega)
            have d2 : decide (1 < x) = false := decide_eq_false (by omega)
            have d2' : x ≤ 1 := by omega
            have d3 : decide (x < 0) = true := decide_eq_true (by omega)
            have d3' : x < 0 := by omega
            clear hx hxx HNX HFD hqa
            go_wp2
            go_roundw
            case rel => exact ⟨k + 1, by omega, by go_num, HNX2.out, by first | rfl | trivial⟩
            case measure => simp [intOf]; omega
          · have hxx : x = (vm : Int) := by rw [hx]; simp [scO]
            have d2 : decide (x < 0) = false := decide_eq_false (by omega)
            have d2' : 0 ≤ x := by omega
            by_cases h1 : x = 1
            · have HR := Lib.hid (HFD.out (beh_iff.2 ⟨rfl, by simp only; omega⟩))
              have d1 : (x == 1) = true := beq_iff_eq.2 h1
              clear hx hxx HNX HFD h1 hqa
              go_wp2
              go_ret
              exact ⟨by rw [HR.out]; rfl, by first | rfl | trivial⟩
            · have HNX2 := Lib.hid (HNX.out (by intro h; have := (beh_iff.1 h).2; simp only at this; omega))
              have d1 : (x == 1) = false := beq_eq_false_iff_ne.2 h1
              have d3 : decide (1 < x) = true := decide_eq_true (by omega)
              have d3' : 1 < x := by omega
              clear hx hxx HNX HFD h1 hqa
              go_wp2
              go_roundw
              case rel => exact ⟨k + 1, by omega, by go_num, HNX2.out, by first | rfl | trivial⟩
              case measure => simp [intOf]; omega
    · exfalso
      obtain ⟨h1, h2, h3⟩ := HK0.out
      exact HNO.out k0 (by have := HZ.out; omega) h2 h3
end Go.Proofs.Ytiapbmgpjloafaa
