/- The model's taking game: the line of best play. -/
import Derived.Test.YtiapbmgpjloafaaGn5
import Derived.Deep.LoopGhost
namespace Go.Proofs.Ytiapbmgpjloafaa
open Go Go.RowKit

theorem chT_at {zs : List Int} {N p j : Nat} (hn : zs.length ≤ 12) (hj : j < (chL zs N p).length) : ∃ i : Nat, i < 1000 ∧ gi (chL zs N p) j = (i : Int) := by
  obtain ⟨i, h1, _, h3⟩ := chL_at hj
  exact ⟨i, by omega, h3⟩
theorem nxT_ok {zs : List Int} {N p i n : Nat} (hp : p < 2 ^ n) (hi : (i : Int) ∈ chL zs N p) : nxT p i < 2 ^ n ∧ nxT p i < p := by
  have := nxT_lt (chL_mem hi).2.2
  exact ⟨by omega, this⟩

set_option maxRecDepth 100000 in
set_option maxHeartbeats 4000000 in
theorem sTakeLine_any (W : Int) (A : Option Addr) (n c : Nat) (zs : List Int) (w : World) (h : RI w A n zs) (hn : n ≤ 1048576) :
    Calls Try.prog 23 #[.agg #[.int .i64 W, .slice A n c]] w (FreshIB w (tkiL W zs).length (tkiL W zs) (tkB W zs)) := by
  have hz := h.1
  have HA := boxNew (W := W) (c := c) 28 h
  have HB := belAlloc (belRefl (w := w)) (.cells #[.int .i64 W, .slice A n c] 28)
  have HG := Lib.hid (fun w2 (r : RI w2 A n zs) => gaTaking_any W A n c zs w2 r hn)
  rcases hq : tkB W zs with _ | _
  · rw [tkiL_no hq]
    rw [hq] at HG
    clear hq h hz
    go_enter Try.func23, Try.ntmps23
    go_wp2_with fail
    refine (HG.out _ HA.out.ri).mono ?_
    rintro e w1 ⟨rfl, hb⟩
    replace HB := belStep HB hb
    clear hb
    go_wp2
    go_ret2
    exact ⟨none, 0, rfl, OI.none_ _ _, HB.out⟩
  · rw [tkiL_yes hq]
    rw [hq] at HG
    have hq2 := tkB_iff.1 hq
    have hn12 : n ≤ 12 := by omega
    have hW := (lad_iff.1 hq2.1).1
    obtain ⟨N, rfl⟩ : ∃ N : Nat, W = (N : Int) := ⟨W.toNat, by omega⟩
    rw [Int.toNat_natCast]
    have HN := Lib.hid (fun w2 (r : RI w2 A n zs) => gaNew_any N A n c zs w2 r hn12 hq2.1)
    rw [hz]
    have hp1 := Nat.two_pow_pos n
    have hp2 := pow12 hn12
    have HBest := Lib.hid (fun g gh gl S w2 (hS : S < 2 ^ n) hh hT hRH hRL => best_any g gh gl (2 ^ n) N A n c zs S w2 hz hn12 hp2 hS hh hT hRH hRL)
    have HEN := Lib.hid (fun p M M' h1 h2 h3 => @lineF_enough (fun p => p < 2 ^ n) (chL zs N) nxT (ovS zs N) (fun p i hp hi => nxT_ok hp hi) (fun p j _ hj => chT_at (by omega) hj) p M M' h1 h2 h3)
    have HBM : Hid (∀ S, homeQ zs N S = false → ∃ i : Nat, i < n ∧ S.testBit i = true ∧ bxT (chL zs N) nxT (ovS zs N) S = (i : Int)) := Lib.hid (fun S hS => by
      have hpos := List.length_pos_iff.2 (chL_ne hS)
      obtain ⟨i, h1, h2, h3⟩ := chL_at (bxG_lt (fun j => behP (ovS zs N (nxT S (gi (chL zs N S) j).toNat))) _ hpos)
      exact ⟨i, by omega, h2, h3⟩)
    unfold GaPost at HN
    obtain ⟨P, hP⟩ : ∃ P, P = 2 ^ n := ⟨_, rfl⟩
    rw [← hP] at HN hp1 hp2 HBest HEN ⊢
    have hpw : IntKind.i64.wrap ((P : Int) - 1) = ((P - 1 : Nat) : Int) := by rw [IntWalk.i64_in _ (by omega)]; omega
    obtain ⟨Q, hQ⟩ : ∃ Q, Q = P - 1 := ⟨_, rfl⟩
    rw [← hQ] at hpw ⊢
    have hQP : Q < P := by omega
    obtain ⟨R, hR⟩ : ∃ R, R = lineF (chL zs N) nxT (ovS zs N) (Q + 1) Q := ⟨_, rfl⟩
    rw [← hR]
    have HR := Lib.hid hR
    have hRl : R.length ≤ 5000 := by rw [hR]; have := lineF_len (chL zs N) nxT (ovS zs N) (Q + 1) Q; omega
    clear hq h hz hq2 hP hQ hW hR
    go_enter Try.func23, Try.ntmps23
    go_wp2_with fail
    refine (HG.out _ HA.out.ri).mono ?_
    rintro e w1 ⟨rfl, hb⟩
    replace HA := boxStep HA hb; replace HB := belStep HB hb
    have a0 := HA.out.c0; have a1 := HA.out.c1; have az := HA.out.lt
    clear hb HG
    go_wp2_with fail
    refine (HN.out _ HA.out.ri).mono ?_
    rintro e w2 ⟨g, gh, gl, rfl, hT, hRH, hRL, hb⟩
    replace HB := belStep HB hb
    have HT := Lib.hid hT; have HRH := Lib.hid hRH; have HRL := Lib.hid hRL
    have g2 := hT.c2; have g3 := hT.c3; have gz := hT.lt
    clear hb hT hRH hRL HN a0 a1 az HA
    go_wp2
    clear hpw
    go_loopg [5, 6] (Q + 1) (fun gg s5 s6 wr => ∃ (S : Nat) (out : List Int) (E : Option Addr) (d : Nat), gg = S + 1 ∧ S ≤ Q ∧ s5 = .int .i64 (S : Int) ∧ s6 = .slice E out.length d ∧ R = out ++ lineF (chL zs N) nxT (ovS zs N) (S + 1) S ∧ OI wr w2.heap.size E out.length d out ∧ Below w2.heap.size w2 wr)
    case atStart => exact ⟨Q, [], none, 0, rfl, Nat.le_refl _, rfl, rfl, HR.out, OI.none_ _ _, Below.refl _ _⟩
    case round =>
      obtain ⟨S, out, E, d, rfl, hSQ, rfl, rfl, hR, ho, hb⟩ := hrel
      have HRr := Lib.hid hR; have HO := Lib.hid ho; have HBr := Lib.hid hb
      have HTr := tkStep HT hb
      have HRHr := rowStep HRH hb
      have HRLr := rowStep HRL hb
      have hzz := hb.size
      have hol : out.length ≤ 5000 := by
        have := congrArg List.length hR
        simp at this; omega
      clear g2 g3 gz
      have g2 := HTr.out.c2; have g3 := HTr.out.c3; have gz := HTr.out.lt
      have hSP : S < P := by omega
      have hSi : (S : Int) < (P : Int) := by omega
      have hha := HRHr.out.cell hSP
      clear hR ho hb
      rcases hqa : homeQ zs N S with _ | _
      · rw [hqa] at hha
        obtain ⟨i, hi, hbit, hbx⟩ := HBM.out S hqa
        have HBs := Lib.hid (fun w9 hT hRH hRL => HBest.out g gh gl S w9 hSP hqa hT hRH hRL)
        rw [hbx] at HBs
        have hmem : (i : Int) ∈ chL zs N S := by
          rw [← hbx]
          exact gi_memGT (bxG_lt _ _ (List.length_pos_iff.2 (chL_ne hqa)))
        have hne := chL_ne hqa
        have hlt2 := nxT_lt hbit
        have HRS : Hid (R = out ++ (i : Int) :: lineF (chL zs N) nxT (ovS zs N) (nxT S i + 1) (nxT S i)) := Lib.hid (by
          rw [HRr.out, lineF_some hne, hbx, Int.toNat_natCast, HEN.out (nxT S i) S (nxT S i + 1) hlt2 (Nat.lt_succ_self _) (by omega)])
        obtain ⟨Pk, hPk⟩ : ∃ Pk, Pk = 2 ^ i := ⟨_, rfl⟩
        have hpwk := pow_wrap (show i ≤ 12 by omega) hPk
        have hab := andNot_bit (S := S) (i := i) (by omega) (by omega) hbit
        have hna : nxT S i = S - Pk := by unfold nxT; rw [hPk]
        rw [← hPk] at hab
        obtain ⟨a, ha⟩ : ∃ a, a = nxT S i := ⟨_, rfl⟩
        rw [← hna, ← ha] at hab
        rw [← ha] at hlt2 HRS
        clear hbit hna ha hPk hqa hbx hmem hne HRr
        go_wp2_with fail
        refine (HBs.out _ HTr.out HRHr.out HRLr.out).mono ?_
        rintro e w9 ⟨rfl, hw9⟩
        replace hw9 := hw9.symm
        subst hw9
        go_wp2_with (at_builtin; refine wpList_append_int _ rfl _ _ rfl w2.heap.size E out.length d out (i : Int) _ rfl rfl (HO.out.alloc _) (by simp) (by omega) (by simp; omega) ?_; intro E5 d5 w5 ho5 hg5; have HBK := Lib.hid (below_ap (K := w2.heap.size) HO.out hg5 (Nat.le_refl _) (by omega)); have HO5 := Lib.hid ho5; clear hg5 ho5)
        go_roundg (a + 1)
        case rel => exact ⟨a, out ++ [(i : Int)], E5, d5, rfl, by omega, rfl, by simp, by rw [HRS.out]; simp, by simpa using HO5.out, HBr.out.trans HBK.out⟩
        case measure => omega
      · rw [hqa] at hha
        have HRE : Hid (R = out) := Lib.hid (by rw [HRr.out, lineF_none (chL_home hqa)]; simp)
        clear hqa
        go_wp2
        go_ret2
        exact ⟨E, d, by rw [HRE.out]; rfl, by rw [HRE.out]; exact HO.out.mono HB.out.size, HB.out.trans (HBr.out.mono HB.out.size)⟩
end Go.Proofs.Ytiapbmgpjloafaa
