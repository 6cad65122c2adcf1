/- The law FnChancesExact, gone through. -/
import Derived.Test.YtbgkhehopldilaaKh2
import Derived.Test.YtbgkhehopldilaaKh4
import Derived.Test.YtbgkhehopldilaaKk1
import Derived.Deep.Cut
namespace Go.Proofs.Ytbgkhehopldilaa
open Go Go.RowKit

theorem rqStepK {wi wj : World} {A : Option Addr} {n : Nat} {F : List Int} (h : Hid (RQ wi A n F)) (hb : Below wi.heap.size wi wj) : Hid (RQ wj A n F) := h.out.below hb

set_option maxRecDepth 100000 in
set_option maxHeartbeats 40000000 in
theorem lawChancesExact_of (A : Option Addr) (n c : Nat) (bs : List Int) (A2 : Option Addr) (n2 c2 : Nat) (bs2 : List Int) (w : World) (h : BI w A n bs) (h2 : BI w A2 n2 bs2) (hn : n ≤ 1048576) (hn2 : n2 ≤ 1048576) (hbig : bigB n n2 = false) :
    Calls Try.prog 3 #[.slice A n c, .slice A2 n2 c2] w (RetB true w) := by
  have HM := Lib.hid h2
  have HBG := Lib.hid hbig
  have HC := Lib.hid h
  have HB := belRefl (w := w)
  clear h h2 hbig
  go_enter Try.func3, Try.ntmps3
  go_wp2_with fail
  refine (big_any A n c A2 n2 c2 _ (by omega) (by omega)).mono ?_
  rw [HBG.out]
  rintro e w1 ⟨rfl, hb⟩
  replace HB := belStep HB hb; replace HM := Lib.hid (HM.out.below hb (Nat.le_refl _)); replace HC := Lib.hid (HC.out.below hb (Nat.le_refl _))
  clear hb
  go_wp2_with fail
  refine (drawChancesFrom_any A n c bs _ HC.out hn).mono ?_
  rintro e w2 ⟨x, y, z, rfl, hx, hy, hz, hb⟩
  replace HB := belStep HB hb; replace HM := Lib.hid (HM.out.below hb (Nat.le_refl _)); replace HC := Lib.hid (HC.out.below hb (Nat.le_refl _))
  clear hb HC HBG
  obtain ⟨r, hr⟩ : ∃ r, r = cfQ x y z := ⟨_, rfl⟩
  obtain ⟨q, hq⟩ : ∃ q, q = fallB x y := ⟨_, rfl⟩
  obtain ⟨M, hMe⟩ : ∃ M, M = cfM x y z := ⟨_, rfl⟩
  obtain ⟨F, hFe⟩ : ∃ F, F = cfF x y z := ⟨_, rfl⟩
  obtain ⟨al, hal⟩ : ∃ a, a = (if fallB x y = true then (allN x y : Int) else 0) := ⟨_, rfl⟩
  obtain ⟨ga, hga⟩ : ∃ a, a = gpA x y := ⟨_, rfl⟩
  obtain ⟨gb, hgb⟩ : ∃ a, a = gpB x y := ⟨_, rfl⟩
  obtain ⟨ha, hha⟩ : ∃ a, a = ahA x y := ⟨_, rfl⟩
  obtain ⟨hb0, hhb⟩ : ∃ a, a = ahB x y := ⟨_, rfl⟩
  have HR := Lib.hid hr; have HQ := Lib.hid hq; have HMe := Lib.hid hMe; have HFe := Lib.hid hFe; have HAL := Lib.hid hal; have HGA := Lib.hid hga; have HGB := Lib.hid hgb; have HHA := Lib.hid hha; have HHB := Lib.hid hhb
  have hM6 : M ≤ 6 := by rw [hMe]; exact cfM_le x y z
  clear hr hq hMe hFe hal hga hgb hha hhb
  go_wp2_with fail
  refine (iChancesFrom_any x y z _ (by omega) (by omega)).mono ?_
  rw [← HMe.out, ← HFe.out, ← HR.out]
  rintro e w3 ⟨X1, cq1, rfl, oq, hb⟩
  replace HB := belStep HB hb; replace HM := Lib.hid (HM.out.below hb (Nat.le_refl _))
  have HX1 := Lib.hid oq.rq
  clear hb oq
  go_wp2_with fail
  refine (sChancesFrom_any x y z _ (by omega) (by omega)).mono ?_
  rw [← HMe.out, ← HFe.out, ← HR.out]
  rintro e w4 ⟨X2, cq2, rfl, oq, hb⟩
  replace HB := belStep HB hb; replace HM := Lib.hid (HM.out.below hb (Nat.le_refl _)); replace HX1 := rqStepK HX1 hb
  have HX2 := Lib.hid oq.rq
  clear hb oq
  go_wp2_with fail
  refine (iCountLadders_any x y _).mono ?_
  rw [← HQ.out, show (if q = true then (allN x y : Int) else 0) = al by rw [HAL.out, HQ.out]]
  rintro e w5 ⟨rfl, hw⟩
  obtain rfl := hw
  go_wp2_with fail
  refine (sCountLadders_any x y _).mono ?_
  rw [← HQ.out, show (if q = true then (allN x y : Int) else 0) = al by rw [HAL.out, HQ.out]]
  rintro e w5 ⟨rfl, hw⟩
  obtain rfl := hw
  go_wp2_with fail
  refine (iGapOf_any x y _).mono ?_
  rw [← HGA.out, ← HGB.out, ← HQ.out]
  rintro e w6 ⟨rfl, hb⟩
  replace HB := belStep HB hb; replace HM := Lib.hid (HM.out.below hb (Nat.le_refl _)); replace HX1 := rqStepK HX1 hb; replace HX2 := rqStepK HX2 hb
  clear hb
  go_wp2_with fail
  have G1 := cellNew w6 (.int .i64 ga) (.int .i64 gb) 32
  replace HB := belAlloc HB (.cells #[.int .i64 ga, .int .i64 gb] 32)
  replace HM := Lib.hid (HM.out.below (allocBel _ (.cells #[.int .i64 ga, .int .i64 gb] 32)) (Nat.le_refl _))
  replace HX1 := rqStepK HX1 (allocBel _ (.cells #[.int .i64 ga, .int .i64 gb] 32))
  replace HX2 := rqStepK HX2 (allocBel _ (.cells #[.int .i64 ga, .int .i64 gb] 32))
  have g0 := G1.out.c0; have g1 := G1.out.c1; have gz := G1.out.lt
  refine (sGapOf_any x y _).mono ?_
  rw [← HGA.out, ← HGB.out, ← HQ.out]
  rintro e w7 ⟨rfl, hb⟩
  replace HB := belStep HB hb; replace HM := Lib.hid (HM.out.below hb (Nat.le_refl _)); replace HX1 := rqStepK HX1 hb; replace HX2 := rqStepK HX2 hb; replace G1 := cellStep G1 hb; replace g0 := G1.out.c0; replace g1 := G1.out.c1; replace gz := G1.out.lt
  clear hb
  go_wp2_with fail
  have G2 := cellNew w7 (.int .i64 ga) (.int .i64 gb) 32
  replace HB := belAlloc HB (.cells #[.int .i64 ga, .int .i64 gb] 32)
  replace HM := Lib.hid (HM.out.below (allocBel _ (.cells #[.int .i64 ga, .int .i64 gb] 32)) (Nat.le_refl _))
  replace HX1 := rqStepK HX1 (allocBel _ (.cells #[.int .i64 ga, .int .i64 gb] 32))
  replace HX2 := rqStepK HX2 (allocBel _ (.cells #[.int .i64 ga, .int .i64 gb] 32))
  replace G1 := cellAlloc G1 (.cells #[.int .i64 ga, .int .i64 gb] 32)
  replace g0 := G1.out.c0; replace g1 := G1.out.c1; replace gz := G1.out.lt
  have m0 := G2.out.c0; have m1 := G2.out.c1; have mz := G2.out.lt
  refine (iMeanAtHome_any x y _).mono ?_
  rw [← HHA.out, ← HHB.out, ← HQ.out]
  rintro e w8 ⟨rfl, hb⟩
  replace HB := belStep HB hb; replace HM := Lib.hid (HM.out.below hb (Nat.le_refl _)); replace HX1 := rqStepK HX1 hb; replace HX2 := rqStepK HX2 hb; replace G1 := cellStep G1 hb; replace G2 := cellStep G2 hb; replace g0 := G1.out.c0; replace g1 := G1.out.c1; replace gz := G1.out.lt; replace m0 := G2.out.c0; replace m1 := G2.out.c1; replace mz := G2.out.lt
  clear hb
  go_wp2_with fail
  have G3 := cellNew w8 (.int .i64 ha) (.int .i64 hb0) 32
  replace HB := belAlloc HB (.cells #[.int .i64 ha, .int .i64 hb0] 32)
  replace HM := Lib.hid (HM.out.below (allocBel _ (.cells #[.int .i64 ha, .int .i64 hb0] 32)) (Nat.le_refl _))
  replace HX1 := rqStepK HX1 (allocBel _ (.cells #[.int .i64 ha, .int .i64 hb0] 32))
  replace HX2 := rqStepK HX2 (allocBel _ (.cells #[.int .i64 ha, .int .i64 hb0] 32))
  replace G1 := cellAlloc G1 (.cells #[.int .i64 ha, .int .i64 hb0] 32)
  replace G2 := cellAlloc G2 (.cells #[.int .i64 ha, .int .i64 hb0] 32)
  replace g0 := G1.out.c0; replace g1 := G1.out.c1; replace gz := G1.out.lt
  replace m0 := G2.out.c0; replace m1 := G2.out.c1; replace mz := G2.out.lt
  have k0 := G3.out.c0; have k1 := G3.out.c1; have kz := G3.out.lt
  refine (sMeanAtHome_any x y _).mono ?_
  rw [← HHA.out, ← HHB.out, ← HQ.out]
  rintro e w9 ⟨rfl, hb⟩
  replace HB := belStep HB hb; replace HM := Lib.hid (HM.out.below hb (Nat.le_refl _)); replace HX1 := rqStepK HX1 hb; replace HX2 := rqStepK HX2 hb; replace G1 := cellStep G1 hb; replace G2 := cellStep G2 hb; replace G3 := cellStep G3 hb; replace g0 := G1.out.c0; replace g1 := G1.out.c1; replace gz := G1.out.lt; replace m0 := G2.out.c0; replace m1 := G2.out.c1; replace mz := G2.out.lt; replace k0 := G3.out.c0; replace k1 := G3.out.c1; replace kz := G3.out.lt
  clear hb
  have b1 : (r != r) = false := by simp
  have b2 : (q != q) = false := by simp
  have b3 : (al != al) = false := by simp
  have b4 : (ga != ga) = false := by simp
  have b5 : (gb != gb) = false := by simp
  have b6 : (ha != ha) = false := by simp
  have b7 : (hb0 != hb0) = false := by simp
  obtain ⟨bg, hbg⟩ : ∃ b, b = w6.heap.size := ⟨_, rfl⟩
  obtain ⟨bm, hbm⟩ : ∃ b, b = w7.heap.size := ⟨_, rfl⟩
  obtain ⟨bh, hbh⟩ : ∃ b, b = w8.heap.size := ⟨_, rfl⟩
  go_upto_region 12 with fail
  have G4 := cellNew w9 (.int .i64 ha) (.int .i64 hb0) 32
  replace HB := belAlloc HB (.cells #[.int .i64 ha, .int .i64 hb0] 32)
  replace HM := Lib.hid (HM.out.below (allocBel _ (.cells #[.int .i64 ha, .int .i64 hb0] 32)) (Nat.le_refl _))
  replace HX1 := rqStepK HX1 (allocBel _ (.cells #[.int .i64 ha, .int .i64 hb0] 32))
  replace HX2 := rqStepK HX2 (allocBel _ (.cells #[.int .i64 ha, .int .i64 hb0] 32))
  replace G1 := cellAlloc G1 (.cells #[.int .i64 ha, .int .i64 hb0] 32)
  replace G2 := cellAlloc G2 (.cells #[.int .i64 ha, .int .i64 hb0] 32)
  replace G3 := cellAlloc G3 (.cells #[.int .i64 ha, .int .i64 hb0] 32)
  replace g0 := G1.out.c0; replace g1 := G1.out.c1; replace gz := G1.out.lt
  replace m0 := G2.out.c0; replace m1 := G2.out.c1; replace mz := G2.out.lt
  replace k0 := G3.out.c0; replace k1 := G3.out.c1; replace kz := G3.out.lt
  have v0 := G4.out.c0; have v1 := G4.out.c1; have vz := G4.out.lt
  obtain ⟨wa, hwa⟩ : ∃ W, W = w9.alloc (.cells #[.int .i64 ha, .int .i64 hb0] 32) := ⟨_, rfl⟩
  rw [← hwa] at HB HM HX1 HX2 G1 G2 G3 G4 g0 g1 gz m0 m1 mz k0 k1 kz v0 v1 vz ⊢
  clear hwa
  have hqr : r = true → q = true := fun h => by rw [HR.out] at h; rw [HQ.out]; exact (cfQ_nat h).1
  rcases hr2 : r with _ | _
  · rcases hq2 : q with _ | _
    · subst hr2 hq2
      go_wp2_with (go_at_call 14; refine (nRatios_same X1 M cq1 F X2 cq2 _ HX1.out HX2.out (by omega)).mono ?_; rintro e wb ⟨rfl, hb⟩; replace HB := belStep HB hb; replace HM := Lib.hid (HM.out.below hb (Nat.le_refl _)); replace HX1 := rqStepK HX1 hb; replace HX2 := rqStepK HX2 hb; replace G1 := cellStep G1 hb; replace G2 := cellStep G2 hb; replace G3 := cellStep G3 hb; replace G4 := cellStep G4 hb; replace g0 := G1.out.c0; replace g1 := G1.out.c1; replace gz := G1.out.lt; replace m0 := G2.out.c0; replace m1 := G2.out.c1; replace mz := G2.out.lt; replace k0 := G3.out.c0; replace k1 := G3.out.c1; replace kz := G3.out.lt; replace v0 := G4.out.c0; replace v1 := G4.out.c1; replace vz := G4.out.lt; clear hb)
      have HBt := Lib.hid HB.out
      have HMt := Lib.hid HM.out
      go_wp2_with fail
      refine (drawCountEnds_any A2 n2 c2 bs2 _ HMt.out hn2).mono ?_
      rintro e v1 ⟨ta, tb, tc, td, rfl, ha, hb9, hc9, hd9, hb⟩
      replace HBt := belStep HBt hb
      clear hb HMt
      obtain ⟨tq, htq⟩ : ∃ q, q = ceQ ta tb tc td := ⟨_, rfl⟩
      obtain ⟨tn, htn⟩ : ∃ q, q = ceN ta tb tc td := ⟨_, rfl⟩
      obtain ⟨tu, htu⟩ : ∃ q, q = coA ta tb tc td := ⟨_, rfl⟩
      obtain ⟨tv, htv⟩ : ∃ q, q = coB ta tb tc td := ⟨_, rfl⟩
      have TQ := Lib.hid htq; have TN := Lib.hid htn; have TU := Lib.hid htu; have TV := Lib.hid htv
      have t1 : (tq == tq) = true := by simp
      have t2 : (tn == tn) = true := by simp
      have t3 : (tu == tu) = true := by simp
      have t4 : (tv == tv) = true := by simp
      clear htq htn htu htv
      go_wp2_with fail
      refine (iCountEnds_any ta tb tc td _ (by omega) (by omega)).mono ?_
      rw [← TN.out, ← TQ.out]
      rintro e v2 ⟨rfl, hb⟩
      replace HBt := belStep HBt hb
      clear hb
      go_wp2_with fail
      refine (sCountEnds_any ta tb tc td _ (by omega) (by omega)).mono ?_
      rw [← TN.out, ← TQ.out]
      rintro e v3 ⟨rfl, hb⟩
      replace HBt := belStep HBt hb
      clear hb
      go_wp2_with fail
      refine (iChanceOf_any ta tb tc td _ (by omega) (by omega)).mono ?_
      rw [← TU.out, ← TV.out, ← TQ.out]
      rintro e v4 ⟨rfl, hb⟩
      replace HBt := belStep HBt hb
      clear hb
      go_wp2_with fail
      have T5 := cellNew v4 (.int .i64 tu) (.int .i64 tv) 32
      replace HBt := belAlloc HBt (.cells #[.int .i64 tu, .int .i64 tv] 32)
      have r0 := T5.out.c0; have r1 := T5.out.c1; have rz := T5.out.lt
      refine (sChanceOf_any ta tb tc td _ (by omega) (by omega)).mono ?_
      rw [← TU.out, ← TV.out, ← TQ.out]
      rintro e v5 ⟨rfl, hb⟩
      replace HBt := belStep HBt hb; replace T5 := cellStep T5 hb; replace r0 := T5.out.c0; replace r1 := T5.out.c1; replace rz := T5.out.lt
      clear hb
      have T6 := cellNew v5 (.int .i64 tu) (.int .i64 tv) 32
      rcases tq with _ | _
      all_goals
        go_wp2
        go_ret
        exact ⟨rfl, (HBt.out.alloc HBt.out.size _)⟩
    · subst hr2 hq2
      have hQT : fallB x y = true := HQ.out.symm
      have hfi := fallB_iff.1 hQT
      obtain ⟨N, rfl⟩ : ∃ N : Nat, x = (N : Int) := ⟨x.toNat, by omega⟩
      obtain ⟨K, rfl⟩ : ∃ K : Nat, y = (K : Int) := ⟨y.toNat, by omega⟩
      have hN2 : 2 ≤ N := by omega
      have hN6 : N ≤ 6 := by omega
      have hK20 : K ≤ 20 := by omega
      have eAL : al = (allN (N : Int) (K : Int) : Int) := by rw [HAL.out, if_pos hQT]
      clear hfi
      have HRW := rat_w (homeS N K N) hQT (by have h1 := homeS_le (n := N) (K := K) (Nat.le_refl N) (by omega) (by omega); have h2 : N * 95367431640625 ≤ 6 * 95367431640625 := Nat.mul_le_mul_right _ (by omega); omega)
      have eHA : ha = rtA (homeS N K N) (N : Int) (K : Int) := by rw [HHA.out, ahA_yes hQT]; simp
      have eHB : hb0 = rtB (homeS N K N) (N : Int) (K : Int) := by rw [HHB.out, ahB_yes hQT]; simp
      rw [← eHA, ← eHB, ← eAL] at HRW
      have HRWh := Lib.hid HRW
      have HSG := Lib.hid (homeS_sg N K N (Nat.le_refl N))
      have HQTh := Lib.hid hQT
      clear HRW eHA eHB eAL hQT
      go_wp2_with (go_at_call 14; refine (nRatios_same X1 M cq1 F X2 cq2 _ HX1.out HX2.out (by omega)).mono ?_; rintro e wb ⟨rfl, hb⟩; replace HB := belStep HB hb; replace HM := Lib.hid (HM.out.below hb (Nat.le_refl _)); replace HX1 := rqStepK HX1 hb; replace HX2 := rqStepK HX2 hb; replace G1 := cellStep G1 hb; replace G2 := cellStep G2 hb; replace G3 := cellStep G3 hb; replace G4 := cellStep G4 hb; replace g0 := G1.out.c0; replace g1 := G1.out.c1; replace gz := G1.out.lt; replace m0 := G2.out.c0; replace m1 := G2.out.c1; replace mz := G2.out.lt; replace k0 := G3.out.c0; replace k1 := G3.out.c1; replace kz := G3.out.lt; replace v0 := G4.out.c0; replace v1 := G4.out.c1; replace vz := G4.out.lt; clear hb)
      go_loopw [38, 39] (fun s i wr => ∃ j : Nat, j ≤ N ∧ i = .int .i64 (j : Int) ∧ s = .int .i64 ((sg j (fun s => wy N K s s) : Nat) : Int) ∧ Below wb.heap.size wb wr) (fun _ i _ => N - (intOf i).toNat)
      case atStart => exact ⟨0, Nat.zero_le _, rfl, rfl, Below.refl _ _⟩
      case round =>
        obtain ⟨j, hj, rfl, rfl, hbl⟩ := hrel
        have HBL := Lib.hid hbl
        clear hbl
        by_cases hlt : j < N
        · have hcw := ce_wy (K := K) HQTh.out hlt hlt
          have hlw := wy_le (N := N) (K := K) (s := j) (e := j) (by omega) (by omega)
          have hsl := sg_le6 (n := N) (j := j) (by omega) (fun s => wy N K s s) (fun x _ => by have := wy_le (N := N) (K := K) (s := x) (e := x) (by omega) (by omega); omega) hj
          have hsn := sg_succ j (fun s => wy N K s s)
          obtain ⟨S0, hS0⟩ : ∃ S, S = sg j (fun s => wy N K s s) := ⟨_, rfl⟩
          obtain ⟨C0, hC0⟩ : ∃ C, C = wy N K j j := ⟨_, rfl⟩
          rw [← hS0] at hsl hsn ⊢
          rw [← hC0] at hcw hlw
          have HSN : Hid (sg (j + 1) (fun s => wy N K s s) = S0 + C0) := by show _ = _; rw [hsn, hC0]
          have i1 : IntKind.i64.wrap ((S0 : Int) + (C0 : Int)) = (S0 : Int) + (C0 : Int) := IntWalk.i64_in _ (by omega)
          have i2 : IntKind.i64.wrap ((j : Int) + 1) = (j : Int) + 1 := IntWalk.i64_in _ (by omega)
          have i3 : (j : Int) < (N : Int) := by omega
          clear hsl hsn hS0 hC0
          go_wp2_with fail
          refine (iCountEnds_any (N : Int) (K : Int) (j : Int) (j : Int) _ (by omega) (by omega)).mono ?_
          rw [hcw.1, hcw.2]
          rintro e wk ⟨rfl, hb⟩
          replace HBL := Lib.hid (HBL.out.trans (hb.mono HBL.out.size))
          clear hb hcw hlw
          go_wp2
          exact ⟨⟨j + 1, by omega, by go_num, by rw [HSN.out]; simp, HBL.out⟩, by simp [intOf] <;> omega⟩
        · obtain rfl : j = N := by omega
          have G3e := cellStep G3 HBL.out
          have k0 := G3e.out.c0; have k1 := G3e.out.c1; have kz := G3e.out.lt
          obtain ⟨D, hD1, hD2, hD3, _⟩ := HRWh.out
          rw [HSG.out] at hD2
          obtain ⟨T0, hT0⟩ : ∃ S, S = sg j (fun s => wy j K s s) := ⟨_, rfl⟩
          rw [← hT0] at hD2 ⊢
          have j1 : ((T0 : Int) != (T0 : Int)) = false := by simp
          have i3 : ¬ ((j : Int) < (j : Int)) := by omega
          have HBe := belStep HB HBL.out
          have HMe2 : Hid (BI _ A2 n2 bs2) := Lib.hid (HM.out.below HBL.out (Nat.le_refl _))
          clear hT0
          go_wp2
          go_quiet (fail)
          have HBt0 : Hid (∀ k, Below w.heap.size w (World.drewN wr k)) := Lib.hid (fun k => below_drewN HBe.out k)
          have HMt : Hid (∀ k, BI (World.drewN wr k) A2 n2 bs2) := Lib.hid (fun k => BI.below HMe2.out (below_drewN (Below.refl _ _) k) (Nat.le_refl _))
          go_wp2_with fail
          refine (drawCountEnds_any A2 n2 c2 bs2 _ (HMt.out _) hn2).mono ?_
          rintro e v1 ⟨ta, tb, tc, td, rfl, ha, hb9, hc9, hd9, hb⟩
          have HBt := belStep (Lib.hid (HBt0.out _)) hb
          clear hb HMt HBt0
          obtain ⟨tq, htq⟩ : ∃ q, q = ceQ ta tb tc td := ⟨_, rfl⟩
          obtain ⟨tn, htn⟩ : ∃ q, q = ceN ta tb tc td := ⟨_, rfl⟩
          obtain ⟨tu, htu⟩ : ∃ q, q = coA ta tb tc td := ⟨_, rfl⟩
          obtain ⟨tv, htv⟩ : ∃ q, q = coB ta tb tc td := ⟨_, rfl⟩
          have TQ := Lib.hid htq; have TN := Lib.hid htn; have TU := Lib.hid htu; have TV := Lib.hid htv
          have t1 : (tq == tq) = true := by simp
          have t2 : (tn == tn) = true := by simp
          have t3 : (tu == tu) = true := by simp
          have t4 : (tv == tv) = true := by simp
          clear htq htn htu htv
          go_wp2_with fail
          refine (iCountEnds_any ta tb tc td _ (by omega) (by omega)).mono ?_
          rw [← TN.out, ← TQ.out]
          rintro e v2 ⟨rfl, hb⟩
          replace HBt := belStep HBt hb
          clear hb
          go_wp2_with fail
          refine (sCountEnds_any ta tb tc td _ (by omega) (by omega)).mono ?_
          rw [← TN.out, ← TQ.out]
          rintro e v3 ⟨rfl, hb⟩
          replace HBt := belStep HBt hb
          clear hb
          go_wp2_with fail
          refine (iChanceOf_any ta tb tc td _ (by omega) (by omega)).mono ?_
          rw [← TU.out, ← TV.out, ← TQ.out]
          rintro e v4 ⟨rfl, hb⟩
          replace HBt := belStep HBt hb
          clear hb
          go_wp2_with fail
          have T5 := cellNew v4 (.int .i64 tu) (.int .i64 tv) 32
          replace HBt := belAlloc HBt (.cells #[.int .i64 tu, .int .i64 tv] 32)
          have r0 := T5.out.c0; have r1 := T5.out.c1; have rz := T5.out.lt
          refine (sChanceOf_any ta tb tc td _ (by omega) (by omega)).mono ?_
          rw [← TU.out, ← TV.out, ← TQ.out]
          rintro e v5 ⟨rfl, hb⟩
          replace HBt := belStep HBt hb; replace T5 := cellStep T5 hb; replace r0 := T5.out.c0; replace r1 := T5.out.c1; replace rz := T5.out.lt
          clear hb
          have T6 := cellNew v5 (.int .i64 tu) (.int .i64 tv) 32
          rcases tq with _ | _
          all_goals
            go_wp2
            go_ret
            exact ⟨rfl, (HBt.out.alloc HBt.out.size _)⟩
  · obtain rfl := hqr hr2
    subst hr2
    have hQT : fallB x y = true := HQ.out.symm
    have hfi := fallB_iff.1 hQT
    obtain ⟨N, rfl⟩ : ∃ N : Nat, x = (N : Int) := ⟨x.toNat, by omega⟩
    obtain ⟨K, rfl⟩ : ∃ K : Nat, y = (K : Int) := ⟨y.toNat, by omega⟩
    have hN2 : 2 ≤ N := by omega
    have hN6 : N ≤ 6 := by omega
    have hK20 : K ≤ 20 := by omega
    have eAL : al = (allN (N : Int) (K : Int) : Int) := by rw [HAL.out, if_pos hQT]
    clear hfi

    obtain ⟨hq0, Nq, Kq, S, hq1, hq2, hSz, hq3, hq4, hq5, hSN0⟩ := cfQ_nat HR.out.symm
    subst hSz
    have hSN : S < N := by omega
    have hM : N = M := by rw [HMe.out, cfM_yes HR.out.symm]; simp
    subst hM
    have hF : F = chF N K (S : Int) N := by rw [HFe.out, cfF_yes HR.out.symm]; simp
    have HFC : Hid (∀ e, e < N → gi F (e * 2) = rtA (wy N K e S) (N : Int) (K : Int) ∧ gi F (e * 2 + 1) = rtB (wy N K e S) (N : Int) (K : Int)) := fun e he => by
      have h1 := gi_chF (N := N) (K := K) (s := (S : Int)) he
      rw [gi_wy he, Int.toNat_natCast] at h1
      rw [hF]; exact h1
    have HRE : Hid (∀ e, e < N → RatW al (wy N K e S : Int) (rtA (wy N K e S) (N : Int) (K : Int)) (rtB (wy N K e S) (N : Int) (K : Int))) := fun e he => by
      rw [eAL]; exact rat_w _ hQT (by have := wy_le (N := N) (K := K) (s := S) (e := e) hN6 hK20; omega)
    have HGW : Hid (RatW al (gapN N K : Int) ga gb) := by
      have h1 := rat_w (gapN N K) hQT (by have := gapN_le (n := N) (K := K) hN6 hK20; omega)
      show RatW _ _ _ _
      rw [eAL, HGA.out, HGB.out, gpA_yes hQT, gpB_yes hQT]
      simpa using h1
    have HGD : Hid (∀ e e2, e < N → e2 < N → (wy N K e S : Int) - (wy N K e2 S : Int) ≤ (gapN N K : Int)) := fun e e2 h1 h2 => gap_dif hSN h1 h2
    have HWL : Hid (∀ e, (0 : Int) ≤ (wy N K e S : Int) ∧ (wy N K e S : Int) ≤ 95367431640625) := fun e => ⟨by omega, wy_le hN6 hK20⟩
    have HGL : Hid ((gapN N K : Int) ≤ 95367431640625) := gapN_le hN6 hK20
    have HCE : Hid (∀ (wi : World) (e : Nat), e < N → Calls Try.prog 15 #[.int .i64 (N : Int), .int .i64 (K : Int), .int .i64 (S : Int), .int .i64 (e : Int)] wi (RetIB (wy N K e S : Int) true wi)) := fun wi e he => by
      have h1 := iCountEnds_any (N : Int) (K : Int) (S : Int) (e : Int) wi (by omega) (by omega)
      rwa [(ce_wy hQT hSN he).1, (ce_wy hQT hSN he).2] at h1
    have HCT : Hid (∀ (wi : World) (e : Nat), e < N → Calls Try.prog 15 #[.int .i64 (N : Int), .int .i64 (K : Int), .int .i64 (e : Int), .int .i64 (S : Int)] wi (RetIB (wy N K e S : Int) true wi)) := fun wi e he => by
      have h1 := iCountEnds_any (N : Int) (K : Int) (e : Int) (S : Int) wi (by omega) (by omega)
      rwa [(ce_wy hQT he hSN).1, (ce_wy hQT he hSN).2, wy_sym hSN he] at h1
    have HCM : Hid (∀ (wi : World) (e : Nat), e < N → Calls Try.prog 15 #[.int .i64 (N : Int), .int .i64 (K : Int), .int .i64 ((N : Int) - 1 - (S : Int)), .int .i64 ((N : Int) - 1 - (e : Int))] wi (RetIB (wy N K e S : Int) true wi)) := fun wi e he => by
      have h1 := iCountEnds_any (N : Int) (K : Int) ((N - 1 - S : Nat) : Int) ((N - 1 - e : Nat) : Int) wi (by omega) (by omega)
      rw [(ce_wy hQT (show N - 1 - S < N by omega) (show N - 1 - e < N by omega)).1, (ce_wy hQT (show N - 1 - S < N by omega) (show N - 1 - e < N by omega)).2, wy_mir he hSN] at h1
      rwa [show ((N - 1 - S : Nat) : Int) = (N : Int) - 1 - (S : Int) by omega, show ((N - 1 - e : Nat) : Int) = (N : Int) - 1 - (e : Int) by omega] at h1
    have HCO : Hid (∀ (wi : World) (e : Nat), e < N → Calls Try.prog 16 #[.int .i64 (N : Int), .int .i64 (K : Int), .int .i64 (S : Int), .int .i64 (e : Int)] wi (RetRB (rtA (wy N K e S) (N : Int) (K : Int)) (rtB (wy N K e S) (N : Int) (K : Int)) true wi)) := fun wi e he => by
      have h1 := iChanceOf_any (N : Int) (K : Int) (S : Int) (e : Int) wi (by omega) (by omega)
      have hc := ce_wy hQT hSN he
      rwa [coA_yes hc.1, coB_yes hc.1, hc.1, hc.2, Int.toNat_natCast] at h1
    have HAll : Hid (al = ((sg N (fun e => wy N K e S) : Nat) : Int)) := by show _ = _; rw [eAL, wy_all hSN]; simp [allN]
    have q1 : IntKind.i64.wrap ((N : Int) - 1) = (N : Int) - 1 := IntWalk.i64_in _ (by omega)
    have q2 : IntKind.i64.wrap ((N : Int) - 1 - (S : Int)) = (N : Int) - 1 - (S : Int) := IntWalk.i64_in _ (by omega)
    have hM2 : (2 : Int) ≤ (N : Int) := by omega
    have EAL := Lib.hid eAL; have HQT := Lib.hid hQT
    clear eAL hQT hF hSN0 hq0 hq1 hq2 hq3 hq4 hq5
    go_wp2_with (go_at_call 14; refine (nRatios_same X1 N cq1 F X2 cq2 _ HX1.out HX2.out (by omega)).mono ?_; rintro e wb ⟨rfl, hb⟩; replace HB := belStep HB hb; replace HM := Lib.hid (HM.out.below hb (Nat.le_refl _)); replace HX1 := rqStepK HX1 hb; replace HX2 := rqStepK HX2 hb; replace G1 := cellStep G1 hb; replace G2 := cellStep G2 hb; replace G3 := cellStep G3 hb; replace G4 := cellStep G4 hb; replace g0 := G1.out.c0; replace g1 := G1.out.c1; replace gz := G1.out.lt; replace m0 := G2.out.c0; replace m1 := G2.out.c1; replace mz := G2.out.lt; replace k0 := G3.out.c0; replace k1 := G3.out.c1; replace kz := G3.out.lt; replace v0 := G4.out.c0; replace v1 := G4.out.c1; replace vz := G4.out.lt; clear hb)
    go_loopw [24, 172] (fun s i wr => ∃ e : Nat, e ≤ N ∧ i = .int .i64 (e : Int) ∧ s = .int .i64 ((sg e (fun e => wy N K e S) : Nat) : Int) ∧ Below wb.heap.size wb wr) (fun _ i _ => N - (intOf i).toNat)
    case atStart => exact ⟨0, Nat.zero_le _, rfl, rfl, Below.refl _ _⟩
    case round =>
      obtain ⟨e, he, rfl, rfl, hbl⟩ := hrel
      obtain ⟨wo, hwo⟩ : ∃ v : World, v = wr := ⟨_, rfl⟩
      subst hwo
      have HBL := Lib.hid hbl
      by_cases hlt : e < N
      · have HX := rqStepK HX1 HBL.out
        have G1e := cellStep G1 HBL.out
        obtain ⟨b, off, rfl, hbw, hcc⟩ := HX.out.2 (by omega)
        have c0 := hcc (e * 2) (by omega)
        have c1 := hcc (e * 2 + 1) (by omega)
        obtain ⟨ra, hra⟩ : ∃ a, a = rtA (wy N K e S) (N : Int) (K : Int) := ⟨_, rfl⟩
        obtain ⟨rb, hrb⟩ : ∃ a, a = rtB (wy N K e S) (N : Int) (K : Int) := ⟨_, rfl⟩
        rw [(HFC.out e hlt).1, ← hra] at c0
        rw [(HFC.out e hlt).2, ← hrb, ← Nat.add_assoc] at c1
        have hre := HRE.out e hlt
        have h1e := fun wi => HCE.out wi e hlt
        have h2e := fun wi => HCT.out wi e hlt
        have h3e := fun wi => HCM.out wi e hlt
        have h4e := fun wi => HCO.out wi e hlt
        have hwl := HWL.out e
        have hgd := fun e2 h2 => HGD.out e e2 hlt h2
        rw [← hra, ← hrb] at hre h4e
        have hsn := sg_succ e (fun e => wy N K e S)
        have hsl := sg_le6 (n := N) (j := e) (by omega) (fun e => wy N K e S) (fun x _ => by have := (HWL.out x).2; omega) he
        obtain ⟨S0, hS0⟩ : ∃ S', S' = sg e (fun e => wy N K e S) := ⟨_, rfl⟩
        obtain ⟨C0, hC0⟩ : ∃ C, C = wy N K e S := ⟨_, rfl⟩
        rw [← hS0] at hsl hsn ⊢
        rw [← hC0] at hre h1e h2e h3e hwl hgd
        have HSN : Hid (sg (e + 1) (fun e => wy N K e S) = S0 + C0) := by show _ = _; rw [hsn, hC0]
        obtain ⟨D, hD1, hD2, hD3, hD4⟩ := hre
        have i1 : IntKind.i64.wrap ((S0 : Int) + (C0 : Int)) = (S0 : Int) + (C0 : Int) := IntWalk.i64_in _ (by omega)
        have i2 : IntKind.i64.wrap ((e : Int) + 1) = (e : Int) + 1 := IntWalk.i64_in _ (by omega)
        have i3 : (e : Int) < (N : Int) := by omega
        have i4 : (0 : Int) ≤ (e : Int) := by omega
        have q3 : IntKind.i64.wrap ((N : Int) - 1 - (e : Int)) = (N : Int) - 1 - (e : Int) := IntWalk.i64_in _ (by omega)
        have x1 : ((C0 : Int) != (C0 : Int)) = false := by simp
        have x2 : (ra != ra) = false := by simp
        have x3 : (rb != rb) = false := by simp
        have H1 := Lib.hid h1e; have H2 := Lib.hid h2e; have H3 := Lib.hid h3e; have H4 := Lib.hid h4e
        have HGDe := Lib.hid hgd
        have HHX := Lib.hid hbl
        clear hbl hcc hra hrb h1e h2e h3e h4e hgd hsn hsl hS0 hC0
        go_wp2_with fail
        have R1 := cellNew wo (.int .i64 ra) (.int .i64 rb) 32
        obtain ⟨w1', hw1'⟩ : ∃ W, W = wo.alloc (.cells #[.int .i64 ra, .int .i64 rb] 32) := ⟨_, rfl⟩
        have HBo : Hid (Below wb.heap.size wb w1') := by rw [hw1']; exact belAlloc HBL _
        have HWo : Hid (Below wo.heap.size wo w1') := by rw [hw1']; exact belAlloc belRefl _
        rw [← hw1'] at R1 ⊢
        clear hw1' c0 c1
        refine (H1.out _).mono ?_
        rintro e1 w2' ⟨rfl, hb⟩
        replace R1 := cellStep R1 hb; replace HBo := belStep HBo hb; replace HWo := belStep HWo hb
        clear hb
        go_wp2_with fail
        refine (H2.out _).mono ?_
        rintro e1 w3' ⟨rfl, hb⟩
        replace R1 := cellStep R1 hb; replace HBo := belStep HBo hb; replace HWo := belStep HWo hb
        clear hb
        go_wp2_with fail
        refine (H3.out _).mono ?_
        rintro e1 w4' ⟨rfl, hb⟩
        replace R1 := cellStep R1 hb; replace HBo := belStep HBo hb; replace HWo := belStep HWo hb
        clear hb
        go_wp2_with fail
        refine (H4.out _).mono ?_
        rintro e1 w5' ⟨rfl, hb⟩
        replace R1 := cellStep R1 hb; replace HBo := belStep HBo hb; replace HWo := belStep HWo hb
        clear hb
        have r0 := R1.out.c0; have r1 := R1.out.c1; have rz := R1.out.lt
        obtain ⟨br, hbr⟩ : ∃ b, b = wo.heap.size := ⟨_, rfl⟩
        go_upto_region 23 with fail
        have R2 := cellNew w5' (.int .i64 ra) (.int .i64 rb) 32
        replace R1 := cellAlloc R1 (.cells #[.int .i64 ra, .int .i64 rb] 32)
        replace HBo := belAlloc HBo (.cells #[.int .i64 ra, .int .i64 rb] 32)
        replace HWo := belAlloc HWo (.cells #[.int .i64 ra, .int .i64 rb] 32)
        obtain ⟨w6', hw6'⟩ : ∃ W, W = w5'.alloc (.cells #[.int .i64 ra, .int .i64 rb] 32) := ⟨_, rfl⟩
        rw [← hw6'] at R1 R2 HBo HWo ⊢
        clear hw6' r0 r1 rz
        have r0 := R1.out.c0; have r1 := R1.out.c1; have rz := R1.out.lt
        have p0 := R2.out.c0; have p1 := R2.out.c1; have pz := R2.out.lt
        go_quiet (fail)
        clear p0 p1 pz r0 r1 rz
        have HD1 := Lib.hid hD1; have HD2 := Lib.hid hD2
        go_wp2
        go_loopw [262] (fun i2 wr => ∃ e2 : Nat, e2 ≤ N ∧ i2 = .int .i64 (e2 : Int) ∧ Below w6'.heap.size w6' wr) (fun i2 _ => N - (intOf i2).toNat)
        case atStart => exact ⟨0, Nat.zero_le _, rfl, below_drewN (Below.refl _ _) _⟩
        case round =>
          obtain ⟨e2, he2, rfl, hbl⟩ := hrel
          have HBI := Lib.hid hbl
          have HWi : Hid (Below wo.heap.size wo wr) := Lib.hid (HWo.out.trans (hbl.mono HWo.out.size))
          clear hbl
          by_cases hlt2 : e2 < N
          · have HXi := rqStepK HX HWi.out
            have Gi := cellStep G1e HWi.out
            have Ri := cellStep R1 HBI.out
            obtain ⟨b', off', eb, hbw', hcc⟩ := HXi.out.2 (by omega)
            injection eb with eb; injection eb with eb1 eb2 eb3
            subst eb1 eb2
            have c0 := hcc (e2 * 2) (by omega)
            have c1 := hcc (e2 * 2 + 1) (by omega)
            obtain ⟨qa, hqa⟩ : ∃ a, a = rtA (wy N K e2 S) (N : Int) (K : Int) := ⟨_, rfl⟩
            obtain ⟨qb, hqb⟩ : ∃ a, a = rtB (wy N K e2 S) (N : Int) (K : Int) := ⟨_, rfl⟩
            rw [(HFC.out e2 hlt2).1, ← hqa] at c0
            rw [(HFC.out e2 hlt2).2, ← hqb, ← Nat.add_assoc] at c1
            have hre2 := HRE.out e2 hlt2
            have hwl2 := HWL.out e2
            have hgd2 := HGDe.out e2 hlt2
            rw [← hqa, ← hqb] at hre2
            obtain ⟨C2, hC2⟩ : ∃ C, C = wy N K e2 S := ⟨_, rfl⟩
            rw [← hC2] at hre2 hwl2 hgd2
            obtain ⟨D2, hE1, hE2, hE3, _⟩ := hre2
            obtain ⟨Dg, hF1, hF2, hF3, _⟩ := HGW.out
            have hgl := HGL.out
            obtain ⟨Gp, hGp⟩ : ∃ g, g = (gapN N K : Int) := ⟨_, rfl⟩
            rw [← hGp] at hgd2 hF2 hgl
            have y1' : IntKind.i64.wrap ((C0 : Int) - (C2 : Int)) = (C0 : Int) - (C2 : Int) := IntWalk.i64_in _ (by omega)
            have y3 : IntKind.i64.wrap ((e2 : Int) + 1) = (e2 : Int) + 1 := IntWalk.i64_in _ (by omega)
            have y4 : (e2 : Int) < (N : Int) := by omega
            have y5 : (0 : Int) ≤ (e2 : Int) := by omega
            obtain ⟨X0, hX0⟩ : ∃ v, v = (C0 : Int) - (C2 : Int) := ⟨_, rfl⟩
            have y1 : IntKind.i64.wrap ((C0 : Int) - (C2 : Int)) = X0 := by rw [y1', hX0]
            have y2 : X0 ≤ Gp := by rw [hX0]; exact hgd2
            have y6 : ¬ Gp < X0 := by omega
            have y7 : decide (Gp < X0) = false := by simp [y6]
            clear y1' hcc hqa hqb hC2 hGp hgd2 hgl hX0 hwl2
            go_upto_region 28 with fail
            have Q2 := cellNew wr (.int .i64 qa) (.int .i64 qb) 32
            replace Ri := cellAlloc Ri (.cells #[.int .i64 qa, .int .i64 qb] 32)
            replace Gi := cellAlloc Gi (.cells #[.int .i64 qa, .int .i64 qb] 32)
            replace HBI := belAlloc HBI (.cells #[.int .i64 qa, .int .i64 qb] 32)
            obtain ⟨wq, hwq⟩ : ∃ W, W = wr.alloc (.cells #[.int .i64 qa, .int .i64 qb] 32) := ⟨_, rfl⟩
            rw [← hwq] at Ri Gi HBI Q2 ⊢
            clear hwq c0 c1
            have s0 := Ri.out.c0; have s1 := Ri.out.c1; have sz := Ri.out.lt
            have t0 := Q2.out.c0; have t1 := Q2.out.c1; have tz := Q2.out.lt
            have u0 := Gi.out.c0; have u1 := Gi.out.c1; have uz := Gi.out.lt
            have hD1 := HD1.out; have hD2 := HD2.out
            go_quiet (fail)
            go_wp2
            go_quiet (fail)
            go_wp2
            exact ⟨⟨e2 + 1, by omega, by go_num, below_drewN HBI.out _⟩, by simp [intOf] <;> omega⟩
          · obtain rfl : N = e2 := by omega
            go_wp2
            exact ⟨⟨e + 1, by omega, by go_num, by rw [HSN.out]; simp, HBo.out.trans (HBI.out.mono HBo.out.size)⟩, by simp [intOf] <;> omega⟩
      · obtain rfl : N = e := by omega
        rw [← HAll.out]
        have n1 : ((N : Int) != (N : Int)) = false := by simp
        have i3 : ¬ (N : Int) < (N : Int) := by omega
        replace HB := belStep HB HBL.out
        replace HM : Hid (BI _ A2 n2 bs2) := Lib.hid (HM.out.below HBL.out (Nat.le_refl _))
        replace G3 := cellStep G3 HBL.out
        have eAL := EAL.out; have hQT := HQT.out
        clear hbl HBL
        have HRW := rat_w (homeS N K N) hQT (by have h1 := homeS_le (n := N) (K := K) (Nat.le_refl N) (by omega) (by omega); have h2 : N * 95367431640625 ≤ 6 * 95367431640625 := Nat.mul_le_mul_right _ (by omega); omega)
        have eHA : ha = rtA (homeS N K N) (N : Int) (K : Int) := by rw [HHA.out, ahA_yes hQT]; simp
        have eHB : hb0 = rtB (homeS N K N) (N : Int) (K : Int) := by rw [HHB.out, ahB_yes hQT]; simp
        rw [← eHA, ← eHB, ← eAL] at HRW
        have HRWh := Lib.hid HRW
        have HSG := Lib.hid (homeS_sg N K N (Nat.le_refl N))
        have HQTh := Lib.hid hQT
        clear HRW eHA eHB eAL hQT
        go_wp2_with fail
        go_loopw [38, 39] (fun s i wr => ∃ j : Nat, j ≤ N ∧ i = .int .i64 (j : Int) ∧ s = .int .i64 ((sg j (fun s => wy N K s s) : Nat) : Int) ∧ Below wo.heap.size wo wr) (fun _ i _ => N - (intOf i).toNat)
        case atStart => exact ⟨0, Nat.zero_le _, rfl, rfl, Below.refl _ _⟩
        case round =>
          obtain ⟨j, hj, rfl, rfl, hbl⟩ := hrel
          have HBL := Lib.hid hbl
          clear hbl
          by_cases hlt : j < N
          · have hcw := ce_wy (K := K) HQTh.out hlt hlt
            have hlw := wy_le (N := N) (K := K) (s := j) (e := j) (by omega) (by omega)
            have hsl := sg_le6 (n := N) (j := j) (by omega) (fun s => wy N K s s) (fun x _ => by have := wy_le (N := N) (K := K) (s := x) (e := x) (by omega) (by omega); omega) hj
            have hsn := sg_succ j (fun s => wy N K s s)
            obtain ⟨S0, hS0⟩ : ∃ S, S = sg j (fun s => wy N K s s) := ⟨_, rfl⟩
            obtain ⟨C0, hC0⟩ : ∃ C, C = wy N K j j := ⟨_, rfl⟩
            rw [← hS0] at hsl hsn ⊢
            rw [← hC0] at hcw hlw
            have HSN : Hid (sg (j + 1) (fun s => wy N K s s) = S0 + C0) := by show _ = _; rw [hsn, hC0]
            have i1 : IntKind.i64.wrap ((S0 : Int) + (C0 : Int)) = (S0 : Int) + (C0 : Int) := IntWalk.i64_in _ (by omega)
            have i2 : IntKind.i64.wrap ((j : Int) + 1) = (j : Int) + 1 := IntWalk.i64_in _ (by omega)
            have i3 : (j : Int) < (N : Int) := by omega
            clear hsl hsn hS0 hC0
            go_wp2_with fail
            refine (iCountEnds_any (N : Int) (K : Int) (j : Int) (j : Int) _ (by omega) (by omega)).mono ?_
            rw [hcw.1, hcw.2]
            rintro e wk ⟨rfl, hb⟩
            replace HBL := Lib.hid (HBL.out.trans (hb.mono HBL.out.size))
            clear hb hcw hlw
            go_wp2
            exact ⟨⟨j + 1, by omega, by go_num, by rw [HSN.out]; simp, HBL.out⟩, by simp [intOf] <;> omega⟩
          · obtain rfl : j = N := by omega
            have G3e := cellStep G3 HBL.out
            have k0 := G3e.out.c0; have k1 := G3e.out.c1; have kz := G3e.out.lt
            obtain ⟨D, hD1, hD2, hD3, _⟩ := HRWh.out
            rw [HSG.out] at hD2
            obtain ⟨T0, hT0⟩ : ∃ S, S = sg j (fun s => wy j K s s) := ⟨_, rfl⟩
            rw [← hT0] at hD2 ⊢
            have j1 : ((T0 : Int) != (T0 : Int)) = false := by simp
            have i3 : ¬ ((j : Int) < (j : Int)) := by omega
            have HBe := belStep HB HBL.out
            have HMe2 : Hid (BI _ A2 n2 bs2) := Lib.hid (HM.out.below HBL.out (Nat.le_refl _))
            clear hT0
            go_wp2
            go_quiet (fail)
            have HBt0 : Hid (∀ k, Below w.heap.size w (World.drewN wr k)) := Lib.hid (fun k => below_drewN HBe.out k)
            have HMt : Hid (∀ k, BI (World.drewN wr k) A2 n2 bs2) := Lib.hid (fun k => BI.below HMe2.out (below_drewN (Below.refl _ _) k) (Nat.le_refl _))
            go_wp2_with fail
            refine (drawCountEnds_any A2 n2 c2 bs2 _ (HMt.out _) hn2).mono ?_
            rintro e v1 ⟨ta, tb, tc, td, rfl, ha, hb9, hc9, hd9, hb⟩
            have HBt := belStep (Lib.hid (HBt0.out _)) hb
            clear hb HMt HBt0
            obtain ⟨tq, htq⟩ : ∃ q, q = ceQ ta tb tc td := ⟨_, rfl⟩
            obtain ⟨tn, htn⟩ : ∃ q, q = ceN ta tb tc td := ⟨_, rfl⟩
            obtain ⟨tu, htu⟩ : ∃ q, q = coA ta tb tc td := ⟨_, rfl⟩
            obtain ⟨tv, htv⟩ : ∃ q, q = coB ta tb tc td := ⟨_, rfl⟩
            have TQ := Lib.hid htq; have TN := Lib.hid htn; have TU := Lib.hid htu; have TV := Lib.hid htv
            have t1 : (tq == tq) = true := by simp
            have t2 : (tn == tn) = true := by simp
            have t3 : (tu == tu) = true := by simp
            have t4 : (tv == tv) = true := by simp
            clear htq htn htu htv
            go_wp2_with fail
            refine (iCountEnds_any ta tb tc td _ (by omega) (by omega)).mono ?_
            rw [← TN.out, ← TQ.out]
            rintro e v2 ⟨rfl, hb⟩
            replace HBt := belStep HBt hb
            clear hb
            go_wp2_with fail
            refine (sCountEnds_any ta tb tc td _ (by omega) (by omega)).mono ?_
            rw [← TN.out, ← TQ.out]
            rintro e v3 ⟨rfl, hb⟩
            replace HBt := belStep HBt hb
            clear hb
            go_wp2_with fail
            refine (iChanceOf_any ta tb tc td _ (by omega) (by omega)).mono ?_
            rw [← TU.out, ← TV.out, ← TQ.out]
            rintro e v4 ⟨rfl, hb⟩
            replace HBt := belStep HBt hb
            clear hb
            go_wp2_with fail
            have T5 := cellNew v4 (.int .i64 tu) (.int .i64 tv) 32
            replace HBt := belAlloc HBt (.cells #[.int .i64 tu, .int .i64 tv] 32)
            have r0 := T5.out.c0; have r1 := T5.out.c1; have rz := T5.out.lt
            refine (sChanceOf_any ta tb tc td _ (by omega) (by omega)).mono ?_
            rw [← TU.out, ← TV.out, ← TQ.out]
            rintro e v5 ⟨rfl, hb⟩
            replace HBt := belStep HBt hb; replace T5 := cellStep T5 hb; replace r0 := T5.out.c0; replace r1 := T5.out.c1; replace rz := T5.out.lt
            clear hb
            have T6 := cellNew v5 (.int .i64 tu) (.int .i64 tv) 32
            rcases tq with _ | _
            all_goals
              go_wp2
              go_ret
              exact ⟨rfl, (HBt.out.alloc HBt.out.size _)⟩

set_option maxRecDepth 100000 in
set_option maxHeartbeats 400000 in
theorem lawChancesExact_any (A : Option Addr) (n c : Nat) (bs : List Int) (A2 : Option Addr) (n2 c2 : Nat) (bs2 : List Int) (w : World) (h : BI w A n bs) (hn : n ≤ 9223372036854775807) (h2 : BI w A2 n2 bs2) (hn2 : n2 ≤ 9223372036854775807) :
    Calls Try.prog 3 #[.slice A n c, .slice A2 n2 c2] w (RetB true w) := by
  rcases hb : bigB n n2 with _ | _
  · have h3 := hb
    unfold bigB at h3
    simp only [Bool.or_eq_false_iff, decide_eq_false_iff_not] at h3
    exact lawChancesExact_of A n c bs A2 n2 c2 bs2 w h h2 (by omega) (by omega) hb
  · have HB := Lib.hid hb
    clear h h2 hb
    go_enter Try.func3, Try.ntmps3
    go_wp2_with fail
    refine (big_any A n c A2 n2 c2 _ hn hn2).mono ?_
    rw [HB.out]
    rintro e w1 ⟨rfl, hb⟩
    have HB1 := Lib.hid hb
    clear hb
    go_wp2
    go_ret
    exact ⟨rfl, HB1.out⟩
end Go.Proofs.Ytbgkhehopldilaa
