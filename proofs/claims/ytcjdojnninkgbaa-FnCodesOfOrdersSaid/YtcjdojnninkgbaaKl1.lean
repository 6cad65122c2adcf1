/- The law FnCodesOfOrders, gone through: codes tell orders and add up to inversions. -/
import Derived.Test.YtcjdojnninkgbaaCu4
import Derived.Test.YtcjdojnninkgbaaKc1
import Derived.Test.YtcjdojnninkgbaaKk1
import Derived.Test.YtcjdojnninkgbaaOc2
import Derived.Test.YtcjdojnninkgbaaOc3
import Derived.Test.YtcjdojnninkgbaaDs2
namespace Go.Proofs.Ytcjdojnninkgbaa
open Go Go.RowKit

theorem pairs_le {zs : List Int} (h : ord zs = true) : (pairsN zs).length ≤ 1000 := by
  rw [pairsN_yes h]
  have h1 := invs_len zs
  have h2 := (ord_iff.1 h).2.1
  have h3 : zs.length * zs.length ≤ 8 * 8 := Nat.mul_le_mul h2 h2
  omega
theorem codeN_all {zs : List Int} (h : ord zs = true) : ∀ x ∈ codeN zs, 0 ≤ x ∧ x ≤ 1000000 := by
  rw [codeN_yes h]
  have h2 := (ord_iff.1 h).2.1
  unfold codeL
  suffices hs : ∀ k, k ≤ zs.length → ∀ x ∈ codeK zs k, 0 ≤ x ∧ x ≤ 1000000 from hs _ (Nat.le_refl _)
  intro k
  induction k with
  | zero => intro _ x hx; simp [codeK] at hx
  | succ k ih =>
    intro hk x hx
    simp only [codeK, List.mem_append, List.mem_singleton] at hx
    rcases hx with hx | rfl
    · exact ih (by omega) x hx
    · have := cntB_le zs k (zs.length - (k + 1))
      omega
theorem codeN_leng {zs : List Int} (h : ord zs = true) : (codeN zs).length = zs.length := by rw [codeN_yes h]; exact codeK_len _ _

set_option maxRecDepth 100000 in
set_option maxHeartbeats 4000000 in
theorem lawCodesOfOrders_of (A : Option Addr) (n c : Nat) (bs : List Int) (A2 : Option Addr) (n2 c2 : Nat) (bs2 : List Int) (w : World) (h : BI w A n bs) (h2 : BI w A2 n2 bs2) (hn : n ≤ 1048576) (hn2 : n2 ≤ 1048576) (hbig : bigB n n2 = false) :
    Calls Try.prog 3 #[.slice A n c, .slice A2 n2 c2] w (RetB true w) := by
  have HBIG := Lib.hid hbig
  have HC := Lib.hid h
  have HM := Lib.hid h2
  have HB := belRefl (w := w)
  clear h h2 hbig
  go_enter Try.func3, Try.ntmps3
  go_wp2_with fail
  refine (big_any A n c A2 n2 c2 _ (by omega) (by omega)).mono ?_
  rw [HBIG.out]
  rintro e w1 ⟨rfl, hb⟩
  replace HB := belStep HB hb
  replace HC : Hid (BI w1 A n bs) := HC.out.below hb (Nat.le_refl _)
  replace HM : Hid (BI w1 A2 n2 bs2) := HM.out.below hb (Nat.le_refl _)
  clear hb
  go_wp2_with fail
  refine (drawCodeOf_any A n c bs _ HC.out hn).mono ?_
  rintro e w2 ⟨zs, P, np, cp, rfl, hnp, ho, hb⟩
  have HP := Lib.hid ho
  replace HB := belStep HB hb
  replace HM : Hid (BI w2 A2 n2 bs2) := HM.out.below hb (Nat.le_refl _)
  have hnp2 : np ≤ 1048576 := by omega
  have hzl := ho.ri.1
  clear ho hb HC
  go_wp2_with fail
  refine (iCodeOf_any P np cp zs _ HP.out.ri hnp2 HP.out.le).mono ?_
  rintro e w3 ⟨L1, d1, rfl, ho, hb⟩
  have HL := Lib.hid ho
  replace HP := oiStep HP hb
  replace HB := belStep HB hb
  replace HM : Hid (BI w3 A2 n2 bs2) := HM.out.below hb (Nat.le_refl _)
  clear ho hb
  go_wp2_with fail
  refine (sCodeOf_any P np cp zs _ HP.out.ri hnp2 HP.out.le).mono ?_
  rintro e w4 ⟨L2, d2, rfl, ho, hb⟩
  have HL2 := Lib.hid ho
  replace HP := oiStep HP hb
  replace HL := oiStep HL hb
  replace HB := belStep HB hb
  replace HM : Hid (BI w4 A2 n2 bs2) := HM.out.below hb (Nat.le_refl _)
  clear ho hb
  have hcl := codeN_len zs
  have hob : (ord zs != ord zs) = false := by simp
  rcases hq : ord zs with _ | _
  · rw [hq] at hob
    have HQ := Lib.hid hq
    clear hq
    go_wp2_with (first
      | (go_at_call 8; refine (kSame_any L1 (codeN zs).length d1 (codeN zs) L2 (codeN zs).length d2 (codeN zs) _ HL.out.ri HL2.out.ri (by omega) (by omega)).mono ?_; rw [eqB_self]; rintro e w5 ⟨rfl, hb⟩; have HB5 := belStep HB hb; have HP5 := oiStep HP hb; have HM5 : Hid (BI w5 A2 n2 bs2) := HM.out.below hb (Nat.le_refl _); clear hb)
      | (go_at_call 9; refine (iIsOrder_any P np cp zs _ HP5.out.ri (by omega)).mono ?_; rw [HQ.out]; rintro e w6 ⟨rfl, hb⟩; have HB6 := belStep HB5 hb; have HM6 : Hid (BI w6 A2 n2 bs2) := HM5.out.below hb (Nat.le_refl _); clear hb)
      | fail)
    clear HB HB5 HM HM5 HP HP5 HL HL2
    -- the second half: a code
    go_wp2_with fail
    refine (drawOrderOfCode_any A2 n2 c2 bs2 _ HM6.out (by omega)).mono ?_
    rintro e v1 ⟨ys, Y, ny, cy, rfl, hny, ho, hb⟩
    have HY := Lib.hid ho
    have HB1 := Lib.hid (HB6.out.trans (hb.mono HB6.out.size))
    have hny2 : ny ≤ 1048576 := by omega
    clear ho hb HM6
    go_wp2_with fail
    refine (iOrderOfCode_any Y ny cy ys _ HY.out.ri hny2 HY.out.le).mono ?_
    rintro e v2 ⟨G1, d1, rfl, ho, hb⟩
    have HG1 := Lib.hid ho
    replace HY := oiStep HY hb
    replace HB1 := belStep HB1 hb
    clear ho hb
    go_wp2_with fail
    refine (sOrderOfCode_any Y ny cy ys _ HY.out.ri hny2 HY.out.le).mono ?_
    rintro e v3 ⟨G2, d2, rfl, ho, hb⟩
    have HG2 := Lib.hid ho
    replace HY := oiStep HY hb
    replace HG1 := oiStep HG1 hb
    replace HB1 := belStep HB1 hb
    clear ho hb
    have hol := ocL_len ys
    have hob : (ocB ys != ocB ys) = false := by simp
    rcases hq : ocB ys with _ | _
    · rw [hq] at hob
      clear hq
      go_wp2_with (go_at_call 8; refine (kSame_any G1 (ocL ys).length d1 (ocL ys) G2 (ocL ys).length d2 (ocL ys) _ HG1.out.ri HG2.out.ri (by omega) (by omega)).mono ?_; rw [eqB_self]; rintro e v4 ⟨rfl, hb⟩; have HB2 := belStep HB1 hb; clear hb)
      go_ret
      exact ⟨rfl, HB2.out⟩
    · rw [hq] at hob
      obtain ⟨e1, e2⟩ := code_oc hq
      have E1 := Lib.hid e1
      have E2 := Lib.hid e2
      clear hq e1 e2
      go_wp2_with (go_at_call 8; refine (kSame_any G1 (ocL ys).length d1 (ocL ys) G2 (ocL ys).length d2 (ocL ys) _ HG1.out.ri HG2.out.ri (by omega) (by omega)).mono ?_; rw [eqB_self]; rintro e v4 ⟨rfl, hb⟩; have HB2 := belStep HB1 hb; have HY2 := oiStep HY hb; have HG3 := oiStep HG1 hb; clear hb)
      refine (iCodeOf_any G1 (ocL ys).length d1 (ocL ys) _ HG3.out.ri (by omega) HG3.out.le).mono ?_
      rw [E1.out, E2.out]
      rintro e v5 ⟨G4, d4, rfl, ho, hb⟩
      have HG4 := Lib.hid ho
      replace HY2 := oiStep HY2 hb
      replace HG3 := oiStep HG3 hb
      replace HB2 := belStep HB2 hb
      have hyl := HY2.out.ri.1
      rw [hyl] at HG4 ⊢
      clear ho hb hyl
      go_wp2_with (first
        | (go_at_call 8; refine (kSame_any G4 ny d4 ys Y ny cy ys _ HG4.out.ri HY2.out.ri hny2 hny2).mono ?_; rw [eqB_self]; rintro e v6 ⟨rfl, hb⟩; have HB3 := belStep HB2 hb; have HG5 := oiStep HG3 hb; clear hb)
        | (go_at_call 9; refine (iIsOrder_any G1 (ocL ys).length d1 (ocL ys) _ HG5.out.ri (by omega)).mono ?_; rw [E2.out]; rintro e v7 ⟨rfl, hb⟩; have HB4 := belStep HB3 hb; clear hb))
      go_ret
      exact ⟨rfl, HB4.out⟩
  · rw [hq] at hob
    obtain ⟨e1, e2⟩ := oc_code hq
    have E1 := Lib.hid e1
    have E2 := Lib.hid e2
    have HQ := Lib.hid hq
    have HS := Lib.hid (code_sum hq)
    have HPL := Lib.hid (pairs_le hq)
    have HCA := Lib.hid (codeN_all hq)
    have HCL := Lib.hid (codeN_leng hq)
    have HDE : Hid (∀ i : Nat, i + 1 < zs.length → ((i : Int) ∈ dscN zs ↔ gi (codeN zs) (i + 1) < gi (codeN zs) i)) := fun i hi => desc_code hq hi
    have hdl := dscN_len zs
    clear hq e1 e2
    go_wp2_with (first
      | (go_at_call 8; refine (kSame_any L1 (codeN zs).length d1 (codeN zs) L2 (codeN zs).length d2 (codeN zs) _ HL.out.ri HL2.out.ri (by omega) (by omega)).mono ?_; rw [eqB_self]; rintro e w5 ⟨rfl, hb⟩; have HB5 := belStep HB hb; have HP5 := oiStep HP hb; have HL5 := oiStep HL hb; have HM5 : Hid (BI w5 A2 n2 bs2) := HM.out.below hb (Nat.le_refl _); clear hb)
      | (go_at_call 9; refine (iIsOrder_any P np cp zs _ HP5.out.ri (by omega)).mono ?_; rw [HQ.out]; rintro e w6 ⟨rfl, hb⟩; have HB6 := belStep HB5 hb; have HM6 : Hid (BI w6 A2 n2 bs2) := HM5.out.below hb (Nat.le_refl _); have HP6 := oiStep HP5 hb; have HL6 := oiStep HL5 hb; clear hb)
      | fail)
    clear HB HB5 HM HM5 HP HP5 HL HL2 HL5
    refine (iOrderOfCode_any L1 (codeN zs).length d1 (codeN zs) _ HL6.out.ri (by omega) HL6.out.le).mono ?_
    rw [E1.out, E2.out, hzl]
    rintro e w7 ⟨R, dr, rfl, ho, hb⟩
    have HR := Lib.hid ho
    have HB7 := belStep HB6 hb
    have HM7 : Hid (BI w7 A2 n2 bs2) := HM6.out.below hb (Nat.le_refl _)
    have HP7 := oiStep HP6 hb
    have HL7 := oiStep HL6 hb
    clear ho hb HB6 HM6 HP6 HL6
    go_wp2_with fail
    refine (iInversionsOf_any P np cp zs _ HP7.out.ri hnp2 HP7.out.le).mono ?_
    rw [HQ.out]
    rintro e w8 ⟨rfl, hb⟩
    replace HR := oiStep HR hb
    replace HB7 := belStep HB7 hb
    replace HM7 : Hid (BI w8 A2 n2 bs2) := HM7.out.below hb (Nat.le_refl _)
    replace HP7 := oiStep HP7 hb
    replace HL7 := oiStep HL7 hb
    clear hb
    go_wp2_with fail
    refine (iDescentsOf_any P np cp zs _ HP7.out.ri hnp2 HP7.out.le).mono ?_
    rw [HQ.out]
    rintro e w9 ⟨D, dd, rfl, ho, hb⟩
    have HD := Lib.hid ho
    replace HR := oiStep HR hb
    replace HB7 := belStep HB7 hb
    replace HM7 : Hid (BI w9 A2 n2 bs2) := HM7.out.below hb (Nat.le_refl _)
    replace HP7 := oiStep HP7 hb
    replace HL7 := oiStep HL7 hb
    clear ho hb
    have hS : ((codeN zs).sum != ((pairsN zs).length : Int)) = false := by rw [HS.out]; simp
    go_wp2_with (first
      | (go_at_call 8; refine (kSame_any R np dr zs P np cp zs _ HR.out.ri HP7.out.ri hnp2 hnp2).mono ?_; rw [eqB_self]; rintro e wa ⟨rfl, hb⟩; have HB8 := belStep HB7 hb; have HP8 := oiStep HP7 hb; have HL8 := oiStep HL7 hb; have HD8 := oiStep HD hb; have HM8 : Hid (BI wa A2 n2 bs2) := HM7.out.below hb (Nat.le_refl _); clear hb)
      | (go_at_call 13; refine (kSum_any L1 (codeN zs).length d1 (codeN zs) _ HL8.out.ri (by omega) HCA.out).mono ?_; rintro e wb ⟨rfl, hb⟩; have HB9 := belStep HB8 hb; have HL9 := oiStep HL8 hb; have HD9 := oiStep HD8 hb; have HM9 : Hid (BI wb A2 n2 bs2) := HM8.out.below hb (Nat.le_refl _); clear hb)
      | fail)
    clear HB7 HB8 HM7 HM8 HP7 HP8 HL7 HL8 HD HD8 HR hS
    go_loopw [16] (fun i wr => ∃ k : Nat, k ≤ np ∧ i = .int .i64 k ∧ Below wb.heap.size wb wr) (fun i _ => np - (intOf i).toNat)
    case atStart => exact ⟨0, Nat.zero_le _, rfl, Below.refl _ _⟩
    case round =>
      obtain ⟨k, hk, rfl, hbk⟩ := hrel
      have HBK := Lib.hid hbk
      clear hbk
      by_cases hlt : k + 1 < np
      · have HLK := oiStep HL9 HBK.out
        have HDK := oiStep HD9 HBK.out
        have hkz : k + 1 < zs.length := by omega
        have hcz := HCL.out
        obtain ⟨g, eg⟩ : ∃ g, L1 = some ⟨g, 0, none⟩ := by
          have h3 := HLK.out
          rw [show (codeN zs).length = ((codeN zs).length - 1) + 1 by omega] at h3
          obtain ⟨g, e, _⟩ := h3.some_
          exact ⟨g, e⟩
        subst eg
        have hc0 := HLK.out.cells k (by omega)
        have hc1 := HLK.out.cells (k + 1) (by omega)
        have i0 : (k : Int) + 1 < (np : Int) := by omega
        have i1 : (k : Int) < ((codeN zs).length : Int) := by omega
        have i2 : (k : Int) + 1 < ((codeN zs).length : Int) := by omega
        have i3 : ((k : Int) + 1).toNat = k + 1 := by omega
        by_cases hf : gi (codeN zs) (k + 1) < gi (codeN zs) k
        · have HK : Hid (decide ((k : Int) ∈ dscN zs) = true) := decide_eq_true ((HDE.out k hkz).2 hf)
          have HKH : Hid (∀ w2 : World, RI w2 D (dscN zs).length (dscN zs) → Calls Try.prog 14 #[.slice D (dscN zs).length dd, .int .i64 (k : Int)] w2 (fun e w' => e = .returned (.bool true) ∧ w' = w2)) := fun w2 h2 => by
            have h3 := kHas_any D (dscN zs).length dd (dscN zs) (k : Int) w2 h2 (by omega)
            rw [HK.out] at h3
            exact h3
          clear hcz hkz
          go_wp2
          go_quiet (first | (go_at_call 14; exact Calls.quiet_of_same (HKH.out _ (by first | exact HDK.out.ri | exact (HDK.out.drewN _).ri))))
          go_wp2
          exact ⟨⟨k + 1, by omega, by go_num, by first | exact below_drewN HBK.out _ | exact HBK.out⟩, by simp [intOf] <;> omega⟩
        · have HK : Hid (decide ((k : Int) ∈ dscN zs) = false) := decide_eq_false (fun h => hf ((HDE.out k hkz).1 h))
          have HKH : Hid (∀ w2 : World, RI w2 D (dscN zs).length (dscN zs) → Calls Try.prog 14 #[.slice D (dscN zs).length dd, .int .i64 (k : Int)] w2 (fun e w' => e = .returned (.bool false) ∧ w' = w2)) := fun w2 h2 => by
            have h3 := kHas_any D (dscN zs).length dd (dscN zs) (k : Int) w2 h2 (by omega)
            rw [HK.out] at h3
            exact h3
          clear hcz hkz
          go_wp2
          go_quiet (first | (go_at_call 14; exact Calls.quiet_of_same (HKH.out _ (by first | exact HDK.out.ri | exact (HDK.out.drewN _).ri))))
          go_wp2
          exact ⟨⟨k + 1, by omega, by go_num, by first | exact below_drewN HBK.out _ | exact HBK.out⟩, by simp [intOf] <;> omega⟩
      · have HBL := belStep HB9 HBK.out
        have HML : Hid (BI wr A2 n2 bs2) := HM9.out.below HBK.out (Nat.le_refl _)
        have i0 : ¬ ((k : Int) + 1 < (np : Int)) := by omega
        clear HB9 HM9 HBK HL9 HD9
        -- the second half: a code
        go_wp2_with fail
        refine (drawOrderOfCode_any A2 n2 c2 bs2 _ HML.out (by omega)).mono ?_
        rintro e v1 ⟨ys, Y, ny, cy, rfl, hny, ho, hb⟩
        have HY := Lib.hid ho
        have HB1 := Lib.hid (HBL.out.trans (hb.mono HBL.out.size))
        have hny2 : ny ≤ 1048576 := by omega
        clear ho hb HML
        go_wp2_with fail
        refine (iOrderOfCode_any Y ny cy ys _ HY.out.ri hny2 HY.out.le).mono ?_
        rintro e v2 ⟨G1, d1, rfl, ho, hb⟩
        have HG1 := Lib.hid ho
        replace HY := oiStep HY hb
        replace HB1 := belStep HB1 hb
        clear ho hb
        go_wp2_with fail
        refine (sOrderOfCode_any Y ny cy ys _ HY.out.ri hny2 HY.out.le).mono ?_
        rintro e v3 ⟨G2, d2, rfl, ho, hb⟩
        have HG2 := Lib.hid ho
        replace HY := oiStep HY hb
        replace HG1 := oiStep HG1 hb
        replace HB1 := belStep HB1 hb
        clear ho hb
        have hol := ocL_len ys
        have hob : (ocB ys != ocB ys) = false := by simp
        rcases hq : ocB ys with _ | _
        · rw [hq] at hob
          clear hq
          go_wp2_with (go_at_call 8; refine (kSame_any G1 (ocL ys).length d1 (ocL ys) G2 (ocL ys).length d2 (ocL ys) _ HG1.out.ri HG2.out.ri (by omega) (by omega)).mono ?_; rw [eqB_self]; rintro e v4 ⟨rfl, hb⟩; have HB2 := belStep HB1 hb; clear hb)
          go_ret
          exact ⟨rfl, HB2.out⟩
        · rw [hq] at hob
          obtain ⟨e1, e2⟩ := code_oc hq
          have E1 := Lib.hid e1
          have E2 := Lib.hid e2
          clear hq e1 e2
          go_wp2_with (go_at_call 8; refine (kSame_any G1 (ocL ys).length d1 (ocL ys) G2 (ocL ys).length d2 (ocL ys) _ HG1.out.ri HG2.out.ri (by omega) (by omega)).mono ?_; rw [eqB_self]; rintro e v4 ⟨rfl, hb⟩; have HB2 := belStep HB1 hb; have HY2 := oiStep HY hb; have HG3 := oiStep HG1 hb; clear hb)
          refine (iCodeOf_any G1 (ocL ys).length d1 (ocL ys) _ HG3.out.ri (by omega) HG3.out.le).mono ?_
          rw [E1.out, E2.out]
          rintro e v5 ⟨G4, d4, rfl, ho, hb⟩
          have HG4 := Lib.hid ho
          replace HY2 := oiStep HY2 hb
          replace HG3 := oiStep HG3 hb
          replace HB2 := belStep HB2 hb
          have hyl := HY2.out.ri.1
          rw [hyl] at HG4 ⊢
          clear ho hb hyl
          go_wp2_with (first
            | (go_at_call 8; refine (kSame_any G4 ny d4 ys Y ny cy ys _ HG4.out.ri HY2.out.ri hny2 hny2).mono ?_; rw [eqB_self]; rintro e v6 ⟨rfl, hb⟩; have HB3 := belStep HB2 hb; have HG5 := oiStep HG3 hb; clear hb)
            | (go_at_call 9; refine (iIsOrder_any G1 (ocL ys).length d1 (ocL ys) _ HG5.out.ri (by omega)).mono ?_; rw [E2.out]; rintro e v7 ⟨rfl, hb⟩; have HB4 := belStep HB3 hb; clear hb))
          go_ret
          exact ⟨rfl, HB4.out⟩


set_option maxHeartbeats 400000 in
theorem lawCodesOfOrders_any (A : Option Addr) (n c : Nat) (bs : List Int) (A2 : Option Addr) (n2 c2 : Nat) (bs2 : List Int) (w : World) (h : BI w A n bs) (hn : n ≤ 9223372036854775807) (h2 : BI w A2 n2 bs2) (hn2 : n2 ≤ 9223372036854775807) :
    Calls Try.prog 3 #[.slice A n c, .slice A2 n2 c2] w (RetB true w) := by
  rcases hb : bigB n n2 with _ | _
  · have h3 := hb
    unfold bigB at h3
    simp only [Bool.or_eq_false_iff, decide_eq_false_iff_not] at h3
    exact lawCodesOfOrders_of A n c bs A2 n2 c2 bs2 w h h2 (by omega) (by omega) hb
  · have HB := Lib.hid hb
    clear h h2 hb
    go_enter Try.func3, Try.ntmps3
    go_wp2_with fail
    refine (big_any A n c A2 n2 c2 _ hn hn2).mono ?_
    rw [HB.out]
    rintro e w1 ⟨rfl, hb⟩
    have HB1 := Lib.hid hb
    clear hb
    go_wp2
    go_ret
    exact ⟨rfl, HB1.out⟩
end Go.Proofs.Ytcjdojnninkgbaa
