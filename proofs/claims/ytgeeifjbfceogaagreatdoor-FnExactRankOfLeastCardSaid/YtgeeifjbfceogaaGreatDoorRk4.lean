/- The model's RankOfLeast. -/
import Derived.Test.YtgeeifjbfceogaaGreatDoorMgU
import Derived.Test.YtgeeifjbfceogaaGreatDoorMgT
namespace Go.Proofs.YtgeeifjbfceogaaGreatDoor
open Go Go.RowKit

theorem KB.drewN {L : List Nat} {a b : World} (h : KB L a b) (k : Nat) : KB L a (b.drewN k) := ⟨h.os, h.tape, h.output, h.size, h.block⟩

set_option maxRecDepth 100000 in
set_option maxHeartbeats 8000000 in
theorem sRankOfLeast_any (W : Int) (A : Option Addr) (n c : Nat) (zs : List Int) (w : World) (h : RI w A n zs) (hn : n ≤ 1048576) :
    Calls Tryz.prog 29 #[.agg #[.int .i64 W, .slice A n c]] w (RetIB (rnkN W zs) (rlQ W zs) w) := by
  have hl := h.1
  have HA := boxNew (W := W) (c := c) 44 h
  have HB := belAlloc (belRefl (w := w)) (.cells #[.int .i64 W, .slice A n c] 44)
  have HI := Lib.hid (alLadder_any W A n c zs _ HA.out.ri hn)
  have HH := Lib.hid h
  clear h
  rcases hq : rlQ W zs with _ | _
  · rw [rnkN_no hq]
    rw [hq] at HI
    clear hq
    go_enter Tryz.func29, Tryz.ntmps29
    go_wp2_with fail
    refine HI.out.mono ?_
    rintro e w1 ⟨rfl, hb⟩
    replace HB := belStep HB hb
    clear hb
    go_wp2
    go_ret2
    exact ⟨rfl, HB.out⟩
  · obtain ⟨hlad, hneed, h6⟩ := rlQ_iff.1 hq
    have hW := (lad_iff.1 hlad).1
    have hn60 : n ≤ 60 := by have := (lad_iff.1 hlad).2.1; rw [hl] at this; exact this
    obtain ⟨N, rfl⟩ : ∃ N : Nat, W = (N : Int) := ⟨W.toNat, by omega⟩
    rw [rnkN_yes hq, Int.toNat_natCast]
    rw [hq] at HI
    have HOK : Hid (OKp N (res zs N)) := Lib.hid ⟨res_ord hlad, res_length zs N⟩
    have h2N : 2 ≤ N := by omega
    have h6N : N ≤ 6 := by omega
    have HLA : Hid (∀ j, j < n → 0 ≤ gi zs j ∧ gi zs j ≤ (N : Int) - 2) := fun j hj => lad_at hlad (by rw [hl]; exact hj)
    have HRES : Hid (∀ w, RI w A n zs → Calls Tryz.prog 61 #[.int .i64 (N : Int), .slice A n c] w (FreshI w N (res zs N))) := fun w h => laResult_any N A n c zs w h hn hlad
    obtain ⟨R, hR⟩ : ∃ R, R = rkF (res zs N) zs 0 := ⟨_, rfl⟩
    rw [← hR]
    have HR := Lib.hid hR.symm
    obtain ⟨p, hp⟩ : ∃ p, p = res zs N := ⟨_, rfl⟩
    rw [← hp] at HRES HOK HR
    clear hq hlad hneed hR hW h6 hp
    go_enter Tryz.func29, Tryz.ntmps29
    go_wp2_with fail
    refine HI.out.mono ?_
    rintro e w1 ⟨rfl, hb⟩
    replace HA := boxStep HA hb; replace HB := belStep HB hb; have a0 := HA.out.c0; have a1 := HA.out.c1; have az := HA.out.lt
    clear hb HI
    go_wp2_with fail
    refine (HRES.out _ HA.out.ri).mono ?_
    rintro e w2 ⟨A1, c1, rfl, o1, hb⟩
    have HBL1 : Hid (∀ b, blk A1 = some b → b < w2.heap.size) := Lib.hid (fun b hb' => (o1.blk b hb').2)
    have HZ1 := Lib.hid (HB.out.size)
    replace HA := boxStep HA hb; replace HB := belStep HB hb; replace a0 := HA.out.c0; replace a1 := HA.out.c1; replace az := HA.out.lt
    have HO1 := Lib.hid o1
    clear hb o1 HRES
    go_wp2_with fail
    refine (alNew_any N _ h2N h6N).mono ?_
    rintro e w3 ⟨g, r, cc, ks0, rfl, hc, hr, hg, hb⟩
    have HC := Lib.hid hc
    replace HO1 := oiStep HO1 hb
    have HWR : Hid (w.heap.size < r) := Lib.hid (by have := az; omega)
    have HRL : Hid (w2.heap.size ≤ r) := Lib.hid hr
    replace HA := boxStep HA hb; replace HB := belStep HB hb; replace a0 := HA.out.c0; replace a1 := HA.out.c1; replace az := HA.out.lt
    have HZ3 : Hid (w2.heap.size ≤ w3.heap.size) := Lib.hid hb.size
    clear hb hc hr hg
    go_wp2
    go_loopw [4, 6, 24] (fun s4 s6 i wr => ∃ (k acc c4 B4 : Nat) (A4 : Option Addr) (q ks : List Int), k ≤ n ∧ i = .int .i64 (k : Int) ∧ s6 = .int .i64 (acc : Int) ∧ s4 = .slice A4 N c4 ∧ OI wr B4 A4 N c4 q ∧ (∀ b, blk A4 = some b → b ≠ r) ∧ OKp N q ∧ rkF q (zs.drop k) acc = R ∧ acc ≤ k * 200000000000 ∧ Ctr wr g r N (fac N) cc ks ∧ KB [r] w3 wr) (fun _ _ i _ => n - (intOf i).toNat)
    case atStart => exact ⟨0, 0, c1, _, A1, p, ks0, Nat.zero_le _, rfl, rfl, rfl, HO1.out, fun b hb => by have := HBL1.out b hb; have := HRL.out; omega, HOK.out, HR.out, by omega, HC.out, KB.refl _ _⟩
    case round =>
      obtain ⟨k, acc, c4, B4, A4, q, ks, hk, rfl, rfl, rfl, ho, hne, hok, hr, hacc, hct, hkb⟩ := hrel
      obtain ⟨wo, hwo⟩ : ∃ wo, wo = wr := ⟨_, rfl⟩
      subst hwo
      have HO := Lib.hid ho
      have HNE := Lib.hid hne
      have HK := Lib.hid hok
      have HRR := Lib.hid hr
      have HCT := Lib.hid hct
      have HKB := Lib.hid hkb
      clear ho hne hok hr hct hkb
      by_cases hlt : k < n
      · obtain ⟨b, off, hAe, hbw, _⟩ := HH.out.cell hlt
        have hcell := HA.out.ri.cell hlt
        obtain ⟨b', off', hAe', _, hcell⟩ := hcell
        rw [hAe] at hAe'
        injection hAe' with hAe'
        injection hAe' with e1 e2 _
        subst e1 e2
        have hck : wo.cell? ⟨b, off + k, none⟩ = some (.int .i64 (gi zs k)) := by
          have e := HKB.out.block b (by have := az; omega) (by have := HWR.out; simp; omega)
          exact (World.cell?_of_block (a := ⟨b, off + k, none⟩) e).trans (hcell k hlt)
        have hrg := HLA.out k hlt
        obtain ⟨x, hx⟩ : ∃ x : Nat, gi zs k = (x : Int) := ⟨(gi zs k).toNat, by omega⟩
        have hx1 : x + 1 < N := by omega
        have HS : Hid (zs.drop k = (x : Int) :: zs.drop (k + 1)) := by
          show _ = _
          rw [drop_gi (by rw [hl]; exact hlt), hx]
        rw [hx] at hck
        have hps := psK_small (q := q) (by rw [HK.out.2]; exact h6N)
        have HPS := Lib.hid hps
        subst hAe
        clear hcell hrg hx hps
        go_wp2
        try rw [show decide (k < n) = true from decide_eq_true hlt]
        go_loopw [6, 9] (fun s6 i wi => ∃ (j : Nat) (ks : List Int), j ≤ x ∧ i = .int .i64 (j : Int) ∧ s6 = .int .i64 ((acc + psK q j : Nat) : Int) ∧ Ctr wi g r N (fac N) cc ks ∧ KB [r] wo wi) (fun _ i _ => x - (intOf i).toNat)
        case atStart => exact ⟨0, ks, Nat.zero_le _, rfl, rfl, HCT.out, KB.refl _ _⟩
        case round =>
          obtain ⟨j, ks1, hj, rfl, rfl, hct, hkb⟩ := hrel
          have HC1 := Lib.hid hct
          have HK1 := Lib.hid hkb
          clear hct hkb
          have HOJ : Hid (OI wr B4 A4 N c4 q) := Lib.hid (HK1.out.oi HO.out (fun b hb => by have := HNE.out b hb; simpa using this))
          by_cases hlj : j < x
          · have hsum : Hid (acc + psK q (j + 1) = acc + psK q j + cfI q j) := by show _ = _; simp only [psK]; omega
            have hpj := HPS.out j
            obtain ⟨bq, offq, hAq, _, hcq⟩ := HOJ.out.ri.cell (show j < N by omega)
            have hq0 := hcq j (by omega)
            have hq1 := hcq (j + 1) (by omega)
            obtain ⟨u, hu⟩ : ∃ u, u = acc + psK q j := ⟨_, rfl⟩
            rw [← hu]
            rw [← hu] at hsum
            have hu1 : u ≤ 60 * 200000000000 + 6 * 30517578125 := by
              have h1 : k * 200000000000 ≤ 60 * 200000000000 := Nat.mul_le_mul_right _ (by omega)
              have h2 : j * 30517578125 ≤ 6 * 30517578125 := Nat.mul_le_mul_right _ (by omega)
              omega
            have hui : (u : Int) ≤ 12183105468750 := by omega
            clear hu hcq hpj
            subst hAq
            by_cases hd : gi q (j + 1) < gi q j
            · have HD := Lib.hid hd
              have hcs := cnt_small (q := exch q j) (by rw [exch_length, HK.out.2]; exact h6N)
              rw [cfI_yes hd] at hsum
              have HIN := Lib.hid (HK.out.exch (i := j) (by omega))
              obtain ⟨v, hv⟩ : ∃ v, v = cnt (exch q j) := ⟨_, rfl⟩
              rw [← hv] at hsum hcs
              have HV := Lib.hid hv
              have hvi : (v : Int) ≤ 30517578125 := by omega
              clear hv
              go_wp2
              go_quiet (fail)
              clear hd
              go_wp2_with fail
              refine (alSwap_any _ N c4 q j _ (HOJ.out.ri.drewN _) (by omega) (by omega)).mono ?_
              rintro e w5 ⟨A5, c5, rfl, o5, hb5⟩
              have HO5 := Lib.hid o5
              have HB5 := Lib.hid hb5
              have HC5 := Lib.hid ((HC1.out.drewN nq).below hb5)
              clear o5 hb5
              go_wp2_with fail
              refine (count_any N h2N h6N g r cc (fac N) rfl (ninv (exch q j) + 1) (exch q j) HIN.out.1 HIN.out.2 (Nat.lt_succ_self _) A5 c5 ks1 w5 HO5.out.ri HO5.out.le (fun b hb => by have h1 := (HO5.out.blk b hb).1; have h2 := HC1.out.rlt; simp at h1; omega) HC5.out).mono ?_
              rintro e w6 ⟨rfl, ks2, hc6, hg6⟩
              have HC6 := Lib.hid hc6
              have HK6 : Hid (KB [r] wo w6) := Lib.hid ((((HK1.out.drewN nq).grown (grown_of_below HB5.out none) (fun j hj => by cases hj))).grown hg6 (fun j hj => by injection hj with hj; subst hj; left; simp))
              rw [← HV.out]
              clear hc6 hg6
              go_wp2
              go_roundw
              case rel => exact ⟨j + 1, ks2, by omega, by go_num, by rw [hsum.out]; go_num, HC6.out, HK6.out⟩
              case measure => simp [intOf]; omega
            · have HD := Lib.hid hd
              have hd1 : gi q j ≤ gi q (j + 1) := by omega
              rw [cfI_no HK.out.1 (by rw [HK.out.2]; omega) hd, Nat.add_zero] at hsum
              go_wp2
              go_quiet (fail)
              go_wp2
              go_roundw
              case rel => exact ⟨j + 1, ks1, by omega, by go_num, by first | (rw [hsum.out]; done) | (rw [hsum.out]; rfl) | (rw [hsum.out]; simp), HC1.out.drewN _, HK1.out.drewN _⟩
              case measure => simp [intOf]; omega
          · obtain rfl : j = x := by omega
            go_wp2_with fail
            refine (alSwap_any A4 N c4 q j _ HOJ.out.ri (by omega) hx1).mono ?_
            rintro e w3' ⟨A5, c5, rfl, o5, hb3⟩
            have HO5 := Lib.hid o5
            have HC3 := Lib.hid (HC1.out.below hb3)
            have HK3 : Hid (KB [r] w3 w3') := Lib.hid (HKB.out.trans (HK1.out.grown (grown_of_below hb3 none) (fun j hj => by cases hj)))
            have hrl := HC1.out.rlt
            have hpj := HPS.out j
            clear o5 hb3
            go_wp2
            go_roundw
            case rel =>
              refine ⟨k + 1, acc + psK q j, c5, _, A5, exch q j, ks1, by omega, by go_num, rfl, rfl, HO5.out, fun b hb => by have := (HO5.out.blk b hb).1; omega, HK.out.exch hx1, ?_, ?_, HC3.out, HK3.out⟩
              · have := HRR.out
                rw [HS.out, rkF_cons, Int.toNat_natCast] at this
                exact this
              · have h2 : j * 30517578125 ≤ 5 * 30517578125 := Nat.mul_le_mul_right _ (by omega)
                rw [Nat.add_mul]
                omega
            case measure => simp [intOf]; omega
      · obtain rfl : k = n := by omega
        have e : acc = R := by
          have := HRR.out
          rw [List.drop_of_length_le (by omega)] at this
          exact this
        subst e
        go_wp2
        go_ret2
        exact ⟨rfl, HB.out.trans (HKB.out.below HB.out.size (fun j hj => by have := HWR.out; simp at hj; omega))⟩
end Go.Proofs.YtgeeifjbfceogaaGreatDoor
