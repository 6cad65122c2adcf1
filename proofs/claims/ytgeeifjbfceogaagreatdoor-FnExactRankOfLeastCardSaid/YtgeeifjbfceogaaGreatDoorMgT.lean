/- Least ladders of few wires, and how many come before one. The program's RankOfLeast. -/
import Derived.Test.YtgeeifjbfceogaaGreatDoorRk0
import Derived.Test.YtgeeifjbfceogaaGreatDoorMgR
import Derived.Test.YtgeeifjbfceogaaGreatDoorMgP
import Derived.Deep.RegionHeld3
namespace Go.Proofs.YtgeeifjbfceogaaGreatDoor
open Go Go.RowKit

/-- A least ladder of few wires. -/
def rlQ (W : Int) (zs : List Int) : Bool := lstB W zs && decide (W ≤ 6)
def crL (W : Int) (zs : List Int) : List Int := if rlQ W zs = true then res zs W.toNat else []
theorem crL_yes {W : Int} {zs : List Int} (h : rlQ W zs = true) : crL W zs = res zs W.toNat := by unfold crL; rw [if_pos h]
theorem crL_no {W : Int} {zs : List Int} (h : rlQ W zs = false) : crL W zs = [] := by unfold crL; rw [h]; rfl
theorem rlQ_iff {W : Int} {zs : List Int} : rlQ W zs = true ↔ lad W zs = true ∧ needN W zs = 0 ∧ W ≤ 6 := by
  unfold rlQ lstB
  rw [Bool.and_eq_true, Bool.and_eq_true, decide_eq_true_iff, decide_eq_true_iff]
  exact ⟨fun h => ⟨h.1.1, h.1.2, h.2⟩, fun h => ⟨⟨h.1, h.2.1⟩, h.2.2⟩⟩

def rnkN (W : Int) (zs : List Int) : Int := if rlQ W zs = true then (rkF (res zs W.toNat) zs 0 : Int) else 0
theorem rnkN_yes {W : Int} {zs : List Int} (h : rlQ W zs = true) : rnkN W zs = (rkF (res zs W.toNat) zs 0 : Int) := by unfold rnkN; rw [if_pos h]
theorem rnkN_no {W : Int} {zs : List Int} (h : rlQ W zs = false) : rnkN W zs = 0 := by unfold rnkN; rw [h]; rfl

set_option maxRecDepth 100000 in
set_option maxHeartbeats 2000000 in
theorem countedResult_any (W : Int) (A : Option Addr) (n c : Nat) (zs : List Int) (w : World) (h : RI w A n zs) (hn : n ≤ 1048576) :
    Calls Tryz.prog 58 #[.agg #[.int .i64 W, .slice A n c]] w (FreshIB w (crL W zs).length (crL W zs) (rlQ W zs)) := by
  have HA := boxNew (W := W) (c := c) 44 h
  have HB := belAlloc (belRefl (w := w)) (.cells #[.int .i64 W, .slice A n c] 44)
  have HI := Lib.hid (iIsLeast_any W A n c zs _ HA.out.ri hn)
  have HR : Hid (∀ w, RI w A n zs → Calls Tryz.prog 80 #[.agg #[.int .i64 W, .slice A n c]] w (FreshIB w (resN W zs).length (resN W zs) (lad W zs))) := fun w h => iResultOf_any W A n c zs w h hn
  clear h
  rcases hq : lad W zs with _ | _
  · have e : rlQ W zs = false := by unfold rlQ lstB; rw [hq]; rfl
    rw [crL_no e, e]
    rw [hq, lstB_no hq] at HI
    clear hq e HR
    go_enter Tryz.func58, Tryz.ntmps58
    go_wp2_with fail
    refine HI.out.mono ?_
    rintro e w1 ⟨rfl, hb⟩
    replace HB := belStep HB hb
    clear hb
    go_wp2
    go_ret2
    exact ⟨none, 0, rfl, OI.none_ _ _, HB.out⟩
  · rcases hl : lstB W zs with _ | _
    · have e : rlQ W zs = false := by unfold rlQ; rw [hl]; rfl
      rw [crL_no e, e]
      rw [hq, hl] at HI
      clear hq e HR hl
      go_enter Tryz.func58, Tryz.ntmps58
      go_wp2_with fail
      refine HI.out.mono ?_
      rintro e w1 ⟨rfl, hb⟩
      replace HB := belStep HB hb
      clear hb
      go_wp2
      go_ret2
      exact ⟨none, 0, rfl, OI.none_ _ _, HB.out⟩
    · rw [hq, hl] at HI
      by_cases h6 : W ≤ 6
      · have e : rlQ W zs = true := by unfold rlQ; rw [hl, decide_eq_true h6]; rfl
        have HL : Hid (crL W zs = resN W zs) := by show _ = _; rw [crL_yes e, resN_yes hq]
        rw [HL.out, e]
        rw [hq] at HR
        obtain ⟨L, hL⟩ : ∃ L, L = resN W zs := ⟨_, rfl⟩
        rw [← hL] at HR ⊢
        clear hq hl e hL HL
        go_enter Tryz.func58, Tryz.ntmps58
        go_wp2_with fail
        refine HI.out.mono ?_
        rintro e w1 ⟨rfl, hb⟩
        replace HA := boxStep HA hb; replace HB := belStep HB hb; have a0 := HA.out.c0; have a1 := HA.out.c1; have az := HA.out.lt
        have HZ := Lib.hid HB.out.size
        clear hb
        go_wp2_with fail
        refine (HR.out _ HA.out.ri).mono ?_
        rintro e w2 ⟨A2, c2, rfl, o2, hb⟩
        have HB2 := belStep HB hb
        have HO2 := Lib.hid (o2.mono HZ.out)
        clear hb o2
        go_wp2
        go_ret2
        exact ⟨A2, c2, rfl, HO2.out, HB2.out⟩
      · have h6' : 6 < W := by omega
        have e : rlQ W zs = false := by unfold rlQ; rw [hl, decide_eq_false h6]; rfl
        rw [crL_no e, e]
        clear hq e HR hl h6
        go_enter Tryz.func58, Tryz.ntmps58
        go_wp2_with fail
        refine HI.out.mono ?_
        rintro e w1 ⟨rfl, hb⟩
        replace HA := boxStep HA hb; replace HB := belStep HB hb; have a0 := HA.out.c0; have a1 := HA.out.c1; have az := HA.out.lt
        clear hb
        go_wp2
        go_ret2
        exact ⟨none, 0, rfl, OI.none_ _ _, HB.out⟩

end Go.Proofs.YtgeeifjbfceogaaGreatDoor
namespace Go.Proofs.YtgeeifjbfceogaaGreatDoor
open Go Go.RowKit

set_option maxRecDepth 100000 in
set_option maxHeartbeats 4000000 in
theorem iRankOfLeast_any (W : Int) (A : Option Addr) (n c : Nat) (zs : List Int) (w : World) (h : RI w A n zs) (hn : n ≤ 1048576) (hGl : Glob w) :
    Calls Tryz.prog 31 #[.agg #[.int .i64 W, .slice A n c]] w (RetIB (rnkN W zs) (rlQ W zs) w) := by
  have hl := h.1
  have HA := boxNew (W := W) (c := c) 44 h
  have HB := belAlloc (belRefl (w := w)) (.cells #[.int .i64 W, .slice A n c] 44)
  have HI := Lib.hid (countedResult_any W A n c zs _ HA.out.ri hn)
  have HGL := Lib.hid hGl
  clear h hGl
  rcases hq : rlQ W zs with _ | _
  · rw [rnkN_no hq]
    rw [hq] at HI
    clear hq
    go_enter Tryz.func31, Tryz.ntmps31
    go_wp2_with fail
    refine HI.out.mono ?_
    rintro e w1 ⟨A1, c1, rfl, _, hb⟩
    replace HB := belStep HB hb
    clear hb
    go_wp2
    go_ret2
    exact ⟨rfl, HB.out⟩
  · obtain ⟨hlad, hneed, h6⟩ := rlQ_iff.1 hq
    have hW := (lad_iff.1 hlad).1
    have hn60 : n ≤ 60 := by have := (lad_iff.1 hlad).2.1; rw [hl] at this; exact this
    obtain ⟨N, rfl⟩ : ∃ N : Nat, W = (N : Int) := ⟨W.toNat, by omega⟩
    rw [rnkN_yes hq, Int.toNat_natCast]
    rw [hq, crL_yes hq, Int.toNat_natCast, res_length] at HI
    have HOK : Hid (OKp N (res zs N)) := Lib.hid ⟨res_ord hlad, res_length zs N⟩
    have h2N : 2 ≤ N := by omega
    have h6N : N ≤ 6 := by omega
    have HLA : Hid (∀ j, j < n → 0 ≤ gi zs j ∧ gi zs j ≤ (N : Int) - 2) := fun j hj => lad_at hlad (by rw [hl]; exact hj)
    obtain ⟨R, hR⟩ : ∃ R, R = rkF (res zs N) zs 0 := ⟨_, rfl⟩
    rw [← hR]
    have HR := Lib.hid hR.symm
    obtain ⟨p, hp⟩ : ∃ p, p = res zs N := ⟨_, rfl⟩
    rw [← hp] at HI HOK HR
    clear hq hlad hneed hR hW h6 hp
    go_enter Tryz.func31, Tryz.ntmps31
    go_wp2_with fail
    refine HI.out.mono ?_
    rintro e w1 ⟨A1, c1, rfl, o1, hb⟩
    replace HA := boxStep HA hb; have HBB := belStep HB hb; have a0 := HA.out.c0; have a1 := HA.out.c1; have az := HA.out.lt
    have HO1 := Lib.hid o1
    clear hb o1 HI HB
    go_wp2
    go_loopw [4, 6, 22] (fun s4 s6 i wr => ∃ (k acc c4 B4 : Nat) (A4 : Option Addr) (q : List Int), k ≤ n ∧ i = .int .i64 (k : Int) ∧ s6 = .int .i64 (acc : Int) ∧ s4 = .slice A4 N c4 ∧ OI wr B4 A4 N c4 q ∧ OKp N q ∧ rkF q (zs.drop k) acc = R ∧ acc ≤ k * 200000000000 ∧ Below w1.heap.size w1 wr) (fun _ _ i _ => n - (intOf i).toNat)
    case atStart => exact ⟨0, 0, c1, _, A1, p, Nat.zero_le _, rfl, rfl, rfl, HO1.out, HOK.out, HR.out, by omega, Below.refl _ _⟩
    case round =>
      obtain ⟨k, acc, c4, B4, A4, q, hk, rfl, rfl, rfl, ho, hok, hr, hacc, hb⟩ := hrel
      obtain ⟨wo, hwo⟩ : ∃ wo, wo = wr := ⟨_, rfl⟩
      subst hwo
      have HO := Lib.hid ho
      have HK := Lib.hid hok
      have HRR := Lib.hid hr
      have HBW := Lib.hid hb
      clear ho hok hr hb
      by_cases hlt : k < n
      · obtain ⟨b, off, hAe, hbw, hcell⟩ := HA.out.ri.cell hlt
        have hck := (HBW.out.cell (p := ⟨b, off + k, none⟩) (by exact hbw)).trans (hcell k hlt)
        have hrg := HLA.out k hlt
        obtain ⟨x, hx⟩ : ∃ x : Nat, gi zs k = (x : Int) := ⟨(gi zs k).toNat, by omega⟩
        have hx1 : x + 1 < N := by omega
        have HS : Hid (zs.drop k = (x : Int) :: zs.drop (k + 1)) := by
          show _ = _
          rw [drop_gi (by rw [hl]; exact hlt), hx]
        rw [hx] at hck
        have hps := psK_small (q := q) (by rw [HK.out.2]; exact h6N)
        have HPS := Lib.hid hps
        subst hAe
        clear hcell hrg hx hps
        go_wp2
        try rw [show decide (k < n) = true from decide_eq_true hlt]
        go_loopw [6, 9, 10, 11, 27] (fun s6 _ _ _ i wi => ∃ j : Nat, j ≤ x ∧ i = .int .i64 (j : Int) ∧ s6 = .int .i64 ((acc + psK q j : Nat) : Int) ∧ Below wo.heap.size wo wi) (fun _ _ _ _ i _ => x - (intOf i).toNat)
        case atStart => exact ⟨0, Nat.zero_le _, rfl, rfl, Below.refl _ _⟩
        case round =>
          obtain ⟨j, hj, rfl, rfl, hb⟩ := hrel
          have HBJ := Lib.hid hb
          clear hb
          by_cases hlj : j < x
          · have hp1 := HPS.out (j + 1)
            have hsum : Hid (acc + psK q (j + 1) = acc + psK q j + cfI q j) := by show _ = _; simp only [psK]; omega
            have hcs := cfI_small (q := q) (by rw [HK.out.2]; exact h6N) j
            have hpj := HPS.out j
            have HCF : Hid (∀ w2, RI w2 A4 N q → Glob w2 → Calls Tryz.prog 22 #[.slice A4 N c4, .int .i64 (j : Int)] w2 (RetIB (cfI q j : Int) true w2)) := fun w2 h2 hg2 => by
              have := iCountFirst_any A4 N c4 q (j : Int) w2 h2 (by omega) hg2
              have e := HK.out.cfQ h2N h6N (j := j) (by omega)
              rw [cfN_yes e, e, Int.toNat_natCast] at this
              exact this
            have hR4 : Hid (RI wr A4 N q) := Lib.hid ((HO.out.below HBJ.out).ri)
            have hG4 : Hid (Glob wr) := Lib.hid (HGL.out.below (HBB.out.trans ((HBW.out.trans (HBJ.out.mono HBW.out.size)).mono HBB.out.size)))
            obtain ⟨u, hu⟩ : ∃ u, u = acc + psK q j := ⟨_, rfl⟩
            obtain ⟨v, hv⟩ : ∃ v, v = cfI q j := ⟨_, rfl⟩
            rw [← hu]
            rw [← hu, ← hv] at hsum
            rw [← hv] at HCF hcs
            have hu1 : u ≤ 60 * 200000000000 + 6 * 30517578125 := by
              have h1 : k * 200000000000 ≤ 60 * 200000000000 := Nat.mul_le_mul_right _ (by omega)
              have h2 : j * 30517578125 ≤ 6 * 30517578125 := Nat.mul_le_mul_right _ (by omega)
              omega
            have hui : (u : Int) ≤ 12183105468750 := by omega
            have hvi : (v : Int) ≤ 30517578125 := by omega
            clear hu hv hp1 hpj
            go_wp2_with fail
            refine (HCF.out _ hR4.out hG4.out).mono ?_
            rintro e w3 ⟨rfl, hb3⟩
            have HB3 := belStep HBJ hb3
            clear hb3
            go_wp2
            go_roundw
            case rel => exact ⟨j + 1, by omega, by go_num, by rw [hsum.out]; go_num, HB3.out⟩
            case measure => simp [intOf]; omega
          · obtain rfl : j = x := by omega
            have hR4 : Hid (RI wr A4 N q) := Lib.hid ((HO.out.below HBJ.out).ri)
            go_wp2_with fail
            refine (restBelow_any A4 N c4 q j _ hR4.out (by omega) hx1).mono ?_
            rintro e w3 ⟨A5, c5, rfl, o5, hb3⟩
            have HO5 := Lib.hid o5
            have HB3 : Hid (Below w1.heap.size w1 w3) := Lib.hid (HBW.out.trans ((HBJ.out.trans (hb3.mono HBJ.out.size)).mono HBW.out.size))
            have hpj := HPS.out j
            clear o5 hb3
            go_wp2
            go_roundw
            case rel =>
              refine ⟨k + 1, acc + psK q j, c5, _, A5, exch q j, by omega, by go_num, rfl, rfl, HO5.out, HK.out.exch hx1, ?_, ?_, HB3.out⟩
              · have := HRR.out
                rw [HS.out, rkF_cons, Int.toNat_natCast] at this
                exact this
              · have h2 : j * 30517578125 ≤ 5 * 30517578125 := Nat.mul_le_mul_right _ (by omega)
                rw [Nat.add_mul]
                omega
            case measure => simp [intOf]; omega
      · obtain rfl : k = n := by omega
        have e : acc = R := by
          have := HRR.out
          rw [List.drop_of_length_le (by omega)] at this
          exact this
        subst e
        go_wp2
        go_ret2
        exact ⟨rfl, HBB.out.trans (HBW.out.mono HBB.out.size)⟩
end Go.Proofs.YtgeeifjbfceogaaGreatDoor
