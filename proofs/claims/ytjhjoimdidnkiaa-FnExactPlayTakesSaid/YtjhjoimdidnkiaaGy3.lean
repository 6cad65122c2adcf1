/- PlayTakes, of the model. -/
import Derived.Test.YtjhjoimdidnkiaaGy2
import Derived.BigQuiet
namespace Go.Proofs.Ytjhjoimdidnkiaa
open Go Go.RowKit

theorem belDrewN {K : Nat} {w wi : World} (h : Below K w wi) (n : Nat) : Below K w (wi.drewN n) := h.trans (by
  have h1 := Below.refl K wi
  exact ⟨h1.1, h1.2, h1.3, h1.4, h1.5⟩)

set_option maxRecDepth 100000 in
set_option maxHeartbeats 4000000 in
theorem sPlayTakes_any (W : Int) (A : Option Addr) (n c : Nat) (zs : List Int) (Bv : Option Addr) (nv cv : Nat) (vs : List Int) (w : World) (h : RI w A n zs) (hn : n ≤ 1048576) (hv : RI w Bv nv vs) (hnv : nv ≤ 1048576) :
    Calls Try.prog 14 #[.agg #[.int .i64 W, .slice A n c], .slice Bv nv cv] w (FreshLBG w (pkW W zs vs) (pkL W zs vs).length (pkL W zs vs) (pkB W zs vs)) := by
  have hz := h.1
  have hzv := hv.1
  have HA := boxAlloc (boxNew (W := W) (c := c) 27 h) (.cells #[.int .i64 0, .slice none 0 0] 27)
  have HB := belAlloc (belAlloc (belRefl (w := w)) (.cells #[.int .i64 W, .slice A n c] 27)) (.cells #[.int .i64 0, .slice none 0 0] 27)
  have HV := riStep (riStep (Lib.hid hv) (allocBel w (.cells #[.int .i64 W, .slice A n c] 27))) (allocBel _ (.cells #[.int .i64 0, .slice none 0 0] 27))
  have HC0 := cellNew (w.alloc (.cells #[.int .i64 W, .slice A n c] 27)) (.int .i64 0) (.slice none 0 0) 27
  simp only [World.size_alloc] at HC0
  have HI := Lib.hid (fun w2 (r : RI w2 A n zs) => gaTaking_any W A n c zs w2 r hn)
  rcases hq : tkB W zs with _ | _
  · have e := pkO_no (vs := vs) hq
    unfold pkW pkL pkB
    rw [e]
    rw [hq] at HI
    clear hq h hv hz hzv HV e
    go_enter Try.func14, Try.ntmps14
    have a0 := HA.out.c0; have a1 := HA.out.c1; have az := HA.out.lt
    go_wp2_with fail
    refine (HI.out _ HA.out.ri).mono ?_
    rintro e w1 ⟨rfl, hb⟩
    replace HB := belStep HB hb
    replace HC0 := cellStep HC0 hb
    have k0 := HC0.out.c0; have k1 := HC0.out.c1; have f0 := HC0.out.f0; have f1 := HC0.out.f1; have cz := HC0.out.lt
    clear hb
    go_wp2
    exact bodyPost_ret (v := .tuple #[.agg #[.int .i64 0, .slice none 0 0], .bool false]) (by simp [results, Try.results14, go_sem, k0, k1]) rfl ⟨none, 0, rfl, OI.none_ _ _, (by repeat (first | exact Below.refl _ _ | exact HB.out | refine Below.setCell ?_ (by simp <;> omega) _ | refine Below.alloc ?_ (by simp <;> omega) _ | refine below_drewN ?_ _))⟩
  · have e := pkO_yes (vs := vs) hq
    rw [hq] at HI
    have hq2 := tkB_iff.1 hq
    have hn12 : n ≤ 12 := by omega
    have hW := (lad_iff.1 hq2.1).1
    obtain ⟨N, rfl⟩ : ∃ N : Nat, W = (N : Int) := ⟨W.toNat, by omega⟩
    rw [Int.toNat_natCast] at e
    have HL := Lib.hid (fun S w2 (r : RI w2 A n zs) (hS : S < 4096) => gaLeft_any (N : Int) A n c zs S w2 r (by omega) hS)
    have HH := Lib.hid (fun S A2 c2 w2 (r : RI w2 A2 (leftL zs S).length (leftL zs S)) => gaHome_any N A2 _ c2 _ w2 r (by have := leftK_len zs S zs.length; unfold leftL; omega) (leftL_lad hq2.1 S))
    have hp2 := pow12 hn12
    have hp3 := pow12 hn12
    have HOK := Lib.hid (fun k S (h : ptK zs N vs k = some S) => ptK_ok k S h)
    have HHA := Lib.hid (fun w9 (r : Below w.heap.size w w9) => h.below r (Nat.le_refl _))
    have HHV := Lib.hid (fun w9 (r : Below w.heap.size w w9) => hv.below r (Nat.le_refl _))
    clear hq h hv hq2
    go_enter Try.func14, Try.ntmps14
    have a0 := HA.out.c0; have a1 := HA.out.c1; have az := HA.out.lt
    go_wp2_with fail
    refine (HI.out _ HA.out.ri).mono ?_
    rintro e w1 ⟨rfl, hb⟩
    replace HA := boxStep HA hb; replace HB := belStep HB hb; replace HV := riStep HV hb; replace HC0 := cellStep HC0 hb
    replace a0 := HA.out.c0; replace a1 := HA.out.c1; replace az := HA.out.lt
    clear hb HI
    by_cases hlong : (n : Int) < (nv : Int)
    · have HP : Hid (pkO (N : Int) zs vs = none) := Lib.hid (by rw [e]; exact ptK_long (by omega))
      have k0 := HC0.out.c0; have k1 := HC0.out.c1; have f0 := HC0.out.f0; have f1 := HC0.out.f1; have cz := HC0.out.lt
      go_wp2
      unfold pkW pkL pkB
      rw [HP.out]
      exact bodyPost_ret (v := .tuple #[.agg #[.int .i64 0, .slice none 0 0], .bool false]) (by simp [results, Try.results14, go_sem, k0, k1]) rfl ⟨none, 0, rfl, OI.none_ _ _, (by repeat (first | exact Below.refl _ _ | exact HB.out | refine Below.setCell ?_ (by simp <;> omega) _ | refine Below.alloc ?_ (by simp <;> omega) _ | refine below_drewN ?_ _))⟩
    · have hpw := pow_wrap hn12 rfl
      have hp1 := Nat.two_pow_pos n
      obtain ⟨P, hP⟩ : ∃ P, P = 2 ^ n := ⟨_, rfl⟩
      rw [← hP] at hpw hp1 hp2
      have hps : IntKind.i64.wrap ((P : Int) - 1) = ((P - 1 : Nat) : Int) := by rw [IntWalk.i64_in _ (by omega)]; omega
      have HT0 : Hid (ptK zs N vs 0 = some (P - 1)) := Lib.hid (by rw [ptK, hz, hP])
      have hdl : ¬ n < nv := by omega
      clear hP
      go_wp2
      obtain ⟨Q, hQ⟩ : ∃ Q, Q = P - 1 := ⟨_, rfl⟩
      rw [← hQ] at HT0 ⊢
      clear hQ hpw hps hlong HV
      go_loopw [6, 28] (fun s i wr => ∃ (k S : Nat), k ≤ nv ∧ i = .int .i64 (k : Int) ∧ s = .int .i64 (S : Int) ∧ ptK zs N vs k = some S ∧ Below (w.heap.size + 2) w1 wr) (fun _ i _ => nv - (intOf i).toNat)
      case atStart => exact ⟨0, Q, Nat.zero_le _, rfl, rfl, HT0.out, Below.refl _ _⟩
      case round =>
        obtain ⟨k, S, hk, rfl, rfl, hpt, hb⟩ := hrel
        have HBr := Lib.hid hb
        have HBw := Lib.hid (HB.out.trans (hb.mono (Nat.le_add_right _ 2)))
        have HAr : Hid (Box wr w.heap.size (N : Int) A n c zs) := Lib.hid (box_ap HA.out (hb.mono (Nat.le_succ _)) (HHA.out _ HBw.out))
        have HVr := Lib.hid (HHV.out _ HBw.out)
        have HPT := Lib.hid hpt
        have hSn := (HOK.out k S hpt).1
        rw [hz] at hSn
        have hS : S < 4096 := by omega
        replace a0 := HAr.out.c0; replace a1 := HAr.out.c1; replace az := HAr.out.lt
        have hbz : w.heap.size + 2 ≤ wr.heap.size := Nat.le_trans HC0.out.lt hb.size
        clear hb hpt
        by_cases hlt : k < nv
        · obtain ⟨b, off, rfl, hbw, hc⟩ := HVr.out.cell hlt
          have hck := hc k hlt
          obtain ⟨x, hx⟩ : ∃ x, x = gi vs k := ⟨_, rfl⟩
          rw [← hx] at hck
          have HX := Lib.hid hx
          have hwn : IntKind.i64.wrap ((n : Int) - 1) = (n : Int) - 1 := IntWalk.i64_in _ (by omega)
          have HIN : Hid (∀ w9, Calls Try.prog 34 #[.int .i64 x, .int .i64 0, .int .i64 ((n : Int) - 1)] w9 (fun e w' => e = .returned (.bool (inB x 0 ((n : Int) - 1))) ∧ w' = w9)) := Lib.hid (fun w9 => (l1In_any x 0 ((n : Int) - 1) w9).mono (by rintro e w' ⟨rfl, h⟩; exact ⟨rfl, h.symm⟩))
          have BD := Lib.hid HBr.out.drew
          have AD := boxDrew HAr
          clear hc hx
          rcases hin : inB x 0 ((n : Int) - 1) with _ | _
          · have hcn : (chL zs N S).contains x = false := by
              rcases hcn : (chL zs N S).contains x with _ | _
              · rfl
              · obtain ⟨_, i, hi, _, rfl⟩ := ch_has.1 hcn
                rw [inB_true (by omega)] at hin; cases hin
            have HN := Lib.hid (ptK_none_le (ptK_no HPT.out (by rw [← HX.out]; exact hcn)) (show k + 1 ≤ nv by omega))
            have HP : Hid (pkO (N : Int) zs vs = none) := Lib.hid (by rw [e, hzv]; exact HN.out)
            have HC4 := cellBelow HC0 (show w.heap.size + 1 < w.heap.size + 2 by omega) HBr.out
            have k0 := HC4.out.c0; have k1 := HC4.out.c1; have f0 := HC4.out.f0; have f1 := HC4.out.f1; have cz := HC4.out.lt
            rw [hin] at HIN
            clear hcn e hin
            go_wp2
            go_quiet (first | (go_at_call 34; exact Calls.quiet_of_same (HIN.out _)))
            go_wp2
            unfold pkW pkL pkB
            rw [HP.out]
            exact bodyPost_ret (v := .tuple #[.agg #[.int .i64 0, .slice none 0 0], .bool false]) (by simp [results, Try.results14, go_sem, k0, k1]) rfl ⟨none, 0, rfl, OI.none_ _ _, ((HB.out.trans ((belDrewN HBr.out nq).mono (Nat.le_add_right _ 2))).setCell (by simp) _).setCell (by simp) _⟩
          · rw [hin] at HIN
            have hxn := inB_iff.1 hin
            obtain ⟨i, rfl⟩ : ∃ i : Nat, x = (i : Int) := ⟨x.toNat, by omega⟩
            have hi : i < n := by omega
            clear hin hxn
            rcases hbit : S.testBit i with _ | _
            · have hcn : (chL zs N S).contains (i : Int) = false := by
                rcases hcn : (chL zs N S).contains (i : Int) with _ | _
                · rfl
                · obtain ⟨_, j, _, hj, he⟩ := ch_has.1 hcn
                  obtain rfl : i = j := by omega
                  rw [hbit] at hj; cases hj
              have HN := Lib.hid (ptK_none_le (ptK_no HPT.out (by rw [← HX.out]; exact hcn)) (show k + 1 ≤ nv by omega))
              have HP : Hid (pkO (N : Int) zs vs = none) := Lib.hid (by rw [e, hzv]; exact HN.out)
              have HC4 := cellBelow HC0 (show w.heap.size + 1 < w.heap.size + 2 by omega) HBr.out
              have k0 := HC4.out.c0; have k1 := HC4.out.c1; have f0 := HC4.out.f0; have f1 := HC4.out.f1; have cz := HC4.out.lt
              have hb0 : (((S : Int) / 2 ^ i).tmod 2 == 0) = true := by rw [shr_bit, bit_no hbit]; rfl
              clear hcn e hbit
              go_wp2
              go_quiet (first | (go_at_call 34; exact Calls.quiet_of_same (HIN.out _)))
              go_wp2
              unfold pkW pkL pkB
              rw [HP.out]
              exact bodyPost_ret (v := .tuple #[.agg #[.int .i64 0, .slice none 0 0], .bool false]) (by simp [results, Try.results14, go_sem, k0, k1]) rfl ⟨none, 0, rfl, OI.none_ _ _, ((HB.out.trans ((belDrewN HBr.out nq).mono (Nat.le_add_right _ 2))).setCell (by simp) _).setCell (by simp) _⟩
            · have hb0 : (((S : Int) / 2 ^ i).tmod 2 == 0) = false := by rw [shr_bit, bit_yes hbit]; rfl
              have HLS := Lib.hid (fun w9 (r : RI w9 A n zs) => HL.out S w9 r hS)
              have HHS := Lib.hid (fun A9 c9 w9 (r : RI w9 A9 (leftL zs S).length (leftL zs S)) => HH.out S A9 c9 w9 r)
              rcases hq : homeB (leftL zs S) N with _ | _
              · rw [hq] at HHS
                have hcn : (chL zs N S).contains (i : Int) = true := ch_has.2 ⟨hq, i, by omega, hbit, rfl⟩
                have HY := Lib.hid (ptK_yes HPT.out (by rw [← HX.out]; exact hcn))
                rw [← HX.out, Int.toNat_natCast] at HY
                have hab := andNot_bit hS (by omega : i < 12) hbit
                obtain ⟨Pk, hPk⟩ : ∃ Pk, Pk = 2 ^ i := ⟨_, rfl⟩
                have hpwk := pow_wrap (show i ≤ 12 by omega) hPk
                rw [← hPk] at hab HY
                clear hcn hq hbit hPk
                go_wp2
                first
                  | (go_region_held3 (fun w' => w'.cell? ⟨w.heap.size, 0, none⟩ = some (.int .i64 (N : Int)) ∧ w'.cell? ⟨w.heap.size, 1, none⟩ = some (.slice A n c))
                    (first | exact ⟨AD.out.c0, AD.out.c1⟩ | exact ⟨HAr.out.c0, HAr.out.c1⟩ | exact ⟨A4.out.c0, A4.out.c1⟩ | exact ⟨A5.out.c0, A5.out.c1⟩)
                    (first
                      | (go_at_call 34; refine (HIN.out _).mono ?_; rintro e w9 ⟨rfl, hw9⟩; replace hw9 := hw9.symm; subst hw9)
                      | (go_at_call 36; refine (HLS.out _ AD.out.ri).mono ?_; rintro e w4 ⟨E4, c4, rfl, o4, hb⟩; have HO4 := Lib.hid o4; have A4 := boxStep AD hb; have B4 := Lib.hid (BD.out.trans (hb.mono (show w.heap.size + 2 ≤ wr.heap.size from hbz))); clear o4 hb)
                      | (go_at_call 35; refine (HHS.out _ _ _ HO4.out.ri).mono ?_; rintro e w5 ⟨rfl, hb⟩; have A5 := boxStep A4 hb; have B5 := Lib.hid (B4.out.trans (hb.mono (Nat.le_trans HC0.out.lt B4.out.size))); clear hb)))
                  | fail "STANDS"
                all_goals
                  go_wp2
                  go_roundw
                  case rel => exact ⟨k + 1, S - Pk, by omega, by go_num, by first | rfl | trivial, HY.out, B5.out⟩
                  case measure => simp [intOf]; omega
              · rw [hq] at HHS
                have hcn : (chL zs N S).contains (i : Int) = false := by
                  rcases hcn : (chL zs N S).contains (i : Int) with _ | _
                  · rfl
                  · obtain ⟨h9, _⟩ := ch_has.1 hcn
                    unfold homeQ at h9
                    rw [hq] at h9; cases h9
                have HN := Lib.hid (ptK_none_le (ptK_no HPT.out (by rw [← HX.out]; exact hcn)) (show k + 1 ≤ nv by omega))
                have HP : Hid (pkO (N : Int) zs vs = none) := Lib.hid (by rw [e, hzv]; exact HN.out)
                clear hcn hq hbit e
                go_wp2
                first
                  | (go_region_held3 (fun w' => w'.cell? ⟨w.heap.size, 0, none⟩ = some (.int .i64 (N : Int)) ∧ w'.cell? ⟨w.heap.size, 1, none⟩ = some (.slice A n c))
                    (first | exact ⟨AD.out.c0, AD.out.c1⟩ | exact ⟨HAr.out.c0, HAr.out.c1⟩ | exact ⟨A4.out.c0, A4.out.c1⟩ | exact ⟨A5.out.c0, A5.out.c1⟩)
                    (first
                      | (go_at_call 34; refine (HIN.out _).mono ?_; rintro e w9 ⟨rfl, hw9⟩; replace hw9 := hw9.symm; subst hw9)
                      | (go_at_call 36; refine (HLS.out _ AD.out.ri).mono ?_; rintro e w4 ⟨E4, c4, rfl, o4, hb⟩; have HO4 := Lib.hid o4; have A4 := boxStep AD hb; have B4 := Lib.hid (BD.out.trans (hb.mono (show w.heap.size + 2 ≤ wr.heap.size from hbz))); clear o4 hb)
                      | (go_at_call 35; refine (HHS.out _ _ _ HO4.out.ri).mono ?_; rintro e w5 ⟨rfl, hb⟩; have A5 := boxStep A4 hb; have B5 := Lib.hid (B4.out.trans (hb.mono (Nat.le_trans HC0.out.lt B4.out.size))); clear hb)))
                  | fail "STANDS"
                all_goals
                  have HC4 := cellBelow HC0 (show w.heap.size + 1 < w.heap.size + 2 by omega) B5.out
                  have k0 := HC4.out.c0; have k1 := HC4.out.c1; have f0 := HC4.out.f0; have f1 := HC4.out.f1; have cz := HC4.out.lt
                  go_wp2
                  unfold pkW pkL pkB
                  rw [HP.out]
                  exact bodyPost_ret (v := .tuple #[.agg #[.int .i64 0, .slice none 0 0], .bool false]) (by simp [results, Try.results14, go_sem, k0, k1]) rfl ⟨none, 0, rfl, OI.none_ _ _, ((HB.out.trans (B5.out.mono (Nat.le_add_right _ 2))).setCell (by simp) _).setCell (by simp) _⟩
        · obtain rfl : k = nv := by omega
          have HP : Hid (pkO (N : Int) zs vs = some S) := Lib.hid (by rw [e, hzv]; exact HPT.out)
          have HLS := Lib.hid (fun w9 (r : RI w9 A n zs) => HL.out S w9 r hS)
          have BD := Lib.hid HBr.out.drew
          have AD := boxDrew HAr
          clear e
          go_wp2
          go_region_with (go_at_call 36; refine (HLS.out _ AD.out.ri).mono ?_; rintro e w4 ⟨E4, c4, rfl, o4, hb⟩; have HO4 := Lib.hid o4; have A4 := boxStep AD hb; have B4 := Lib.hid (BD.out.trans (hb.mono (show w.heap.size + 2 ≤ wr.heap.size from hbz))); have HC4 := cellBelow HC0 (show w.heap.size + 1 < w.heap.size + 2 by omega) B4.out; have k0 := HC4.out.c0; have k1 := HC4.out.c1; have f0 := HC4.out.f0; have f1 := HC4.out.f1; have cz := HC4.out.lt; have b0 := A4.out.c0; have b1 := A4.out.c1; have bz := A4.out.lt; clear o4 hb)
          all_goals
            go_wp2
            unfold pkW pkL pkB
            rw [HP.out]
            exact bodyPost_ret (v := .tuple #[.agg #[.int .i64 (N : Int), .slice E4 (leftL zs S).length c4], .bool true]) (by simp [results, Try.results14, go_sem, k0, k1]) rfl
              ⟨E4, c4, rfl, ((HO4.out.setBelow (by simp; omega) _).setBelow (by simp; omega) _).mono (by simp; omega), ((HB.out.trans (B4.out.mono (Nat.le_add_right _ 2))).setCell (by simp) _).setCell (by simp) _⟩
end Go.Proofs.Ytjhjoimdidnkiaa
