/- SplitLadder of the model. -/
import Derived.Test.YtmlkccihpkpjfaaSp4
import Derived.BigQuiet
import Derived.Deep.QuietTactic
namespace Go.Proofs.Ytmlkccihpkpjfaa
open Go Go.RowKit

theorem cut_0 {N p : Nat} {zs : List Int} (h : cutB zs N p = false) : p + 1 < N ∧ hasM zs (p : Int) = true := by
  unfold cutB at h
  rw [Bool.or_eq_false_iff, decide_eq_false_iff_not] at h
  exact ⟨by omega, by have := h.2; rwa [Bool.not_eq_false'] at this⟩
theorem cut_1 {N p : Nat} {zs : List Int} (hp : p < N) (h : cutB zs N p = true) : (p + 1 < N ∧ hasM zs (p : Int) = false) ∨ p + 1 = N := by
  unfold cutB at h
  rw [Bool.or_eq_true, decide_eq_true_eq] at h
  by_cases c : N ≤ p + 1
  · exact .inr (by omega)
  · refine .inl ⟨by omega, ?_⟩
    rcases h with h | h
    · omega
    · rwa [Bool.not_eq_true'] at h

set_option maxRecDepth 100000 in
set_option maxHeartbeats 4000000 in
theorem sSplitLadder_any (W : Int) (A : Option Addr) (n c : Nat) (zs : List Int) (w : World) (h : RI w A n zs) (hn : n ≤ 1048576) :
    Calls Try.prog 29 #[.agg #[.int .i64 W, .slice A n c]] w (FreshLSB w (slW W zs) (slZ W zs) (lad W zs)) := by
  have hl := h.1
  have HA := boxNew (W := W) (c := c) 26 h
  have HB := belAlloc (belRefl (w := w)) (.cells #[.int .i64 W, .slice A n c] 26)
  have HI := Lib.hid (fun w2 (r : RI w2 A n zs) => laGood_any W A n c zs w2 r hn)
  rcases hq : lad W zs with _ | _
  · rw [slW_no hq, slZ_no hq]
    rw [hq] at HI
    clear hq h
    go_enter Try.func29, Try.ntmps29
    go_wp2_with fail
    refine (HI.out _ HA.out.ri).mono ?_
    rintro e w1 ⟨rfl, hb⟩
    replace HB := belStep HB hb
    clear hb
    go_wp2
    go_ret2
    exact ⟨none, 0, _, [], rfl, (OLL.none_ _ _), HB.out⟩
  · rw [slW_yes hq, slZ_yes hq]
    rw [hq] at HI
    have hW := (lad_iff.1 hq).1
    have hn60 : n ≤ 60 := by have := (lad_iff.1 hq).2.1; omega
    obtain ⟨N, rfl⟩ : ∃ N : Nat, W = (N : Int) := ⟨W.toNat, by omega⟩
    rw [Int.toNat_natCast]
    have HLH := Lib.hid (fun x w2 (r : RI w2 A n zs) => l1HasM_any A n c zs x w2 r hn)
    have HG := Lib.hid (fun j (hj : j < n) => lad_at hq (j := j) (by omega))
    clear hq h
    go_enter Try.func29, Try.ntmps29
    go_wp2_with fail
    refine (HI.out _ HA.out.ri).mono ?_
    rintro e w1 ⟨rfl, hb⟩
    replace HA := boxStep HA hb; replace HB := belStep HB hb
    have a0 := HA.out.c0; have a1 := HA.out.c1; have az := HA.out.lt
    have z1 := HB.out.size
    have KA := Lib.hid (fun (wx : World) (hb : Below w1.heap.size w1 wx) => (⟨(hb.cell (p := ⟨w.heap.size, 0, none⟩) az).trans a0, (hb.cell (p := ⟨w.heap.size, 1, none⟩) az).trans a1, HA.out.ri.below hb (Nat.le_refl _)⟩ : wx.cell? ⟨w.heap.size, 0, none⟩ = some (.int .i64 (N : Int)) ∧ wx.cell? ⟨w.heap.size, 1, none⟩ = some (.slice A n c) ∧ RI wx A n zs))
    clear hb a0 a1
    go_wp2
    go_loopw [4, 5, 6] (fun v f i wr => ∃ (p : Nat) (A1 : Option Addr) (c1 : Nat) (S1 : List Sl), p ≤ N ∧ i = .int .i64 ((p : Int) + 1) ∧ f = .int .i64 (spF zs N p : Int) ∧ v = .slice A1 (spZ zs N p).length c1 ∧ OLL wr w1.heap.size wr.heap.size A1 (spZ zs N p).length c1 (spW zs N p) (spZ zs N p) S1 ∧ Below w1.heap.size w1 wr) (fun _ _ i _ => N + 1 - (intOf i).toNat)
    case atStart => exact ⟨0, none, 0, [], Nat.zero_le _, rfl, rfl, rfl, OLL.none_ _ _, Below.refl _ _⟩
    case round =>
      obtain ⟨p, A1, c1, S1, hp, rfl, rfl, rfl, ho, hb⟩ := hrel
      have HO := Lib.hid ho
      have HBk := Lib.hid hb
      have b0 := (KA.out _ hb).1
      have b1 := (KA.out _ hb).2.1
      have hbs := hb.size
      have azr : w.heap.size < wr.heap.size := by omega
      have hfl := spF_le zs N p
      have hzl := spZ_len zs N p
      have hpw : IntKind.i64.wrap ((p : Int) + 1 + 1) = ((p + 1 : Nat) : Int) + 1 := by rw [IntWalk.i64_in _ (by omega)]; omega
      have hpm : IntKind.i64.wrap ((p : Int) + 1 - 1) = (p : Int) := by rw [IntWalk.i64_in _ (by omega)]; omega
      clear ho hb
      by_cases hlt : p < N
      · have hle : decide ((p : Int) + 1 ≤ (N : Int)) = true := decide_eq_true (by omega)
        have HLHp := Lib.hid (HLH.out (p : Int))
        rcases hc : cutB zs N p with _ | _
        · obtain ⟨h1, e1⟩ := cut_0 hc
          have hl1 : decide ((p : Int) + 1 < (N : Int)) = true := decide_eq_true (by omega)
          have HF := Lib.hid (spF_no hc)
          have HW := Lib.hid (spW_no (zs := zs) (N := N) (p := p) (fun e => by rw [hc] at e; exact absurd e.1 (by decide)))
          have HZ := Lib.hid (spZ_no (zs := zs) (N := N) (p := p) (fun e => by rw [hc] at e; exact absurd e.1 (by decide)))
          rw [e1] at HLHp
          obtain ⟨f, hf⟩ : ∃ f, f = spF zs N p := ⟨_, rfl⟩
          rw [← hf] at HF ⊢
          clear e1 hc hf hfl
          go_wp2_with (go_at_call 48; refine (HLHp.out _ (KA.out _ HBk.out).2.2).mono ?_; rintro e w2 ⟨rfl, rfl⟩)
          go_roundw
          case rel => exact ⟨p + 1, A1, c1, S1, by omega, by go_num, by rw [HF.out], by rw [HZ.out], by rw [HZ.out, HW.out]; exact HO.out, HBk.out⟩
          case measure => simp [intOf]; omega
        · have HF := Lib.hid (spF_yes hc)
          have HWY := Lib.hid (fun e => spW_yes hc e)
          have HZY : Hid (spF zs N p < p → spZ zs N (p + 1) = spZ zs N p ++ [ptS zs (spF zs N p : Int) (p : Int) n]) := fun e => by rw [← hl]; exact spZ_yes hc e
          have HWN := Lib.hid (fun (e : ¬ spF zs N p < p) => spW_no (zs := zs) (N := N) (p := p) (fun e2 => e e2.2))
          have HZN := Lib.hid (fun (e : ¬ spF zs N p < p) => spZ_no (zs := zs) (N := N) (p := p) (fun e2 => e e2.2))
          have hcut := cut_1 hlt hc
          obtain ⟨f, hf⟩ : ∃ f, f = spF zs N p := ⟨_, rfl⟩
          rw [← hf] at hfl HWY HZY HWN HZN ⊢
          obtain ⟨V, hV⟩ : ∃ V, V = (p : Int) + 1 - (f : Int) := ⟨_, rfl⟩
          rw [← hV] at HWY
          have hwv : IntKind.i64.wrap ((p : Int) + 1 - (f : Int)) = V := by rw [IntWalk.i64_in _ (by omega), hV]
          have HV := Lib.hid hV
          have HY := Lib.hid (fun k (h1 : (f : Int) ≤ gi zs k) (h2 : gi zs k < (p : Int)) => ptS_yes (zs := zs) (a := (f : Int)) (b := (p : Int)) (k := k) h1 h2)
          have HNO := Lib.hid (fun k (h1 : ¬ ((f : Int) ≤ gi zs k ∧ gi zs k < (p : Int))) => ptS_no (zs := zs) (a := (f : Int)) (b := (p : Int)) (k := k) h1)
          clear hc hf hV
          rcases hcut with ⟨h1, e1⟩ | h1
          · have hl1 : decide ((p : Int) + 1 < (N : Int)) = true := decide_eq_true (by omega)
            rw [e1] at HLHp
            clear e1
            go_wp2_with (go_at_call 48; refine (HLHp.out _ (KA.out _ HBk.out).2.2).mono ?_; rintro e w2 ⟨rfl, rfl⟩)
            obtain ⟨wo, hwo⟩ : ∃ u : World, u = wr := ⟨_, rfl⟩
            subst hwo
            have HO' := Lib.hid (HO.out.alloc (.cells #[.int .i64 V, .slice none 0 0] 26))
            have HAL := Lib.hid HO.out.blkLt
            have HM := cellNew wo (.int .i64 V) (.slice none 0 0) 26
            clear HO
            go_loopw [37] (fun i wr => ∃ (k : Nat) (A2 : Option Addr) (c2 : Nat), k ≤ n ∧ i = .int .i64 (k : Int) ∧ Cell2 wr wo.heap.size (.int .i64 V) (.slice A2 (ptS zs f p k).length c2) ∧ OI wr (wo.heap.size + 1) A2 (ptS zs f p k).length c2 (ptS zs f p k) ∧ OLL wr w1.heap.size wo.heap.size A1 (spZ zs N p).length c1 (spW zs N p) (spZ zs N p) S1 ∧ Below wo.heap.size wo wr) (fun i _ => n - (intOf i).toNat)
            case atStart => exact ⟨0, none, 0, Nat.zero_le _, rfl, HM.out, OI.none_ _ _, HO'.out, (Below.refl _ _).alloc (Nat.le_refl _) _⟩
            case round =>
              obtain ⟨k, A2, c2, hk, rfl, hm, ho2, hoL, hb2⟩ := hrel
              have HMr := Lib.hid hm
              have HO2 := Lib.hid ho2
              have HL := Lib.hid hoL
              have HBq := Lib.hid hb2
              have HRq := Lib.hid (HBk.out.trans (hb2.mono hbs))
              replace b0 := (KA.out _ HRq.out).1
              replace b1 := (KA.out _ HRq.out).2.1
              have m0 := HMr.out.c0; have m1 := HMr.out.c1
              have zr : wo.heap.size < wr.heap.size := HMr.out.lt
              have hul := ptS_len zs f p k
              clear hm ho2 hoL hb2
              by_cases hlt2 : k < n
              · obtain ⟨b', off, rfl, hbw, hcc⟩ := (KA.out _ HRq.out).2.2.cell hlt2
                have hck := hcc k hlt2
                have hg := HG.out k hlt2
                have HYk := Lib.hid (HY.out k)
                have HNk := Lib.hid (HNO.out k)
                obtain ⟨r, hr⟩ : ∃ r, r = gi zs k := ⟨_, rfl⟩
                rw [← hr] at hck HYk HNk hg
                have hwr : IntKind.i64.wrap (r - (f : Int)) = r - (f : Int) := IntWalk.i64_in _ (by omega)
                clear hcc hr
                by_cases g1 : (f : Int) ≤ r
                · by_cases g2 : r < (p : Int)
                  · have HT := Lib.hid (HYk.out g1 g2)
                    have HTL : Hid ((ptS zs f p k).length + 1 = (ptS zs f p (k + 1)).length) := by show _ = _; rw [HT.out]; simp
                    go_wp2_with (at_builtin; refine wpList_append_int _ rfl _ _ rfl (wo.heap.size + 1) A2 (ptS zs f p k).length c2 _ (r - (f : Int)) wr.heap.size rfl rfl (HO2.out.alloc _) (by simp) (by omega) (by simp; omega) ?_; intro A3 c3 w3 ho3 hg3; have HM2 := cellKeptNe (cellAlloc HMr _) hg3 (HO2.out.alloc _) (Nat.lt_succ_self _); have H1R2 : Hid (Below wo.heap.size wo w3) := (HBq.out.alloc (by omega) _).trans (ofMark (HO2.out.alloc _) hg3 (Nat.le_succ _) (by simp; omega)); have HL3 := Lib.hid ((HL.out.alloc _).keptRow' (HO2.out.alloc _) (Nat.le_succ _) hg3); have n0 := HM2.out.c0; have n1 := HM2.out.c1; have nf0 := HM2.out.f0; have nf1 := HM2.out.f1; have nz := HM2.out.lt)
                    go_roundw
                    case rel =>
                      refine ⟨k + 1, A3, c3, by omega, by go_num, by rw [← HTL.out]; exact (cellSet1 HM2 _).out, ?_, HL3.out.setNew (fun e => Nat.lt_irrefl _ (HAL.out _ e)) (fun j s hs e => Nat.lt_irrefl _ (HL3.out.lt j s hs _ e)) _, H1R2.out.setCell (by simp) _⟩
                      rw [← HTL.out, HT.out]
                      exact ho3.setBelow (by simp) _
                    case measure => simp [intOf]; omega
                  · have HT := Lib.hid (HNk.out (fun e => g2 e.2))
                    go_wp2
                    go_roundw
                    case rel => exact ⟨k + 1, A2, c2, by omega, by go_num, by rw [HT.out]; exact HMr.out, by rw [HT.out]; exact HO2.out, HL.out, HBq.out⟩
                    case measure => simp [intOf]; omega
                · have HT := Lib.hid (HNk.out (fun e => g1 e.1))
                  go_wp2
                  go_roundw
                  case rel => exact ⟨k + 1, A2, c2, by omega, by go_num, by rw [HT.out]; exact HMr.out, by rw [HT.out]; exact HO2.out, HL.out, HBq.out⟩
                  case measure => simp [intOf]; omega
              · obtain rfl : k = n := by omega
                have hzq := HRq.out.size
                by_cases hfp : f < p
                · have HW := Lib.hid (HWY.out hfp)
                  have HZ := Lib.hid (HZY.out hfp)
                  have HZl : Hid ((spZ zs N p).length + 1 = (spZ zs N (p + 1)).length) := by show _ = _; rw [HZ.out]; simp
                  have hv1 : decide ((1 : Int) < V) = true := decide_eq_true (by have := HV.out; omega)
                  have hv1' : (1 : Int) < V := by have := HV.out; omega
                  obtain ⟨P, hP⟩ : ∃ P, P = ptS zs f p k := ⟨_, rfl⟩
                  rw [← hP] at HZ HO2 m1 HMr hul
                  have HL5 := Lib.hid ((HL.out.up (show wo.heap.size ≤ wo.heap.size + 1 by omega) (by omega)).alloc (.cells #[.int .i64 V, .slice A2 P.length c2] 26))
                  have HP5 := Lib.hid (HO2.out.alloc (.cells #[.int .i64 V, .slice A2 P.length c2] 26))
                  have HB5 := Lib.hid (HRq.out.alloc hzq (.cells #[.int .i64 V, .slice A2 P.length c2] 26))
                  clear hP hfp HWY HZY HWN HZN
                  go_wp2_with (at_builtin; refine wpList_append_ld _ rfl _ _ rfl w1.heap.size (wo.heap.size + 1) A1 (spZ zs N p).length c1 _ _ S1 V A2 P.length c2 P _ rfl rfl HL5.out HP5.out (by omega) ((cellNew _ _ _ _).out.c0) ((cellNew _ _ _ _).out.c1) (by omega) (by simp; omega) ?_; intro A6 c6 w6 ho6 hg6; have HO6 := Lib.hid ho6.top; have HB6 := Lib.hid (HB5.out.grown hg6 HB5.out.size (fun x hx => by have := HL5.out.blkB x hx; omega)); clear ho6 hg6)
                  go_roundw
                  case rel => exact ⟨p + 1, A6, c6, _, by omega, by go_num, by rw [HF.out]; go_num, by rw [← HZl.out], by rw [← HZl.out, HZ.out, HW.out]; exact HO6.out, HB6.out⟩
                  case measure => simp [intOf]; omega
                · have HW := Lib.hid (HWN.out hfp)
                  have HZ := Lib.hid (HZN.out hfp)
                  have hv1 : decide ((1 : Int) < V) = false := decide_eq_false (by have := HV.out; omega)
                  have hv1' : V ≤ 1 := by have := HV.out; omega
                  clear hfp HWY HZY HWN HZN
                  go_wp2
                  go_roundw
                  case rel => exact ⟨p + 1, A1, c1, S1, by omega, by go_num, by rw [HF.out]; go_num, by rw [HZ.out], by rw [HZ.out, HW.out]; exact HL.out.top, HRq.out⟩
                  case measure => simp [intOf]; omega
          · have hl1 : decide ((p : Int) + 1 < (N : Int)) = false := decide_eq_false (by omega)
            go_wp2
            obtain ⟨wo, hwo⟩ : ∃ u : World, u = wr := ⟨_, rfl⟩
            subst hwo
            have HO' := Lib.hid (HO.out.alloc (.cells #[.int .i64 V, .slice none 0 0] 26))
            have HAL := Lib.hid HO.out.blkLt
            have HM := cellNew wo (.int .i64 V) (.slice none 0 0) 26
            clear HO
            go_loopw [37] (fun i wr => ∃ (k : Nat) (A2 : Option Addr) (c2 : Nat), k ≤ n ∧ i = .int .i64 (k : Int) ∧ Cell2 wr wo.heap.size (.int .i64 V) (.slice A2 (ptS zs f p k).length c2) ∧ OI wr (wo.heap.size + 1) A2 (ptS zs f p k).length c2 (ptS zs f p k) ∧ OLL wr w1.heap.size wo.heap.size A1 (spZ zs N p).length c1 (spW zs N p) (spZ zs N p) S1 ∧ Below wo.heap.size wo wr) (fun i _ => n - (intOf i).toNat)
            case atStart => exact ⟨0, none, 0, Nat.zero_le _, rfl, HM.out, OI.none_ _ _, HO'.out, (Below.refl _ _).alloc (Nat.le_refl _) _⟩
            case round =>
              obtain ⟨k, A2, c2, hk, rfl, hm, ho2, hoL, hb2⟩ := hrel
              have HMr := Lib.hid hm
              have HO2 := Lib.hid ho2
              have HL := Lib.hid hoL
              have HBq := Lib.hid hb2
              have HRq := Lib.hid (HBk.out.trans (hb2.mono hbs))
              replace b0 := (KA.out _ HRq.out).1
              replace b1 := (KA.out _ HRq.out).2.1
              have m0 := HMr.out.c0; have m1 := HMr.out.c1
              have zr : wo.heap.size < wr.heap.size := HMr.out.lt
              have hul := ptS_len zs f p k
              clear hm ho2 hoL hb2
              by_cases hlt2 : k < n
              · obtain ⟨b', off, rfl, hbw, hcc⟩ := (KA.out _ HRq.out).2.2.cell hlt2
                have hck := hcc k hlt2
                have hg := HG.out k hlt2
                have HYk := Lib.hid (HY.out k)
                have HNk := Lib.hid (HNO.out k)
                obtain ⟨r, hr⟩ : ∃ r, r = gi zs k := ⟨_, rfl⟩
                rw [← hr] at hck HYk HNk hg
                have hwr : IntKind.i64.wrap (r - (f : Int)) = r - (f : Int) := IntWalk.i64_in _ (by omega)
                clear hcc hr
                by_cases g1 : (f : Int) ≤ r
                · by_cases g2 : r < (p : Int)
                  · have HT := Lib.hid (HYk.out g1 g2)
                    have HTL : Hid ((ptS zs f p k).length + 1 = (ptS zs f p (k + 1)).length) := by show _ = _; rw [HT.out]; simp
                    go_wp2_with (at_builtin; refine wpList_append_int _ rfl _ _ rfl (wo.heap.size + 1) A2 (ptS zs f p k).length c2 _ (r - (f : Int)) wr.heap.size rfl rfl (HO2.out.alloc _) (by simp) (by omega) (by simp; omega) ?_; intro A3 c3 w3 ho3 hg3; have HM2 := cellKeptNe (cellAlloc HMr _) hg3 (HO2.out.alloc _) (Nat.lt_succ_self _); have H1R2 : Hid (Below wo.heap.size wo w3) := (HBq.out.alloc (by omega) _).trans (ofMark (HO2.out.alloc _) hg3 (Nat.le_succ _) (by simp; omega)); have HL3 := Lib.hid ((HL.out.alloc _).keptRow' (HO2.out.alloc _) (Nat.le_succ _) hg3); have n0 := HM2.out.c0; have n1 := HM2.out.c1; have nf0 := HM2.out.f0; have nf1 := HM2.out.f1; have nz := HM2.out.lt)
                    go_roundw
                    case rel =>
                      refine ⟨k + 1, A3, c3, by omega, by go_num, by rw [← HTL.out]; exact (cellSet1 HM2 _).out, ?_, HL3.out.setNew (fun e => Nat.lt_irrefl _ (HAL.out _ e)) (fun j s hs e => Nat.lt_irrefl _ (HL3.out.lt j s hs _ e)) _, H1R2.out.setCell (by simp) _⟩
                      rw [← HTL.out, HT.out]
                      exact ho3.setBelow (by simp) _
                    case measure => simp [intOf]; omega
                  · have HT := Lib.hid (HNk.out (fun e => g2 e.2))
                    go_wp2
                    go_roundw
                    case rel => exact ⟨k + 1, A2, c2, by omega, by go_num, by rw [HT.out]; exact HMr.out, by rw [HT.out]; exact HO2.out, HL.out, HBq.out⟩
                    case measure => simp [intOf]; omega
                · have HT := Lib.hid (HNk.out (fun e => g1 e.1))
                  go_wp2
                  go_roundw
                  case rel => exact ⟨k + 1, A2, c2, by omega, by go_num, by rw [HT.out]; exact HMr.out, by rw [HT.out]; exact HO2.out, HL.out, HBq.out⟩
                  case measure => simp [intOf]; omega
              · obtain rfl : k = n := by omega
                have hzq := HRq.out.size
                by_cases hfp : f < p
                · have HW := Lib.hid (HWY.out hfp)
                  have HZ := Lib.hid (HZY.out hfp)
                  have HZl : Hid ((spZ zs N p).length + 1 = (spZ zs N (p + 1)).length) := by show _ = _; rw [HZ.out]; simp
                  have hv1 : decide ((1 : Int) < V) = true := decide_eq_true (by have := HV.out; omega)
                  have hv1' : (1 : Int) < V := by have := HV.out; omega
                  obtain ⟨P, hP⟩ : ∃ P, P = ptS zs f p k := ⟨_, rfl⟩
                  rw [← hP] at HZ HO2 m1 HMr hul
                  have HL5 := Lib.hid ((HL.out.up (show wo.heap.size ≤ wo.heap.size + 1 by omega) (by omega)).alloc (.cells #[.int .i64 V, .slice A2 P.length c2] 26))
                  have HP5 := Lib.hid (HO2.out.alloc (.cells #[.int .i64 V, .slice A2 P.length c2] 26))
                  have HB5 := Lib.hid (HRq.out.alloc hzq (.cells #[.int .i64 V, .slice A2 P.length c2] 26))
                  clear hP hfp HWY HZY HWN HZN
                  go_wp2_with (at_builtin; refine wpList_append_ld _ rfl _ _ rfl w1.heap.size (wo.heap.size + 1) A1 (spZ zs N p).length c1 _ _ S1 V A2 P.length c2 P _ rfl rfl HL5.out HP5.out (by omega) ((cellNew _ _ _ _).out.c0) ((cellNew _ _ _ _).out.c1) (by omega) (by simp; omega) ?_; intro A6 c6 w6 ho6 hg6; have HO6 := Lib.hid ho6.top; have HB6 := Lib.hid (HB5.out.grown hg6 HB5.out.size (fun x hx => by have := HL5.out.blkB x hx; omega)); clear ho6 hg6)
                  go_roundw
                  case rel => exact ⟨p + 1, A6, c6, _, by omega, by go_num, by rw [HF.out]; go_num, by rw [← HZl.out], by rw [← HZl.out, HZ.out, HW.out]; exact HO6.out, HB6.out⟩
                  case measure => simp [intOf]; omega
                · have HW := Lib.hid (HWN.out hfp)
                  have HZ := Lib.hid (HZN.out hfp)
                  have hv1 : decide ((1 : Int) < V) = false := decide_eq_false (by have := HV.out; omega)
                  have hv1' : V ≤ 1 := by have := HV.out; omega
                  clear hfp HWY HZY HWN HZN
                  go_wp2
                  go_roundw
                  case rel => exact ⟨p + 1, A1, c1, S1, by omega, by go_num, by rw [HF.out]; go_num, by rw [HZ.out], by rw [HZ.out, HW.out]; exact HL.out.top, HRq.out⟩
                  case measure => simp [intOf]; omega
      · obtain rfl : p = N := by omega
        have hle : decide ((p : Int) + 1 ≤ (p : Int)) = false := decide_eq_false (by omega)
        go_wp2
        go_ret2
        exact ⟨A1, c1, _, S1, rfl, HO.out.mono z1, HB.out.trans (HBk.out.mono z1)⟩
end Go.Proofs.Ytmlkccihpkpjfaa
