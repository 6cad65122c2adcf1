/- SplitLadder of the program. -/
import Derived.Test.YtmlkccihpkpjfaaSp2
import Derived.Test.YtmlkccihpkpjfaaSp3
namespace Go.Proofs.Ytmlkccihpkpjfaa
open Go Go.RowKit

theorem isp_0 {N p : Nat} {zs : List Int} (hq : lad (N : Int) zs = true) (h : cutB zs N p = false) : ispB (N : Int) zs ((p : Int) + 1) = true ∧ ispV (N : Int) zs ((p : Int) + 1) = false := by
  unfold cutB at h
  rw [Bool.or_eq_false_iff, decide_eq_false_iff_not] at h
  have e : ispB (N : Int) zs ((p : Int) + 1) = true := by unfold ispB; rw [hq, inB_true (by omega)]; rfl
  refine ⟨e, ?_⟩
  unfold ispV
  rw [e, show (p : Int) + 1 - 1 = (p : Int) by omega, h.2]; rfl
theorem isp_1 {N p : Nat} {zs : List Int} (hq : lad (N : Int) zs = true) (h : cutB zs N p = true) : (ispB (N : Int) zs ((p : Int) + 1) = true ∧ ispV (N : Int) zs ((p : Int) + 1) = true) ∨ (ispB (N : Int) zs ((p : Int) + 1) = false ∧ ispV (N : Int) zs ((p : Int) + 1) = false) := by
  by_cases c : N ≤ p + 1
  · have e : ispB (N : Int) zs ((p : Int) + 1) = false := by unfold ispB; rw [inB_false (by omega)]; simp
    exact .inr ⟨e, by unfold ispV; rw [e]; rfl⟩
  · have e : ispB (N : Int) zs ((p : Int) + 1) = true := by unfold ispB; rw [hq, inB_true (by omega)]; rfl
    refine .inl ⟨e, ?_⟩
    unfold cutB at h
    rw [decide_eq_false c, Bool.false_or] at h
    unfold ispV
    rw [e, show (p : Int) + 1 - 1 = (p : Int) by omega, h]; rfl
theorem ptS_cut {N p f : Nat} {zs : List Int} (hq : lad (N : Int) zs = true) (h : cutB zs N p = true) : ptS zs (f : Int) ((p : Int) + 1) zs.length = ptS zs (f : Int) (p : Int) zs.length := by
  unfold ptS
  rw [ptR_cut _ (cut_ne hq (by rw [Int.toNat_natCast]; exact h))]

set_option maxRecDepth 100000 in
set_option maxHeartbeats 4000000 in
theorem iSplitLadder_any (W : Int) (A : Option Addr) (n c : Nat) (zs : List Int) (w : World) (h : RI w A n zs) (hn : n ≤ 1048576) :
    Calls Try.prog 30 #[.agg #[.int .i64 W, .slice A n c]] w (FreshLSB w (slW W zs) (slZ W zs) (lad W zs)) := by
  have hl := h.1
  have HA := boxNew (W := W) (c := c) 26 h
  have HB := belAlloc (belRefl (w := w)) (.cells #[.int .i64 W, .slice A n c] 26)
  have HI := Lib.hid (fun w2 (r : RI w2 A n zs) => iIsLadder_any W A n c zs w2 r hn)
  rcases hq : lad W zs with _ | _
  · rw [slW_no hq, slZ_no hq]
    rw [hq] at HI
    clear hq h
    go_enter Try.func30, Try.ntmps30
    go_wp2_with fail
    refine (HI.out _ HA.out.ri).mono ?_
    rintro e w1 ⟨rfl, hb⟩
    replace HB := belStep HB hb
    clear hb
    go_wp2
    go_ret2
    exact ⟨none, 0, _, [], rfl, (OLL.none_ _ _), HB.out⟩
  · rw [slW_yes hq, slZ_yes hq]
    rw [hq] at HI
    have hW := (lad_iff.1 hq).1
    have hn60 : n ≤ 60 := by have := (lad_iff.1 hq).2.1; omega
    obtain ⟨N, rfl⟩ : ∃ N : Nat, W = (N : Int) := ⟨W.toNat, by omega⟩
    rw [Int.toNat_natCast]
    have HIS := Lib.hid (fun a w2 (r : RI w2 A n zs) => iIsSplit_any (N : Int) A n c zs a w2 r (by omega))
    have HPO := Lib.hid (fun a b w2 (r : RI w2 A n zs) ha hb => partOf_any (N : Int) A n c zs a b w2 r hn60 ha hb)
    have HQ := Lib.hid hq
    clear hq h
    go_enter Try.func30, Try.ntmps30
    go_wp2_with fail
    refine (HI.out _ HA.out.ri).mono ?_
    rintro e w1 ⟨rfl, hb⟩
    replace HA := boxStep HA hb; replace HB := belStep HB hb
    have a0 := HA.out.c0; have a1 := HA.out.c1; have az := HA.out.lt
    have z1 := HB.out.size
    have KA := Lib.hid (fun (wx : World) (hb : Below w1.heap.size w1 wx) => (⟨(hb.cell (p := ⟨w.heap.size, 0, none⟩) az).trans a0, (hb.cell (p := ⟨w.heap.size, 1, none⟩) az).trans a1, HA.out.ri.below hb (Nat.le_refl _)⟩ : wx.cell? ⟨w.heap.size, 0, none⟩ = some (.int .i64 (N : Int)) ∧ wx.cell? ⟨w.heap.size, 1, none⟩ = some (.slice A n c) ∧ RI wx A n zs))
    clear hb a0 a1
    go_wp2
    go_loopw [4, 5, 6] (fun v f i wr => ∃ (p : Nat) (A1 : Option Addr) (c1 : Nat) (S1 : List Sl), p ≤ N ∧ i = .int .i64 ((p : Int) + 1) ∧ f = .int .i64 (spF zs N p : Int) ∧ v = .slice A1 (spZ zs N p).length c1 ∧ OLL wr w1.heap.size wr.heap.size A1 (spZ zs N p).length c1 (spW zs N p) (spZ zs N p) S1 ∧ Below w1.heap.size w1 wr) (fun _ _ i _ => N + 1 - (intOf i).toNat)
    case atStart => exact ⟨0, none, 0, [], Nat.zero_le _, rfl, rfl, rfl, OLL.none_ _ _, Below.refl _ _⟩
    case round =>
      obtain ⟨p, A1, c1, S1, hp, rfl, rfl, rfl, ho, hb⟩ := hrel
      have HO := Lib.hid ho
      have HBk := Lib.hid hb
      have b0 := (KA.out _ hb).1
      have b1 := (KA.out _ hb).2.1
      have hbs := hb.size
      have hfl := spF_le zs N p
      have hzl := spZ_len zs N p
      have hpw : IntKind.i64.wrap ((p : Int) + 1 + 1) = ((p + 1 : Nat) : Int) + 1 := by rw [IntWalk.i64_in _ (by omega)]; omega
      clear ho hb
      by_cases hlt : p < N
      · have hle : decide ((p : Int) + 1 ≤ (N : Int)) = true := decide_eq_true (by omega)
        have HISp := Lib.hid (HIS.out ((p : Int) + 1))
        have HPOp := Lib.hid (fun w2 (r : RI w2 A n zs) => HPO.out (spF zs N p : Int) ((p : Int) + 1) w2 r (by omega) (by omega))
        rcases hc : cutB zs N p with _ | _
        · obtain ⟨e1, e2⟩ := isp_0 HQ.out hc
          have HF := Lib.hid (spF_no hc)
          have HW := Lib.hid (spW_no (zs := zs) (N := N) (p := p) (fun e => by rw [hc] at e; exact absurd e.1 (by decide)))
          have HZ := Lib.hid (spZ_no (zs := zs) (N := N) (p := p) (fun e => by rw [hc] at e; exact absurd e.1 (by decide)))
          rw [e1, e2] at HISp
          obtain ⟨f, hf⟩ : ∃ f, f = spF zs N p := ⟨_, rfl⟩
          rw [← hf] at HF ⊢
          clear e1 e2 hc hf hfl HPOp
          go_wp2_with fail
          refine (HISp.out _ (KA.out _ HBk.out).2.2).mono ?_
          rintro e w2 ⟨rfl, hb⟩
          have HO2 := Lib.hid (HO.out.below hb).top
          have HB2 := Lib.hid (HBk.out.trans (hb.mono hbs))
          clear hb b0 b1 HISp
          go_wp2
          go_roundw
          case rel => exact ⟨p + 1, A1, c1, S1, by omega, by go_num, by rw [HF.out], by rw [HZ.out], by rw [HZ.out, HW.out]; exact HO2.out, HB2.out⟩
          case measure => simp [intOf]; omega
        · have hle2 : (p : Int) < (N : Int) := by omega
          have HPE : Hid (ptS zs (spF zs N p : Int) ((p : Int) + 1) n = ptS zs (spF zs N p : Int) (p : Int) n) := by rw [← hl]; exact ptS_cut HQ.out hc
          have HLP : Hid (lad ((p : Int) + 1 - (spF zs N p : Int)) (ptS zs (spF zs N p : Int) (p : Int) n) = decide (spF zs N p < p)) := by rw [← hl]; exact lad_part HQ.out hle2
          rw [HPE.out, HLP.out] at HPOp
          have HF := Lib.hid (spF_yes hc)
          have HWY := Lib.hid (fun e => spW_yes hc e)
          have HZY : Hid (spF zs N p < p → spZ zs N (p + 1) = spZ zs N p ++ [ptS zs (spF zs N p : Int) (p : Int) n]) := fun e => by rw [← hl]; exact spZ_yes hc e
          have HWN := Lib.hid (fun (e : ¬ spF zs N p < p) => spW_no (zs := zs) (N := N) (p := p) (fun e2 => e e2.2))
          have HZN := Lib.hid (fun (e : ¬ spF zs N p < p) => spZ_no (zs := zs) (N := N) (p := p) (fun e2 => e e2.2))
          obtain ⟨P, hP⟩ : ∃ P, P = ptS zs (spF zs N p : Int) (p : Int) n := ⟨_, rfl⟩
          rw [← hP] at HPOp HZY
          have hisp := isp_1 HQ.out hc
          obtain ⟨f, hf⟩ : ∃ f, f = spF zs N p := ⟨_, rfl⟩
          rw [← hf] at HPOp hfl HWY HZY HWN HZN ⊢
          clear hc hP hf HPE HLP
          rcases hisp with ⟨e1, e2⟩ | ⟨e1, e2⟩
          · rw [e1, e2] at HISp
            clear e1 e2
            go_wp2_with fail
            refine (HISp.out _ (KA.out _ HBk.out).2.2).mono ?_
            rintro e w2 ⟨rfl, hb⟩
            have HO2 := Lib.hid ((HO.out.below hb).up (Nat.le_trans HO.out.le hb.size) (Nat.le_refl _))
            have HB2 := Lib.hid (HBk.out.trans (hb.mono hbs))
            have hz2 := HB2.out.size
            replace b0 := (KA.out _ HB2.out).1
            replace b1 := (KA.out _ HB2.out).2.1
            clear hb HISp HO
            by_cases hfp : f < p
            · rw [decide_eq_true hfp, ifW_yes, ifL_yes] at HPOp
              have HW := Lib.hid (HWY.out hfp)
              have HZ := Lib.hid (HZY.out hfp)
              have HZl : Hid ((spZ zs N p).length + 1 = (spZ zs N (p + 1)).length) := by show _ = _; rw [HZ.out]; simp
              obtain ⟨V, hV⟩ : ∃ V, V = (p : Int) + 1 - (f : Int) := ⟨_, rfl⟩
              rw [← hV] at HPOp HW
              clear hfp hV
              go_wp2_with fail
              refine (HPOp.out _ (KA.out _ HB2.out).2.2).mono ?_
              rintro e w3 ⟨A3, c3, rfl, o3, hb⟩
              have HO3 := Lib.hid (((HO2.out.below hb).alloc (.cells #[.int .i64 V, .slice A3 P.length c3] 26)).alloc (.cells #[.int .i64 V, .slice A3 P.length c3] 26))
              have HP3 := Lib.hid ((o3.alloc (.cells #[.int .i64 V, .slice A3 P.length c3] 26)).alloc (.cells #[.int .i64 V, .slice A3 P.length c3] 26))
              have HB3 := Lib.hid (HB2.out.trans (hb.mono hz2))
              have hz3 := HB3.out.size
              have HB5 := Lib.hid ((HB3.out.alloc hz3 (.cells #[.int .i64 V, .slice A3 P.length c3] 26)).alloc (by simp; omega) (.cells #[.int .i64 V, .slice A3 P.length c3] 26))
              have HCC := cellNew (w3.alloc (.cells #[.int .i64 V, .slice A3 P.length c3] 26)) (.int .i64 V) (.slice A3 P.length c3) 26
              rw [World.size_alloc] at HCC
              clear hb o3 b0 b1 HPOp
              go_wp2_with (at_builtin; refine wpList_append_ld _ rfl _ _ rfl w1.heap.size w2.heap.size A1 (spZ zs N p).length c1 _ _ S1 V A3 P.length c3 P _ rfl rfl HO3.out HP3.out hz2 HCC.out.c0 HCC.out.c1 (by omega) (by simp; omega) ?_; intro A6 c6 w6 ho6 hg6; have HO6 := Lib.hid ho6.top; have HB6 := Lib.hid (HB5.out.grown hg6 HB5.out.size (fun x hx => by have := HO3.out.blkB x hx; omega)); clear ho6 hg6)
              go_roundw
              case rel => exact ⟨p + 1, A6, c6, _, by omega, by go_num, by rw [HF.out]; go_num, by rw [← HZl.out], by rw [← HZl.out, HZ.out, HW.out]; exact HO6.out, HB6.out⟩
              case measure => simp [intOf]; omega
            · rw [decide_eq_false hfp, ifW_no, ifL_no] at HPOp
              have HW := Lib.hid (HWN.out hfp)
              have HZ := Lib.hid (HZN.out hfp)
              clear hfp
              go_wp2_with fail
              refine (HPOp.out _ (KA.out _ HB2.out).2.2).mono ?_
              rintro e w3 ⟨A3, c3, rfl, _, hb⟩
              have HB3 := Lib.hid (HB2.out.trans (hb.mono hz2))
              have hz3 := HB3.out.size
              have HO3 := Lib.hid ((HO2.out.below hb).alloc (.cells #[.int .i64 0, .slice A3 0 c3] 26)).top
              have HB4 := Lib.hid (HB3.out.alloc hz3 (.cells #[.int .i64 0, .slice A3 0 c3] 26))
              clear hb b0 b1 HPOp
              go_wp2
              go_roundw
              case rel => exact ⟨p + 1, A1, c1, S1, by omega, by go_num, by rw [HF.out]; go_num, by rw [HZ.out], by rw [HZ.out, HW.out]; exact HO3.out, HB4.out⟩
              case measure => simp [intOf]; omega
          · rw [e1, e2] at HISp
            clear e1 e2
            go_wp2_with fail
            refine (HISp.out _ (KA.out _ HBk.out).2.2).mono ?_
            rintro e w2 ⟨rfl, hb⟩
            have HO2 := Lib.hid ((HO.out.below hb).up (Nat.le_trans HO.out.le hb.size) (Nat.le_refl _))
            have HB2 := Lib.hid (HBk.out.trans (hb.mono hbs))
            have hz2 := HB2.out.size
            replace b0 := (KA.out _ HB2.out).1
            replace b1 := (KA.out _ HB2.out).2.1
            clear hb HISp HO
            by_cases hfp : f < p
            · rw [decide_eq_true hfp, ifW_yes, ifL_yes] at HPOp
              have HW := Lib.hid (HWY.out hfp)
              have HZ := Lib.hid (HZY.out hfp)
              have HZl : Hid ((spZ zs N p).length + 1 = (spZ zs N (p + 1)).length) := by show _ = _; rw [HZ.out]; simp
              obtain ⟨V, hV⟩ : ∃ V, V = (p : Int) + 1 - (f : Int) := ⟨_, rfl⟩
              rw [← hV] at HPOp HW
              clear hfp hV
              go_wp2_with fail
              refine (HPOp.out _ (KA.out _ HB2.out).2.2).mono ?_
              rintro e w3 ⟨A3, c3, rfl, o3, hb⟩
              have HO3 := Lib.hid (((HO2.out.below hb).alloc (.cells #[.int .i64 V, .slice A3 P.length c3] 26)).alloc (.cells #[.int .i64 V, .slice A3 P.length c3] 26))
              have HP3 := Lib.hid ((o3.alloc (.cells #[.int .i64 V, .slice A3 P.length c3] 26)).alloc (.cells #[.int .i64 V, .slice A3 P.length c3] 26))
              have HB3 := Lib.hid (HB2.out.trans (hb.mono hz2))
              have hz3 := HB3.out.size
              have HB5 := Lib.hid ((HB3.out.alloc hz3 (.cells #[.int .i64 V, .slice A3 P.length c3] 26)).alloc (by simp; omega) (.cells #[.int .i64 V, .slice A3 P.length c3] 26))
              have HCC := cellNew (w3.alloc (.cells #[.int .i64 V, .slice A3 P.length c3] 26)) (.int .i64 V) (.slice A3 P.length c3) 26
              rw [World.size_alloc] at HCC
              clear hb o3 b0 b1 HPOp
              go_wp2_with (at_builtin; refine wpList_append_ld _ rfl _ _ rfl w1.heap.size w2.heap.size A1 (spZ zs N p).length c1 _ _ S1 V A3 P.length c3 P _ rfl rfl HO3.out HP3.out hz2 HCC.out.c0 HCC.out.c1 (by omega) (by simp; omega) ?_; intro A6 c6 w6 ho6 hg6; have HO6 := Lib.hid ho6.top; have HB6 := Lib.hid (HB5.out.grown hg6 HB5.out.size (fun x hx => by have := HO3.out.blkB x hx; omega)); clear ho6 hg6)
              go_roundw
              case rel => exact ⟨p + 1, A6, c6, _, by omega, by go_num, by rw [HF.out]; go_num, by rw [← HZl.out], by rw [← HZl.out, HZ.out, HW.out]; exact HO6.out, HB6.out⟩
              case measure => simp [intOf]; omega
            · rw [decide_eq_false hfp, ifW_no, ifL_no] at HPOp
              have HW := Lib.hid (HWN.out hfp)
              have HZ := Lib.hid (HZN.out hfp)
              clear hfp
              go_wp2_with fail
              refine (HPOp.out _ (KA.out _ HB2.out).2.2).mono ?_
              rintro e w3 ⟨A3, c3, rfl, _, hb⟩
              have HB3 := Lib.hid (HB2.out.trans (hb.mono hz2))
              have hz3 := HB3.out.size
              have HO3 := Lib.hid ((HO2.out.below hb).alloc (.cells #[.int .i64 0, .slice A3 0 c3] 26)).top
              have HB4 := Lib.hid (HB3.out.alloc hz3 (.cells #[.int .i64 0, .slice A3 0 c3] 26))
              clear hb b0 b1 HPOp
              go_wp2
              go_roundw
              case rel => exact ⟨p + 1, A1, c1, S1, by omega, by go_num, by rw [HF.out]; go_num, by rw [HZ.out], by rw [HZ.out, HW.out]; exact HO3.out, HB4.out⟩
              case measure => simp [intOf]; omega
      · obtain rfl : p = N := by omega
        have hle : decide ((p : Int) + 1 ≤ (p : Int)) = false := decide_eq_false (by omega)
        go_wp2
        go_ret2
        exact ⟨A1, c1, _, S1, rfl, HO.out.mono z1, HB.out.trans (HBk.out.mono z1)⟩
end Go.Proofs.Ytmlkccihpkpjfaa
