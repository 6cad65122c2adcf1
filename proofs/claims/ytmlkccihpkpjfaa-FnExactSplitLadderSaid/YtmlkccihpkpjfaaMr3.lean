/- Taking out a start: the contracts of rungsWithout and of TakeStart. -/
import Derived.Test.YtmlkccihpkpjfaaMr2
namespace Go.Proofs.Ytmlkccihpkpjfaa
open Go Go.RowKit

set_option maxRecDepth 100000 in
set_option maxHeartbeats 2000000 in
theorem rungsWithout_any (A : Option Addr) (n c : Nat) (zs : List Int) (s : Int) (w : World) (h : RI w A n zs) (hn : n ≤ 1048576) (hw : Wires zs s) :
    Calls Try.prog 44 #[.slice A n c, .int .i64 s] w (FreshI w (tsL zs s).length (tsL zs s)) := by
  have hl := h.1
  have H := Lib.hid h
  unfold tsL
  rw [hl]
  have HWI := Lib.hid hw
  clear h hw
  go_enter Try.func44, Try.ntmps44
  go_wp2_with fail
  refine (wayDown_any A n c zs s w H.out hn HWI.out).mono ?_
  rintro e w2 ⟨A2, c2, rfl, ho, hb⟩
  obtain ⟨g, rfl, _, hg, hcg⟩ := ho.some_
  have HG := Lib.hid hcg
  have HB := Lib.hid hb
  have H2 := Lib.hid (H.out.below hb (Nat.le_refl _))
  have HZ := Lib.hid hb.size
  clear ho hcg hb
  go_wp2
  go_loopw [5, 7, 8, 9, 15] (fun v _ _ _ i wr => ∃ (k : Nat) (A1 : Option Addr) (c1 : Nat), k ≤ n ∧ i = .int .i64 k ∧ v = .slice A1 (tsR zs s k).length c1 ∧ OI wr w2.heap.size A1 (tsR zs s k).length c1 (tsR zs s k) ∧ Below w2.heap.size w2 wr) (fun _ _ _ _ i _ => n - (intOf i).toNat)
  case atStart => exact ⟨0, none, 0, Nat.zero_le _, rfl, rfl, OI.none_ _ _, Below.refl _ _⟩
  case round =>
    obtain ⟨k, A1, c1, hk, rfl, rfl, ho, hb⟩ := hrel
    have HO := Lib.hid ho
    have HR := Lib.hid hb
    have hul := tsR_len zs s k
    by_cases hlt : k < n
    · obtain ⟨b, off, rfl, hbw, hc⟩ := H2.out.cell hlt
      have hck : wr.cell? ⟨b, off + k, none⟩ = some (.int .i64 (gi zs k)) := (hb.cell (p := ⟨b, off + k, none⟩) hbw).trans (hc k hlt)
      have ck : wr.cell? ⟨g, k, none⟩ = some (.int .i64 (at_ zs s k)) := (hb.cell (p := ⟨g, k, none⟩) hg).trans (by rw [HG.out k (by omega), gi_down _ _ _ (by omega)])
      have g1 := HWI.out.rung (k := k) (by omega)
      have g2 := HWI.out.at (k := k) (by omega)
      have hbs := hb.size
      have i1 : (k : Int) < (n : Int) + 1 := by omega
      clear hc ho hb
      by_cases h1 : at_ zs s k < gi zs k
      · have HT := Lib.hid (ts_left h1)
        have HTL : Hid ((tsR zs s k).length + 1 = (tsR zs s (k + 1)).length) := by show _ = _; rw [HT.out]; simp
        obtain ⟨a, ha⟩ : ∃ a, a = at_ zs s k := ⟨_, rfl⟩
        obtain ⟨r, hr⟩ : ∃ r, r = gi zs k := ⟨_, rfl⟩
        rw [← ha, ← hr] at h1
        rw [← hr] at hck g1
        rw [← ha] at g2 ck
        have HRR := Lib.hid hr
        have hwr : IntKind.i64.wrap (r - 1) = r - 1 := IntWalk.i64_in _ (by omega)
        clear ha hr
        go_wp2_with (at_builtin; refine wpList_append_int _ rfl _ _ rfl w2.heap.size A1 (tsR zs s k).length c1 _ (r - 1) wr.heap.size rfl rfl (HO.out.alloc _) (by simp) (by omega) (by simp; omega) ?_; intro A3 c3 w3 ho3 hg3)
        go_roundw
        case rel =>
          refine ⟨k + 1, A3, c3, by omega, by go_num, by rw [← HTL.out], ?_, belStep' HR HO.out hg3⟩
          rw [← HTL.out, HT.out, ← HRR.out]; exact ho3
        case measure => simp [intOf]; omega
      · by_cases h2 : gi zs k + 1 < at_ zs s k
        · have HT := Lib.hid (ts_right h2)
          have HTL : Hid ((tsR zs s k).length + 1 = (tsR zs s (k + 1)).length) := by show _ = _; rw [HT.out]; simp
          obtain ⟨a, ha⟩ : ∃ a, a = at_ zs s k := ⟨_, rfl⟩
          obtain ⟨r, hr⟩ : ∃ r, r = gi zs k := ⟨_, rfl⟩
          rw [← ha, ← hr] at h2
          rw [← hr] at hck g1
          rw [← ha] at g2 ck
          have HRR := Lib.hid hr
          have e4 : r ≤ a := by omega
          clear ha hr h1
          go_wp2_with (at_builtin; refine wpList_append_int _ rfl _ _ rfl w2.heap.size A1 (tsR zs s k).length c1 _ r wr.heap.size rfl rfl (HO.out.alloc _) (by simp) (by omega) (by simp; omega) ?_; intro A3 c3 w3 ho3 hg3)
          go_roundw
          case rel =>
            refine ⟨k + 1, A3, c3, by omega, by go_num, by rw [← HTL.out], ?_, belStep' HR HO.out hg3⟩
            rw [← HTL.out, HT.out, ← HRR.out]; exact ho3
          case measure => simp [intOf]; omega
        · have HT := Lib.hid (ts_same (zs := zs) (s := s) (k := k) (by omega))
          obtain ⟨a, ha⟩ : ∃ a, a = at_ zs s k := ⟨_, rfl⟩
          obtain ⟨r, hr⟩ : ∃ r, r = gi zs k := ⟨_, rfl⟩
          rw [← ha, ← hr] at h1 h2
          rw [← hr] at hck g1
          rw [← ha] at g2 ck
          have e4 : r ≤ a := by omega
          have e5 : a ≤ r + 1 := by omega
          clear ha hr h1 h2
          go_wp2
          go_roundw
          case rel => exact ⟨k + 1, A1, c1, by omega, by go_num, by rw [HT.out], by rw [HT.out]; exact HO.out, HR.out⟩
          case measure => simp [intOf]; omega
    · obtain rfl : k = n := by omega
      clear ho hb
      go_wp2
      go_ret
      exact ⟨A1, c1, rfl, HO.out.mono HZ.out, HB.out.trans (HR.out.mono HZ.out)⟩

theorem ts_len1000 (W : Int) (zs : List Int) (s : Int) : (ifL (tsB W zs s) (tsL zs s)).length ≤ 1000 := by
  unfold ifL
  split
  · rename_i h
    have := (lad_iff.1 (ts_lad h)).2.1
    omega
  · simp

set_option maxRecDepth 100000 in
set_option maxHeartbeats 4000000 in
theorem iTakeStart_any (W : Int) (A : Option Addr) (n c : Nat) (zs : List Int) (s : Int) (w : World) (h : RI w A n zs) (hn : n ≤ 1048576) :
    Calls Try.prog 14 #[.agg #[.int .i64 W, .slice A n c], .int .i64 s] w (FreshLB w (ifW (tsB W zs s) (W - 1)) (ifL (tsB W zs s) (tsL zs s)).length (ifL (tsB W zs s) (tsL zs s)) (tsB W zs s)) := by
  have hl := h.1
  have HA := boxAlloc (boxNew (W := W) (c := c) 26 h) (.cells #[.int .i64 0, .slice none 0 0] 26)
  have HB := belAlloc (belAlloc (belRefl (w := w)) (.cells #[.int .i64 W, .slice A n c] 26)) (.cells #[.int .i64 0, .slice none 0 0] 26)
  have HC := cellNew (w.alloc (.cells #[.int .i64 W, .slice A n c] 26)) (.int .i64 0) (.slice none 0 0) 26
  simp only [World.size_alloc] at HC
  have HI := Lib.hid (fun w2 (r : RI w2 A n zs) => isStart_any W A n c zs s w2 r hn)
  rcases hq : wire W zs s with _ | _
  · have e : tsB W zs s = false := by unfold tsB; rw [hq]; rfl
    rw [e, ifW_no, ifL_no]
    rw [hq] at HI
    clear hq h e
    go_enter Try.func14, Try.ntmps14
    go_wp2_with fail
    refine (HI.out _ HA.out.ri).mono ?_
    rintro e w1 ⟨rfl, hb⟩
    replace HB := belStep HB hb
    replace HC := cellStep HC hb
    have k0 := HC.out.c0; have k1 := HC.out.c1; have f0 := HC.out.f0; have f1 := HC.out.f1; have hz := HC.out.lt
    clear hb
    go_wp2
    exact bodyPost_ret (v := .tuple #[.agg #[.int .i64 0, .slice none 0 0], .bool false]) (by simp [results, Try.results14, go_sem, k0, k1]) rfl ⟨none, 0, rfl, OI.none_ _ _, (by repeat (first | exact Below.refl _ _ | exact HB.out | refine Below.setCell ?_ (by simp <;> omega) _ | refine Below.alloc ?_ (by simp <;> omega) _ | refine below_drewN ?_ _))⟩
  · rw [hq] at HI
    have hw := wire_iff.1 hq
    have hW := (lad_iff.1 hw.1).1
    have hn60 : n ≤ 60 := by have := (lad_iff.1 hw.1).2.1; omega
    by_cases h3 : W < 3
    · have e : tsB W zs s = false := by unfold tsB; rw [decide_eq_false (by omega)]; simp
      rw [e, ifW_no, ifL_no]
      clear hq h e
      go_enter Try.func14, Try.ntmps14
      go_wp2_with fail
      refine (HI.out _ HA.out.ri).mono ?_
      rintro e w1 ⟨rfl, hb⟩
      replace HA := boxStep HA hb; replace HB := belStep HB hb; replace HC := cellStep HC hb
      have a0 := HA.out.c0; have a1 := HA.out.c1; have az := HA.out.lt
      have k0 := HC.out.c0; have k1 := HC.out.c1; have f0 := HC.out.f0; have f1 := HC.out.f1; have hz := HC.out.lt
      clear hb
      go_wp2
      exact bodyPost_ret (v := .tuple #[.agg #[.int .i64 0, .slice none 0 0], .bool false]) (by simp [results, Try.results14, go_sem, k0, k1]) rfl ⟨none, 0, rfl, OI.none_ _ _, (by repeat (first | exact Below.refl _ _ | exact HB.out | refine Below.setCell ?_ (by simp <;> omega) _ | refine Below.alloc ?_ (by simp <;> omega) _ | refine below_drewN ?_ _))⟩
    · have e : tsB W zs s = true := by unfold tsB; rw [hq, decide_eq_true (by omega)]; rfl
      have HL2 := Lib.hid (ts_lad e)
      have hln := tsL_len zs s
      rw [e, ifW_yes, ifL_yes]
      have HWI := Lib.hid (Wires.of hq)
      have HRW := Lib.hid (fun w2 (r : RI w2 A n zs) => rungsWithout_any A n c zs s w2 r hn HWI.out)
      obtain ⟨L, hL⟩ : ∃ L, L = tsL zs s := ⟨_, rfl⟩
      rw [← hL] at HRW HL2 hln ⊢
      obtain ⟨V, hV⟩ : ∃ V, V = W - 1 := ⟨_, rfl⟩
      have hwr : IntKind.i64.wrap (W - 1) = V := by rw [IntWalk.i64_in _ (by omega), hV]
      rw [← hV] at HL2 ⊢
      clear hq h e hL hw
      go_enter Try.func14, Try.ntmps14
      go_wp2_with fail
      refine (HI.out _ HA.out.ri).mono ?_
      rintro e w1 ⟨rfl, hb⟩
      replace HA := boxStep HA hb; replace HB := belStep HB hb; replace HC := cellStep HC hb
      have a0 := HA.out.c0; have a1 := HA.out.c1; have az := HA.out.lt
      have hz1 := HC.out.lt
      clear hb
      have HV := Lib.hid hV
      clear hV
      go_wp2_with fail
      have HD := boxDrew HA; have HBD := belDrew HB; have HCD := cellDrew HC
      go_region_held3 (fun w' => w'.cell? ⟨w.heap.size, 0, none⟩ = some (.int .i64 W) ∧ w'.cell? ⟨w.heap.size, 1, none⟩ = some (.slice A n c))
        (first | exact ⟨HA.out.c0, HA.out.c1⟩ | exact ⟨HA6.out.c0, HA6.out.c1⟩ | exact ⟨(boxAlloc HA6 _).out.c0, (boxAlloc HA6 _).out.c1⟩ | exact ⟨HA7.out.c0, HA7.out.c1⟩ | exact ⟨(World.cell?_setCell_other _ _ _ _ (by simp)).trans ((World.cell?_setCell_other _ _ _ _ (by simp)).trans HA7.out.c0), (World.cell?_setCell_other _ _ _ _ (by simp)).trans ((World.cell?_setCell_other _ _ _ _ (by simp)).trans HA7.out.c1)⟩)
        (first
          | (go_at_call 44; refine (HRW.out _ HD.out.ri).mono ?_; rintro e w6 ⟨A6, c6, rfl, o6, hb⟩; have HA6 := boxStep HD hb; have HB6 := belStep HBD hb; have HC6 := cellStep HCD hb; have O6 := Lib.hid o6; have hz6 : w1.heap.size ≤ w6.heap.size := hb.size; clear hb o6)
          | (go_at_call 43; refine (ladderOf_one V A6 _ c6 L w6 O6.out.ri (by omega) HL2.out).mono ?_; rintro e w7 ⟨A7, c7, rfl, o7, hb⟩; have HA7 := boxStep (boxAlloc HA6 _) hb; have HB7 := belStep (belAlloc HB6 _) hb; have HC7 := cellStep (cellAlloc HC6 _) hb; have O7 : Hid (OI w7 w1.heap.size A7 L.length c7 L) := o7.mono (by simp; omega); have k0 := HC7.out.c0; have k1 := HC7.out.c1; have f0 := HC7.out.f0; have f1 := HC7.out.f1; clear hb o7))
      have HB := HB7
      go_wp2
      have k0 := HC7.out.c0
      have k1 := HC7.out.c1
      have hz := HC7.out.lt
      exact bodyPost_ret (v := .tuple #[.agg #[.int .i64 V, .slice A7 L.length c7], .bool true]) (by simp [results, Try.results14, go_sem, k0, k1]) rfl
        ⟨A7, c7, rfl, ((O7.out.setBelow (show w.heap.size + 1 < w1.heap.size by omega) _).setBelow (show w.heap.size + 1 < w1.heap.size by omega) _).mono (by omega), (by repeat (first | exact Below.refl _ _ | exact HB.out | refine Below.setCell ?_ (by simp <;> omega) _ | refine Below.alloc ?_ (by simp <;> omega) _ | refine below_drewN ?_ _))⟩

set_option maxRecDepth 100000 in
set_option maxHeartbeats 4000000 in
theorem sTakeStart_any (W : Int) (A : Option Addr) (n c : Nat) (zs : List Int) (s : Int) (w : World) (h : RI w A n zs) (hn : n ≤ 1048576) :
    Calls Try.prog 12 #[.agg #[.int .i64 W, .slice A n c], .int .i64 s] w (FreshLB w (ifW (tsB W zs s) (W - 1)) (ifL (tsB W zs s) (tsL zs s)).length (ifL (tsB W zs s) (tsL zs s)) (tsB W zs s)) := by
  have hl := h.1
  have HA := boxAlloc (boxNew (W := W) (c := c) 26 h) (.cells #[.int .i64 0, .slice none 0 0] 26)
  have HB := belAlloc (belAlloc (belRefl (w := w)) (.cells #[.int .i64 W, .slice A n c] 26)) (.cells #[.int .i64 0, .slice none 0 0] 26)
  have HC := cellNew (w.alloc (.cells #[.int .i64 W, .slice A n c] 26)) (.int .i64 0) (.slice none 0 0) 26
  simp only [World.size_alloc] at HC
  have HI := Lib.hid (fun w2 (r : RI w2 A n zs) => laWire_any W A n c zs s w2 r hn)
  rcases hq : wire W zs s with _ | _
  · have e : tsB W zs s = false := by unfold tsB; rw [hq]; rfl
    rw [e, ifW_no, ifL_no]
    rw [hq] at HI
    clear hq h e
    go_enter Try.func12, Try.ntmps12
    go_wp2_with fail
    refine (HI.out _ HA.out.ri).mono ?_
    rintro e w1 ⟨rfl, hb⟩
    replace HB := belStep HB hb
    replace HC := cellStep HC hb
    have k0 := HC.out.c0; have k1 := HC.out.c1; have f0 := HC.out.f0; have f1 := HC.out.f1; have hz := HC.out.lt
    clear hb
    go_wp2
    exact bodyPost_ret (v := .tuple #[.agg #[.int .i64 0, .slice none 0 0], .bool false]) (by simp [results, Try.results12, go_sem, k0, k1]) rfl ⟨none, 0, rfl, OI.none_ _ _, (by repeat (first | exact Below.refl _ _ | exact HB.out | refine Below.setCell ?_ (by simp <;> omega) _ | refine Below.alloc ?_ (by simp <;> omega) _ | refine below_drewN ?_ _))⟩
  · rw [hq] at HI
    have hw := wire_iff.1 hq
    have hW := (lad_iff.1 hw.1).1
    by_cases h3 : W < 3
    · have e : tsB W zs s = false := by unfold tsB; rw [decide_eq_false (by omega)]; simp
      rw [e, ifW_no, ifL_no]
      clear hq h e
      go_enter Try.func12, Try.ntmps12
      go_wp2_with fail
      refine (HI.out _ HA.out.ri).mono ?_
      rintro e w1 ⟨rfl, hb⟩
      replace HA := boxStep HA hb; replace HB := belStep HB hb; replace HC := cellStep HC hb
      have a0 := HA.out.c0; have a1 := HA.out.c1; have az := HA.out.lt
      have k0 := HC.out.c0; have k1 := HC.out.c1; have f0 := HC.out.f0; have f1 := HC.out.f1; have hz := HC.out.lt
      clear hb
      go_wp2
      exact bodyPost_ret (v := .tuple #[.agg #[.int .i64 0, .slice none 0 0], .bool false]) (by simp [results, Try.results12, go_sem, k0, k1]) rfl ⟨none, 0, rfl, OI.none_ _ _, (by repeat (first | exact Below.refl _ _ | exact HB.out | refine Below.setCell ?_ (by simp <;> omega) _ | refine Below.alloc ?_ (by simp <;> omega) _ | refine below_drewN ?_ _))⟩
    · have e : tsB W zs s = true := by unfold tsB; rw [hq, decide_eq_true (by omega)]; rfl
      rw [e, ifW_yes, ifL_yes]
      have HWI := Lib.hid (Wires.of hq)
      have HRW := Lib.hid (fun w2 (r : RI w2 A n zs) => mrTake_any A n c zs s w2 r hn HWI.out)
      obtain ⟨L, hL⟩ : ∃ L, L = tsL zs s := ⟨_, rfl⟩
      rw [← hL] at HRW ⊢
      obtain ⟨V, hV⟩ : ∃ V, V = W - 1 := ⟨_, rfl⟩
      have hwr : IntKind.i64.wrap (W - 1) = V := by rw [IntWalk.i64_in _ (by omega), hV]
      rw [← hV]
      clear hq h e hL hw
      go_enter Try.func12, Try.ntmps12
      go_wp2_with fail
      refine (HI.out _ HA.out.ri).mono ?_
      rintro e w1 ⟨rfl, hb⟩
      replace HA := boxStep HA hb; replace HB := belStep HB hb; replace HC := cellStep HC hb
      have a0 := HA.out.c0; have a1 := HA.out.c1; have az := HA.out.lt
      have hz1 := HC.out.lt
      clear hb
      have HV := Lib.hid hV
      clear hV
      go_wp2_with fail
      have HD := boxDrew HA; have HBD := belDrew HB; have HCD := cellDrew HC
      go_region_held3 (fun w' => w'.cell? ⟨w.heap.size, 0, none⟩ = some (.int .i64 W) ∧ w'.cell? ⟨w.heap.size, 1, none⟩ = some (.slice A n c))
        (first | exact ⟨HA.out.c0, HA.out.c1⟩ | exact ⟨HA6.out.c0, HA6.out.c1⟩ | exact ⟨(World.cell?_setCell_other _ _ _ _ (by simp)).trans ((World.cell?_setCell_other _ _ _ _ (by simp)).trans HA6.out.c0), (World.cell?_setCell_other _ _ _ _ (by simp)).trans ((World.cell?_setCell_other _ _ _ _ (by simp)).trans HA6.out.c1)⟩)
        (first
          | (go_at_call 41; refine (HRW.out _ HD.out.ri).mono ?_; rintro e w6 ⟨A6, c6, rfl, o6, hb⟩; have HA6 := boxStep HD hb; have HB6 := belStep HBD hb; have HC6 := cellStep HCD hb; have O6 : Hid (OI w6 w1.heap.size A6 L.length c6 L) := o6; have k0 := HC6.out.c0; have k1 := HC6.out.c1; have f0 := HC6.out.f0; have f1 := HC6.out.f1; have hz6 : w1.heap.size ≤ w6.heap.size := hb.size; clear hb o6))
      have HB := HB6
      go_wp2
      have k0 := HC6.out.c0
      have k1 := HC6.out.c1
      have hz := HC6.out.lt
      exact bodyPost_ret (v := .tuple #[.agg #[.int .i64 V, .slice A6 L.length c6], .bool true]) (by simp [results, Try.results12, go_sem, k0, k1]) rfl
        ⟨A6, c6, rfl, ((O6.out.setBelow (show w.heap.size + 1 < w1.heap.size by omega) _).setBelow (show w.heap.size + 1 < w1.heap.size by omega) _).mono (by omega), (by repeat (first | exact Below.refl _ _ | exact HB.out | refine Below.setCell ?_ (by simp <;> omega) _ | refine Below.alloc ?_ (by simp <;> omega) _ | refine below_drewN ?_ _))⟩
end Go.Proofs.Ytmlkccihpkpjfaa
