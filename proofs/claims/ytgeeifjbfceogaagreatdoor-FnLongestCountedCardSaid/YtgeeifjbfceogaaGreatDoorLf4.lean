/- The contract of the program's LeastLadder. -/
import Derived.Test.YtgeeifjbfceogaaGreatDoorMgQ
import Derived.Test.YtgeeifjbfceogaaGreatDoorCln
import Derived.Test.YtgeeifjbfceogaaGreatDoorMgD
import Derived.ScopeJumps
import Derived.WalkMore
import Derived.BigRegion
namespace Go.Proofs.YtgeeifjbfceogaaGreatDoor
open Go Go.RowKit

/-- a scope with one label: what stands behind the label is walked once -/
theorem wp_scope_once {P : Program} {a : Act} {w : World} {Q : Exit → Act → World → Prop} {c rest : Code} (l : Nat) (J : Act → World → Prop) (μ : Act → World → Nat) (hf : findLabel c l = some (Code.seq .skip rest))
    (pass : ∀ a w, J a w → rest.wp P (Exit.jump l (fun a' w' => J a' w' ∧ μ a' w' < μ a w) Q) a w)
    (first : (∀ a w, J a w → rest.wp P (Exit.jump l J Q) a w) → c.wp P (Exit.jump l J Q) a w) : (Code.scope c).wp P Q a w :=
  wp_scope_jumps l J μ hf (first fun a w hJ => wp_mono (pass a w hJ) fun e a' w' h => by
    cases e with
    | goto l' => exact ⟨h.1, h.2.1⟩
    | _ => exact h) fun a w hJ => wp_seq (wp_skip (pass a w hJ))
theorem firstL_lad {zs : List Int} (h2 : 2 ≤ zs.length) (h8 : zs.length ≤ 8) : lad (zs.length : Int) (firstL zs) = true := by
  rw [lad_yes (inB_true ⟨by omega, by omega⟩) (by rw [firstL_inv h8]; have := invL_le h8; omega)]
  refine allIn_true fun j hj => inB_true ?_
  have hm : gi (firstL zs) j ∈ firstL zs := mem_gi.2 ⟨j, hj, rfl⟩
  have := firstL_in _ hm
  omega
theorem clone_ri (A : Option Addr) (n c : Nat) (zs : List Int) (w : World) (h : RI w A n zs) (hn : n ≤ 1000000) (h0 : 0 < n) :
    Calls Tryz.prog 75 #[.slice A n c] w (FreshI w n zs) := by
  obtain ⟨b, off, rfl, hbw, hc⟩ := h.2 h0
  refine (slices_Clone_int b off n c zs w (by rw [h.1]; exact Nat.le_refl _) (by omega) (fun j hj => by have := hc j (by rw [← h.1]; exact hj); simpa [gi] using this)).mono ?_
  rintro e w' ⟨v', rfl, ho, _, hb⟩
  obtain ⟨A', c', rfl, ho'⟩ := OI.of_own (zs := zs) ho (by simp only [I]; rw [List.take_of_length_le (by rw [h.1]; exact Nat.le_refl _)])
  exact ⟨A', c', rfl, ho', hb⟩

set_option maxRecDepth 100000 in
set_option maxHeartbeats 8000000 in
theorem iLeastLadder_yes (A0 : Option Addr) (n c0 : Nat) (zs : List Int) (w : World) (h : RI w A0 n zs) (hn : n ≤ 1048576) (_hnc : n ≤ c0) (hq : ord zs = true) (h2 : 2 ≤ n) :
    Calls Tryz.prog 77 #[.slice A0 n c0] w (FreshLB w n (firstL zs).length (firstL zs) true) := by
  have hl := h.1
  have h8 : n ≤ 8 := by have := (ord_iff.1 hq).2.1; omega
  have HB := belAlloc (belRefl (w := w)) (.cells #[.int .i64 0, .slice none 0 0] 44)
  have HC := cellNew w (.int .i64 0) (.slice none 0 0) 44
  have HW := Lib.hid hq
  have HI := Lib.hid (ord_in8 hq)
  have HLD := Lib.hid (firstL_lad (zs := zs) (by omega) (by omega))
  rw [hl] at HLD
  have hfl := firstL_inv (zs := zs) (by omega)
  have hfl2 := invL_le (zs := zs) (by omega)
  rw [← hfl] at hfl2
  clear hq hfl
  have HFI : Hid _ := Lib.hid (iIsOrder_any A0 n c0 zs _ (h.alloc (.cells #[.int .i64 0, .slice none 0 0] 44)) (by omega))
  rw [HW.out] at HFI
  have HA := riStep (Lib.hid h) (allocBel w (.cells #[.int .i64 0, .slice none 0 0] 44))
  clear h
  go_enter Tryz.func77, Tryz.ntmps77
  go_wp2_with fail
  refine wp_scope_once 0 (fun a wj => ∃ (g c5 K1 K2 : Nat) (out cur : List Int) (f : Nat) (A3 : Option Addr) (c3 ol : Nat) (u1 u6 u7 u8 u9 u10 u11 u12 u13 u14 u15 u16 u17 u18 u19 u20 u21 u22 u23 u24 u25 u26 u27 u28 u29 u30 u31 u32 u33 u34 u35 u36 u37 u38 u39 u40 u41 u42 u43 u44 u45 u46 u47 u48 u49 u50 u51 u52 u53 u54 u55 u56 u57 u58 u59 u60 u61 : Value), a = { tmps := #[.slice A0 n c0, u1, .pointer (some ⟨w.heap.size, 0, none⟩), .bool false, .slice A3 ol c3, .slice (some ⟨g, 0, none⟩) n c5, u6, u7, u8, u9, u10, u11, u12, u13, u14, u15, u16, u17, u18, u19, u20, u21, u22, u23, u24, u25, u26, u27, u28, u29, u30, u31, u32, u33, u34, u35, u36, u37, u38, u39, u40, u41, u42, u43, u44, u45, u46, u47, u48, u49, u50, u51, u52, u53, u54, u55, u56, u57, u58, u59, u60, u61], defers := [] } ∧ ol = out.length ∧ FRel zs out cur f ∧ OI wj K2 A3 ol c3 out ∧ OI wj K1 (some ⟨g, 0, none⟩) n c5 cur ∧ Below w.heap.size w wj ∧ Cell2 wj w.heap.size (.int .i64 0) (.slice none 0 0) ∧ w.heap.size < K1 ∧ K1 ≤ g ∧ g < K2 ∧ K2 ≤ wj.heap.size) (fun a _ => 700 - lenOf2 (a.tmps.getD 4 undef)) rfl ?_ ?_
  · rintro a wj ⟨g, c5, K1, K2, out, cur, f, A3, c3, _, u1, u6, u7, u8, u9, u10, u11, u12, u13, u14, u15, u16, u17, u18, u19, u20, u21, u22, u23, u24, u25, u26, u27, u28, u29, u30, u31, u32, u33, u34, u35, u36, u37, u38, u39, u40, u41, u42, u43, u44, u45, u46, u47, u48, u49, u50, u51, u52, u53, u54, u55, u56, u57, u58, u59, u60, u61, rfl, rfl, hf, ho, hc, hb, hcl, hk1, hkg, hgk, hkz⟩
    have HF := Lib.hid hf
    have HO := Lib.hid ho
    have HR := Lib.hid hc
    have HBB := Lib.hid hb
    have CL := Lib.hid hcl
    have hcl : cur.length = n := by rw [hf.len, hl]
    have hol : out.length ≤ 600 := by have := hf.cnt; omega
    have HCC := Lib.hid hc.cells
    have HFR : Hid (∀ j, wj.frozen? ⟨g, j, none⟩ = false) := hc.2.frozenAt
    clear hf ho hc hb HFI HB HC HA
    go_wp2_with fail
    go_loopw [4, 6, 21] (fun s4 _ i wi => ∃ k m : Nat, wi = wj.drewN m ∧ i = .int .i64 (k : Int) ∧ s4 = .slice A3 out.length c3 ∧ k + 1 ≤ n ∧ fdsc cur k = none) (fun _ _ i _ => n - (intOf i).toNat)
    case atStart => exact ⟨0, 0, rfl, rfl, rfl, by omega, rfl⟩
    case round =>
      obtain ⟨k, m, rfl, rfl, rfl, hk, hq⟩ := hrel
      have HQ := Lib.hid hq
      clear hq
      by_cases hlt : k + 1 < n
      · have hck := HCC.out k (by omega)
        have hcp := HCC.out (k + 1) hlt
        by_cases hd : gi cur (k + 1) < gi cur k
        · have HD := Lib.hid hd
          have fk := HFR.out k
          have fk1 := HFR.out (k + 1)
          obtain ⟨f2, hf2, hi1, HN⟩ := HF.out.step (i := k) (by rw [hcl]; exact fdsc_to (fdsc_yes HQ.out hd) (by omega))
          have HN := Lib.hid HN
          clear hf2
          have HO1 : Hid (OI ((wj.setCell ⟨g, k, none⟩ (.int .i64 (gi cur (k + 1)))).setCell ⟨g, k + 1, none⟩ (.int .i64 (gi cur k))) K2 A3 out.length c3 out) := (HO.out.setBelow hgk _).setBelow hgk _
          have HC1 : Hid (OI ((wj.setCell ⟨g, k, none⟩ (.int .i64 (gi cur (k + 1)))).setCell ⟨g, k + 1, none⟩ (.int .i64 (gi cur k))) K1 (some ⟨g, 0, none⟩) n c5 (exch cur k)) := (HR.out.stored k _).stored (k + 1) _
          go_wp2
          go_quiet (fail)
          clear hd
          go_wp2
          go_region
          all_goals
            go_wp2_with (at_builtin; go_loud (refine wpList_append_int _ rfl _ _ rfl K2 A3 out.length c3 _ (k : Int) _ rfl rfl (OI.alloc (by exact HO1.out) _) (cellNewAt _ _ _ (by simp)) (by omega) (by simp; omega) ?_); intro A2 c2 w2 ho2 hg2; have HO2 := Lib.hid ho2; have HG2 := Lib.hid hg2; clear ho2 hg2)
            have HK : Hid (Below K1 wj w2) := by
              refine Below.grown ?_ HG2.out ?_ (fun b hb => by have := (HO.out.blk b hb).1; omega)
              · repeat (first | exact Below.refl _ _ | refine Below.setCell ?_ hkg _ | refine Below.alloc ?_ (by simp; omega) _ | refine below_drewN ?_ _)
              · simp; omega
            have HC2 : Hid (OI w2 K1 (some ⟨g, 0, none⟩) n c5 (exch cur k)) := by
              refine OI.kept (OI.alloc (by exact HC1.out) _) HG2.out (fun b hb e => ?_)
              simp [blk] at hb
              have := (HO.out.blk b e).1
              omega
            have HB2 : Hid (Below w.heap.size w w2) := HBB.out.trans (HK.out.mono (by omega))
            have CL2 := cellBelow CL hk1 HK.out
            have hz2 := HK.out.size
            go_step3
            exact ⟨rfl, ⟨g, c5, K1, K2, out ++ [(k : Int)], exch cur k, f2, A2, c2, out.length + 1, _, _, _, _, _, _, _, _, _, _, _, _, _, _, _, _, _, _, _, _, _, _, _, _, _, _, _, _, _, _, _, _, _, _, _, _, _, _, _, _, _, _, _, _, _, _, _, _, _, _, _, _, _, _, _, _, _, rfl, by simp, HN.out, HO2.out, HC2.out, HB2.out, CL2.out, hk1, hkg, hgk, by omega⟩, by simp [lenOf2]; omega⟩
        · have HD := Lib.hid hd
          have hd1 : gi cur k ≤ gi cur (k + 1) := by omega
          go_wp2
          go_quiet (fail)
          go_wp2
          go_roundw
          case rel => exact ⟨k + 1, m + nq, by first | rfl | rw [World.drewN_drewN], by go_num, rfl, hlt, fdsc_no HQ.out (by have := HD.out; omega)⟩
          case measure => simp [intOf]; omega
      · have e := HF.out.stop (by rw [hcl, show n - 1 = k by omega]; exact HQ.out)
        subst e
        have CLD : Hid (Cell2 (wj.drewN m) w.heap.size (.int .i64 0) (.slice none 0 0)) := ⟨CL.out.c0, CL.out.c1, CL.out.f0, CL.out.f1, CL.out.lt⟩
        have HBD : Hid (Below w.heap.size w (wj.drewN m)) := below_drewN HBB.out m
        have hz := CL.out.lt
        have HLO := Lib.hid (ladderOf_one n A3 (firstL zs).length c3 (firstL zs) (wj.drewN m) (HO.out.ri.drewN m) (by omega) HLD.out)
        go_wp2_with fail
        refine HLO.out.mono ?_
        rintro e w3 ⟨A7, c7, rfl, o7, hb⟩
        have HB := belStep (belAlloc HBD _) hb
        have HC := cellStep (cellAlloc CLD _) hb
        have O7 : Hid (OI w3 w.heap.size A7 (firstL zs).length c7 (firstL zs)) := o7.mono (by simp; omega)
        have O8 := Lib.hid o7
        have k0 := HC.out.c0; have k1 := HC.out.c1; have f0 := HC.out.f0; have f1 := HC.out.f1; have hz3 := HC.out.lt
        have hs3 : w.heap.size < ((wj.drewN m).alloc (.cells #[.slice A3 (firstL zs).length c3] 22)).heap.size := by simp; omega
        clear hb o7
        go_wp2
        try simp only [Exit.jump]
        exact bodyPost_ret (v := .tuple #[.agg #[.int .i64 n, .slice A7 (firstL zs).length c7], .bool true]) (by simp [results, Tryz.results77, go_sem, k0, k1]) rfl
          ⟨A7, c7, rfl, ((O8.out.setBelow hs3 _).setBelow hs3 _).mono (Nat.le_of_lt hs3), (by repeat (first | exact Below.refl _ _ | exact HB.out | refine Below.setCell ?_ (by simp <;> omega) _ | refine Below.alloc ?_ (by simp <;> omega) _ | refine below_drewN ?_ _))⟩
  · intro hrest
    go_wp2_with (first
      | (go_at_call 68; refine HFI.out.mono ?_; rintro e w1 ⟨rfl, hb⟩; replace HB := belStep HB hb; replace HC := cellStep HC hb; replace HA := riStep HA hb; clear hb)
      | (go_at_call 75; refine (clone_ri A0 n c0 zs _ HA.out (by omega) (by omega)).mono ?_; rintro e w2 ⟨A5, c5, rfl, o5, hb⟩; have HL0 := Lib.hid HC.out.lt; replace HB := belStep HB hb; replace HC := cellStep HC hb; have HO5 := Lib.hid o5; clear hb o5))
    go_step3
    rename_i hk9
    refine hk9 _ _ (hrest _ _ ?_)
    rcases HO5.out.form with ⟨_, _, h0⟩ | ⟨g, _, rfl, hBg, hgw, _⟩
    · omega
    exact ⟨g, c5, _, w2.heap.size, [], zs, 600, none, 0, 0, _, _, _, _, _, _, _, _, _, _, _, _, _, _, _, _, _, _, _, _, _, _, _, _, _, _, _, _, _, _, _, _, _, _, _, _, _, _, _, _, _, _, _, _, _, _, _, _, _, _, _, _, _, _, _, _, _, rfl, rfl, FRel.start HI.out, OI.none_ _ _, HO5.out, HB.out, HC.out, HL0.out, hBg, hgw, Nat.le_refl _⟩

set_option maxRecDepth 100000 in
set_option maxHeartbeats 4000000 in
theorem iLeastLadder_any (A0 : Option Addr) (n c0 : Nat) (zs : List Int) (w : World) (h : RI w A0 n zs) (hn : n ≤ 1048576) (hnc : n ≤ c0) :
    Calls Tryz.prog 77 #[.slice A0 n c0] w (FreshLB w (leastW zs) (leastL zs).length (leastL zs) (leastB zs)) := by
  have hl := h.1
  by_cases hz : ord zs = true ∧ 2 ≤ n
  · have e := leastB_yes hz.1 (by omega)
    rw [(leastN_yes e).1, (leastN_yes e).2, e, hl]
    exact iLeastLadder_yes A0 n c0 zs w h hn hnc hz.1 hz.2
  · have HB := belAlloc (belRefl (w := w)) (.cells #[.int .i64 0, .slice none 0 0] 44)
    have HC := cellNew w (.int .i64 0) (.slice none 0 0) 44
    have HFI := Lib.hid (iIsOrder_any A0 n c0 zs _ (h.alloc (.cells #[.int .i64 0, .slice none 0 0] 44)) (by omega))
    rcases hq : ord zs with _ | _
    · have e := leastB_no1 hq
      rw [(leastN_no e).1, (leastN_no e).2, e]
      rw [hq] at HFI
      clear hq e hz h
      go_enter Tryz.func77, Tryz.ntmps77
      go_wp2_with fail
      go_step3
      go_wp2_with (go_at_call 68; refine HFI.out.mono ?_; rintro e w1 ⟨rfl, hb⟩; replace HB := belStep HB hb; replace HC := cellStep HC hb; have k0 := HC.out.c0; have k1 := HC.out.c1; have f0 := HC.out.f0; have f1 := HC.out.f1; have hz := HC.out.lt; clear hb)
      try rw [Exit.noGoto_ret]
      exact bodyPost_ret (v := .tuple #[.agg #[.int .i64 0, .slice none 0 0], .bool false]) (by simp [results, Tryz.results77, go_sem, k0, k1]) rfl ⟨none, 0, rfl, OI.none_ _ _, (by repeat (first | exact Below.refl _ _ | exact HB.out | refine Below.setCell ?_ (by simp <;> omega) _ | refine Below.alloc ?_ (by simp <;> omega) _ | refine below_drewN ?_ _))⟩
    · have h2 : n < 2 := by
        rcases Nat.lt_or_ge n 2 with g | g
        · exact g
        · exact absurd ⟨hq, g⟩ hz
      have e := leastB_no2 (show zs.length < 2 by omega)
      rw [(leastN_no e).1, (leastN_no e).2, e]
      rw [hq] at HFI
      clear hq e hz h
      go_enter Tryz.func77, Tryz.ntmps77
      go_wp2_with fail
      go_step3
      go_wp2_with (go_at_call 68; refine HFI.out.mono ?_; rintro e w1 ⟨rfl, hb⟩; replace HB := belStep HB hb; replace HC := cellStep HC hb; have k0 := HC.out.c0; have k1 := HC.out.c1; have f0 := HC.out.f0; have f1 := HC.out.f1; have hz := HC.out.lt; clear hb)
      try rw [Exit.noGoto_ret]
      exact bodyPost_ret (v := .tuple #[.agg #[.int .i64 0, .slice none 0 0], .bool false]) (by simp [results, Tryz.results77, go_sem, k0, k1]) rfl ⟨none, 0, rfl, OI.none_ _ _, (by repeat (first | exact Below.refl _ _ | exact HB.out | refine Below.setCell ?_ (by simp <;> omega) _ | refine Below.alloc ?_ (by simp <;> omega) _ | refine below_drewN ?_ _))⟩
end Go.Proofs.YtgeeifjbfceogaaGreatDoor
