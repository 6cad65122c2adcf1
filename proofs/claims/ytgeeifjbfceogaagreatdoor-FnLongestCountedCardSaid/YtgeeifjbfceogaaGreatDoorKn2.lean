/- The law FnLongestCounted, gone through. -/
import Derived.Test.YtgeeifjbfceogaaGreatDoorKn5
import Derived.Test.YtgeeifjbfceogaaGreatDoorKn6
import Derived.Test.YtgeeifjbfceogaaGreatDoorCu10
import Derived.Test.YtgeeifjbfceogaaGreatDoorCb6
import Derived.Test.YtgeeifjbfceogaaGreatDoorStP
namespace Go.Proofs.YtgeeifjbfceogaaGreatDoor
open Go Go.RowKit

theorem globStep {wi wj : World} (h : Hid (Glob wi)) (hb : Below wi.heap.size wi wj) : Hid (Glob wj) := h.out.below hb

set_option maxRecDepth 100000 in
set_option maxHeartbeats 40000000 in
theorem lawLongestCounted_of (A : Option Addr) (n c : Nat) (bs : List Int) (A2 : Option Addr) (n2 c2 : Nat) (w : World) (h : BI w A n bs) (hn : n ≤ 1048576) (hn2 : n2 ≤ 1048576) (hbig : bigB n n2 = false) (hG : Glob w) :
    Calls Tryz.prog 10 #[.slice A n c, .slice A2 n2 c2] w (RetB true w) := by
  have HG := Lib.hid hG
  have HBG := Lib.hid hbig
  have HC := Lib.hid h
  have HB := belRefl (w := w)
  clear h hG hbig
  go_enter Tryz.func10, Tryz.ntmps10
  go_wp2_with fail
  refine (big_any A n c A2 n2 c2 _ (by omega) (by omega)).mono ?_
  rw [HBG.out]
  rintro e w1 ⟨rfl, hb⟩
  replace HB := belStep HB hb; replace HG := globStep HG hb; replace HC := Lib.hid (HC.out.below hb (Nat.le_refl _))
  clear hb HBG
  go_wp2_with fail
  refine (drawCountByLength_any A n c bs _ HC.out hn).mono ?_
  rintro e w2 ⟨x, rfl, lo, hi, hb⟩
  replace HB := belStep HB hb; replace HG := globStep HG hb
  clear hb HC
  have H1 := Lib.hid (fun w2 => iCountByLength_any x w2 lo hi)
  have H2 := Lib.hid (fun w2 => sCountByLength_any x w2 lo hi)
  have H3 := Lib.hid (fun w2 => iCountAllLeast_any x w2 lo hi)
  have H4 := Lib.hid (fun w2 => sCountAllLeast_any x w2 lo hi)
  have H5 := Lib.hid (fun w2 => iLongestByFormula_any x w2 lo hi)
  have H6 := Lib.hid (fun w2 => sLongestByFormula_any x w2 lo hi)
  have HF := Lib.hid (@longFacts x)
  have HSUM : Hid ((cbL x).sum = caN x) := caN_sum x
  have HSM : Hid (∀ y ∈ cbL x, 0 ≤ y ∧ y ≤ 100000000000) := fun y hy => by
    obtain ⟨k, hk, rfl⟩ := List.getElem_of_mem hy
    have := cbL_small x k hk
    rw [gi_lt hk] at this
    omega
  have hm16 := cbL_len x
  rw [lg_cb] at H5 H6
  obtain ⟨L, hL⟩ : ∃ L, L = cbL x := ⟨_, rfl⟩
  obtain ⟨q, hq⟩ : ∃ q, q = cbQ x := ⟨_, rfl⟩
  obtain ⟨al, hal⟩ : ∃ al, al = caN x := ⟨_, rfl⟩
  obtain ⟨lg, hlg⟩ : ∃ lg, lg = lgN x := ⟨_, rfl⟩
  rw [← hL, ← hq] at H1 H2
  rw [← hal, ← hq] at H3 H4
  rw [← hlg, ← hq] at H5 H6
  rw [← hL, ← hq, ← hlg] at HF
  rw [← hL, ← hal] at HSUM
  rw [← hL] at HSM hm16
  clear hL hq hal hlg lo hi
  obtain ⟨m, hm⟩ : ∃ m, m = L.length := ⟨_, rfl⟩
  rw [← hm] at H1 H2 HF hm16
  clear hm
  go_wp2_with fail
  refine (H1.out _ HG.out).mono ?_
  rintro e w3 ⟨X1, k1, rfl, o1, hb⟩
  replace HB := belStep HB hb; replace HG := globStep HG hb
  have HX1 := Lib.hid o1.ri
  clear hb o1 H1
  go_wp2_with fail
  refine (H2.out _).mono ?_
  rintro e w4 ⟨X2, k2, rfl, o1, hb⟩
  replace HB := belStep HB hb; replace HG := globStep HG hb; replace HX1 := Lib.hid (HX1.out.below hb (Nat.le_refl _))
  have HX2 := Lib.hid o1.ri
  clear hb o1 H2
  go_wp2_with fail
  refine (H3.out _ HG.out).mono ?_
  rintro e w5 ⟨rfl, hb⟩
  replace HB := belStep HB hb; replace HG := globStep HG hb; replace HX1 := Lib.hid (HX1.out.below hb (Nat.le_refl _)); replace HX2 := Lib.hid (HX2.out.below hb (Nat.le_refl _))
  clear hb H3
  go_wp2_with fail
  refine (H4.out _).mono ?_
  rintro e w6 ⟨rfl, hb⟩
  replace HB := belStep HB hb; replace HG := globStep HG hb; replace HX1 := Lib.hid (HX1.out.below hb (Nat.le_refl _)); replace HX2 := Lib.hid (HX2.out.below hb (Nat.le_refl _))
  clear hb H4
  go_wp2_with fail
  refine (H5.out _).mono ?_
  rintro e w7 ⟨rfl, hb⟩
  replace HB := belStep HB hb; replace HG := globStep HG hb; replace HX1 := Lib.hid (HX1.out.below hb (Nat.le_refl _)); replace HX2 := Lib.hid (HX2.out.below hb (Nat.le_refl _))
  clear hb H5
  go_wp2_with fail
  refine (H6.out _).mono ?_
  rintro e w8 ⟨rfl, hb⟩
  replace HB := belStep HB hb; replace HG := globStep HG hb; replace HX1 := Lib.hid (HX1.out.below hb (Nat.le_refl _)); replace HX2 := Lib.hid (HX2.out.below hb (Nat.le_refl _))
  clear hb H6
  have b1 : (q != q) = false := by simp
  have b2 : (al != al) = false := by simp
  have b3 : (lg != lg) = false := by simp
  rcases hq : q with _ | _
  · subst hq
    go_wp2_with (go_at_call 41; refine (nSame_any X1 m k1 L X2 m k2 L _ HX1.out HX2.out (by omega) (by omega)).mono ?_; rw [eqB_self]; rintro e wb ⟨rfl, hb⟩; replace HB := belStep HB hb; clear hb)
    go_ret
    exact ⟨rfl, HB.out⟩
  · obtain ⟨N, Q, P, rfl, hN2, hN6, rfl, hQ15, hQ1, hP30, hP, hQ, hf0, hf1, hfQ, hcg, hcn⟩ := HF.out hq
    subst hq
    have HF0 := Lib.hid hf0; have HF1 := Lib.hid hf1; have HFQ := Lib.hid hfQ; have HCG := Lib.hid hcg; have HCN := Lib.hid hcn
    have i1 : IntKind.i64.wrap ((N : Int) - 1) = (N : Int) - 1 := IntWalk.i64_in _ (by omega)
    have HTL := Lib.hid (topO_len N)
    clear HF hf0 hf1 hfQ hcg hcn
    go_wp2_with (go_at_call 41; refine (nSame_any X1 (Q + 1) k1 L X2 (Q + 1) k2 L _ HX1.out HX2.out (by omega) (by omega)).mono ?_; rw [eqB_self]; rintro e wb ⟨rfl, hb⟩; replace HB := belStep HB hb; replace HG := globStep HG hb; replace HX1 := Lib.hid (HX1.out.below hb (Nat.le_refl _)); clear hb HX2)
    go_loopw [18, 19] (fun s i wr => ∃ (j : Nat) (B1 : Option Addr) (c1 : Nat), j ≤ N ∧ i = .int .i64 ((N : Int) - 1 - (j : Int)) ∧ s = .slice B1 j c1 ∧ OI wr wb.heap.size B1 j c1 ((topO N).take j) ∧ Below wb.heap.size wb wr) (fun _ i _ => (intOf i + 1).toNat)
    case atStart => exact ⟨0, none, 0, Nat.zero_le _, by simp, rfl, OI.none_ _ _, Below.refl _ _⟩
    case round =>
      obtain ⟨j, B1, c1, hj, rfl, rfl, ho, hbl⟩ := hrel
      have HO := Lib.hid ho
      have HBL := Lib.hid hbl
      have hbs := hbl.size
      clear ho hbl
      by_cases hlt : j < N
      · have HT : Hid ((topO N).take (j + 1) = (topO N).take j ++ [(N : Int) - 1 - (j : Int)]) := by
          show _ = _
          rw [take_gi (by rw [HTL.out]; exact hlt), gi_topO hlt]
        obtain ⟨v, hv⟩ : ∃ v : Int, v = (N : Int) - 1 - (j : Int) := ⟨_, rfl⟩
        rw [← hv] at HT ⊢
        have i3 : (0 : Int) ≤ v := by omega
        have i4 : IntKind.i64.wrap (v - 1) = v - 1 := IntWalk.i64_in _ (by omega)
        have HV : Hid (v - 1 = (N : Int) - 1 - ((j + 1 : Nat) : Int)) := by show _ = _; omega
        clear hv
        go_wp2_with (at_builtin; refine wpList_append_int _ rfl _ _ rfl wb.heap.size B1 j c1 _ v wr.heap.size rfl rfl (HO.out.alloc _) (by simp) (by omega) (by simp; omega) ?_; intro B2 c2' w2' ho2 hg2)
        go_roundw
        case rel =>
          exact ⟨j + 1, B2, c2', by omega, by rw [HV.out], rfl, by rw [HT.out]; exact ho2, (belGrown (belAlloc HBL _) (HO.out.alloc _) hg2 (Nat.le_refl _)).out⟩
        case measure => simp [intOf]; omega
      · obtain rfl : N = j := by omega
        obtain ⟨v, hv⟩ : ∃ v : Int, v = (N : Int) - 1 - (N : Int) := ⟨_, rfl⟩
        rw [← hv]
        have i3 : ¬ (0 : Int) ≤ v := by omega
        have HO2 : Hid (RI wr B1 N (topO N)) := by
          have := HO.out.ri
          rwa [List.take_of_length_le (by rw [HTL.out]; exact Nat.le_refl _)] at this
        replace HX1 := Lib.hid (HX1.out.below HBL.out (Nat.le_refl _))
        replace HG := globStep HG HBL.out
        replace HB := belStep HB HBL.out
        clear hv HO HBL
        go_wp2_with fail
        refine (iCountLeast_any B1 N c1 (topO N) _ HO2.out (by omega) HG.out).mono ?_
        rw [HCN.out, HCG.out]
        rintro e wc ⟨rfl, hb⟩
        replace HX1 := Lib.hid (HX1.out.below hb (Nat.le_refl _))
        replace HB := belStep HB hb
        clear hb HO2 HG
        obtain ⟨b, off, rfl, hbw, hcc⟩ := HX1.out.cell (show 0 < Q + 1 by omega)
        have d0 := hcc 0 (by omega)
        have d1 := hcc 1 (by omega)
        have d2 := hcc Q (by omega)
        rw [HF0.out, Nat.add_zero] at d0
        rw [HF1.out] at d1
        rw [HFQ.out] at d2
        have e1 : (((Q + 1 : Nat) : Int) != ((Q + 1 : Nat) : Int)) = false := by simp
        have e4 : ((N : Int) - 1 != (N : Int) - 1) = false := by simp
        have e2 : IntKind.i64.wrap (((Q + 1 : Nat) : Int) - 1) = (Q : Int) := by rw [IntWalk.i64_in _ (by omega)]; omega
        clear hcc
        go_wp2_with (go_at_call 42; refine (nSum_any _ (Q + 1) k1 L _ HX1.out (by omega) HSM.out).mono ?_; rw [HSUM.out]; rintro e wd ⟨rfl, hb⟩; replace d0 := (hb.cell (p := ⟨b, off, none⟩) hbw).trans d0; replace d1 := (hb.cell (p := ⟨b, off + 1, none⟩) hbw).trans d1; replace d2 := (hb.cell (p := ⟨b, off + Q, none⟩) hbw).trans d2; replace HB := belStep HB hb; clear hb)
        go_ret
        exact ⟨rfl, HB.out⟩

set_option maxRecDepth 100000 in
set_option maxHeartbeats 400000 in
theorem lawLongestCounted_any (A : Option Addr) (n c : Nat) (bs : List Int) (A2 : Option Addr) (n2 c2 : Nat) (w : World) (h : BI w A n bs) (hn : n ≤ 9223372036854775807) (hn2 : n2 ≤ 9223372036854775807) (hG : Glob w) :
    Calls Tryz.prog 10 #[.slice A n c, .slice A2 n2 c2] w (RetB true w) := by
  rcases hb : bigB n n2 with _ | _
  · have h3 := hb
    unfold bigB at h3
    simp only [Bool.or_eq_false_iff, decide_eq_false_iff_not] at h3
    exact lawLongestCounted_of A n c bs A2 n2 c2 w h (by omega) (by omega) hb hG
  · have HB := Lib.hid hb
    clear h hb hG
    go_enter Tryz.func10, Tryz.ntmps10
    go_wp2_with fail
    refine (big_any A n c A2 n2 c2 _ hn hn2).mono ?_
    rw [HB.out]
    rintro e w1 ⟨rfl, hb⟩
    have HB1 := Lib.hid hb
    clear hb
    go_wp2
    go_ret
    exact ⟨rfl, HB1.out⟩
end Go.Proofs.YtgeeifjbfceogaaGreatDoor
