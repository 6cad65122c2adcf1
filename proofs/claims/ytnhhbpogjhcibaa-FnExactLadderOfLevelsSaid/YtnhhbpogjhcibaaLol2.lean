/- LadderOfLevels, of the model. -/
import Derived.Test.YtnhhbpogjhcibaaLol1
import Derived.Test.YtnhhbpogjhcibaaLB
import Derived.Test.YtnhhbpogjhcibaaMgB
namespace Go.Proofs.Ytnhhbpogjhcibaa
open Go Go.RowKit

set_option maxRecDepth 100000 in
set_option maxHeartbeats 2000000 in
theorem sLadderOfLevels_any (x : Int) (K : Nat) (A : Option Addr) (n c : Nat) (zss : List (List Int)) (w : World) (h : RBB w K A n zss) (hn : n ≤ 1048576) (hm : ∀ j, (gz zss j).length ≤ 1048576) :
    Calls Try.prog 19 #[.int .i64 x, .slice A n c] w (FreshLB w (ifW (lolB x zss) x) (lolL x zss).length (lolL x zss) (lolB x zss)) := by
  have hlz := h.1
  have HB := belAlloc (belRefl (w := w)) (.cells #[.int .i64 0, .slice none 0 0] 24)
  have HC := cellNew w (.int .i64 0) (.slice none 0 0) 24
  have k0 := HC.out.c0; have k1 := HC.out.c1; have f0 := HC.out.f0; have f1 := HC.out.f1; have cz := HC.out.lt
  rcases hq : inB x 2 8 with _ | _
  · have HW := Lib.hid hq
    have HQ := Lib.hid (lolB_wires (zss := zss) hq)
    unfold lolL
    rw [HQ.out, ifW_no, ifL_no]
    clear hq h
    go_enter Try.func19, Try.ntmps19
    go_wp2_with fail
    refine (lvWires_any x _).mono ?_
    rw [HW.out]
    rintro e w1 ⟨rfl, rfl⟩
    go_wp2
    exact bodyPost_ret (v := .tuple #[.agg #[.int .i64 0, .slice none 0 0], .bool false]) (by simp [results, Try.results19, go_sem, k0, k1]) rfl ⟨none, 0, rfl, OI.none_ _ _, (by repeat (first | exact Below.refl _ _ | exact HB.out | refine Below.setCell ?_ (by simp <;> omega) _ | refine Below.alloc ?_ (by simp <;> omega) _ | refine below_drewN ?_ _))⟩
  · have HW := Lib.hid hq
    by_cases h60 : n ≤ 60
    · have HH := Lib.hid h
      have HLZ := Lib.hid hlz
      have i60 : ¬ (60 : Int) < (n : Int) := by omega
      have hx8 := inB_iff.1 hq
      clear h hlz hq
      go_enter Try.func19, Try.ntmps19
      go_wp2_with fail
      refine (lvWires_any x _).mono ?_
      rw [HW.out]
      rintro e w1 ⟨rfl, rfl⟩
      go_wp2
      obtain ⟨w1, hw1⟩ : ∃ w1, w1 = w.alloc (.cells #[.int .i64 0, .slice none 0 0] 24) := ⟨_, rfl⟩
      obtain ⟨w2, hw2⟩ : ∃ w2, w2 = w1.alloc (.cells #[.int .i64 x, .slice none 0 0] 24) := ⟨_, rfl⟩
      rw [← hw1] at HB HC k0 k1 f0 f1 cz
      have HS : Hid (w.heap.size + 1 = w1.heap.size) := by show w.heap.size + 1 = w1.heap.size; rw [hw1]; simp
      have HM := cellNew w1 (.int .i64 x) (.slice none 0 0) 24
      replace HB := belAlloc HB (.cells #[.int .i64 x, .slice none 0 0] 24)
      replace HC := cellAlloc HC (.cells #[.int .i64 x, .slice none 0 0] 24)
      rw [← hw2] at HM HB HC
      have HS2 : Hid (w1.heap.size + 1 = w2.heap.size) := by show w1.heap.size + 1 = w2.heap.size; rw [hw2]; simp
      rw [← hw1, ← hw2]
      have he1 := HS.out
      have he2 : w.heap.size + 2 ≤ w2.heap.size := by have := HS2.out; omega
      rw [← he1] at HM
      clear he1 hw1 hw2 k0 k1 f0 f1 cz
      go_loopw [8, 22] (fun _ i wr => ∃ (k : Nat) (A2 : Option Addr) (c2 : Nat) (Z : List Int), k ≤ n ∧ i = .int .i64 (k : Int) ∧ (∀ j, j < k → lvB x (gz zss j) = true) ∧ Z = cat (fun j => gz zss j) k ∧ Cell2 wr (w.heap.size + 1) (.int .i64 x) (.slice A2 Z.length c2) ∧ OI wr w2.heap.size A2 Z.length c2 Z ∧ Below (w.heap.size + 1) w2 wr) (fun _ i _ => n - (intOf i).toNat)
      case atStart => exact ⟨0, none, 0, [], Nat.zero_le _, by go_num, fun j hj => absurd hj (by omega), rfl, HM.out, OI.none_ _ _, Below.refl _ _⟩
      case round =>
        obtain ⟨k, A2, c2, Z, hk, rfl, hall, hZ, hM, ho, hb⟩ := hrel
        have HO := Lib.hid ho
        have HMr := Lib.hid hM
        have HBr := Lib.hid hb
        have HAL := Lib.hid hall
        have HZ := Lib.hid hZ
        have m0 := hM.c0; have m1 := hM.c1; have mf0 := hM.f0; have mf1 := hM.f1; have mz := hM.lt
        have hZl : Z.length ≤ 1000 := by have := cat_small hx8.2 (zss := zss) k hall; rw [hZ]; omega
        have HR := HH.out.step ((HB.out.mono HH.out.2.1).trans (hb.mono (by have := HH.out.2.1; omega)))
        clear ho hb hM hall hZ
        by_cases hlt : k < n
        · obtain ⟨b, off, rfl, hbk, hc⟩ := HR.2.2 (by omega)
          obtain ⟨a, m, d, hcj, hrb⟩ := hc k hlt
          have hbw : b < wr.heap.size := Nat.lt_of_lt_of_le hbk HR.2.1
          have hm2 := hm k
          have hlen : m ≤ 1048576 := by rw [← hrb.ri.1]; exact hm2
          obtain ⟨z, hz⟩ : ∃ z, z = gz zss k := ⟨_, rfl⟩
          rw [← hz] at hrb
          have HZZ := Lib.hid hz
          have HRB := Lib.hid hrb
          have j0 : (0 : Int) ≤ (k : Int) := by omega
          have j1 : (k : Int) < (n : Int) := by omega
          have hml : w.heap.size + 1 < w2.heap.size := by omega
          clear hc hrb HR hz
          go_wp2_with fail
          refine (lvGood_any x a m d z _ HRB.out.ri hlen hx8.1 hx8.2).mono ?_
          rintro e w3 ⟨rfl, hb3⟩
          have HRI3 := Lib.hid (HRB.out.ri.below hb3 (Nat.le_refl _))
          have HM3 := cellStep HMr hb3
          have HO3 := oiStep HO hb3
          have HB3 := Lib.hid (HBr.out.trans (hb3.mono (by have := HBr.out.size; omega)))
          have HC3 := cellBelow HC (show w.heap.size < w.heap.size + 1 by omega) HB3.out
          have HZ3 := Lib.hid HB3.out.size
          replace m0 := HM3.out.c0; replace m1 := HM3.out.c1; replace mf0 := HM3.out.f0; replace mf1 := HM3.out.f1; replace mz := HM3.out.lt
          have k0 := HC3.out.c0; have k1 := HC3.out.c1; have f0 := HC3.out.f0; have f1 := HC3.out.f1; have cz := HC3.out.lt
          clear hb3
          rcases hq : lvB x z with _ | _
          · have HF : Hid (lolB x zss = false) := Lib.hid (lolB_level (allLv_false (j := k) (by rw [HLZ.out]; exact hlt) (by rw [← HZZ.out]; exact hq)))
            clear hq
            go_wp2
            refine bodyPost_ret (v := .tuple #[.agg #[.int .i64 0, .slice none 0 0], .bool false]) (by simp [results, Try.results19, go_sem, k0, k1]) rfl ?_
            unfold lolL
            rw [HF.out, ifW_no, ifL_no]
            exact ⟨none, 0, rfl, OI.none_ _ _, ((HB.out.trans (HB3.out.mono (by omega))).setCell (by simp) _).setCell (by simp) _⟩
          · have HL2 := Lib.hid hq
            have hz3 := HZ3.out
            clear hq k0 k1 f0 f1 cz
            go_wp2_with (at_builtin; refine wpList_append_ints _ rfl _ _ rfl w2.heap.size A2 Z.length c2 Z a m d z rfl rfl HO3.out HRI3.out (by omega) (by omega) hz3 ?_; intro A4 c4 w4 ho4 hg4; have HM4 := cellKeptNe HM3 hg4 HO3.out hml; have n0 := HM4.out.c0; have n1 := HM4.out.c1; have nf0 := HM4.out.f0; have nf1 := HM4.out.f1; have nz := HM4.out.lt; have HO4 := Lib.hid ho4; have HB4 := Lib.hid (HB3.out.trans (ofMark (K := w.heap.size + 1) HO3.out hg4 (by omega) (by omega))); clear ho4 hg4 m0 m1 mf0 mf1 mz)
            go_roundw
            case rel =>
              have hml2 : z.length = m := HRI3.out.1
              refine ⟨k + 1, A4, c4, Z ++ z, by omega, by go_num, fun j hj => ?_, by simp only [cat]; rw [← HZ.out, HZZ.out], ?_, ?_, ?_⟩
              · by_cases e : j = k
                · rw [e, ← HZZ.out]; exact HL2.out
                · exact HAL.out j (by omega)
              · rw [List.length_append, hml2]; exact (cellSet1 HM4 _).out
              · rw [List.length_append, hml2]; exact HO4.out.setBelow hml _
              · exact HB4.out.setCell (Nat.le_refl _) _
            case measure => simp [intOf]; omega
        · obtain rfl : k = n := by omega
          have HALL : Hid (allLv x zss = true) := Lib.hid (allLv_true (by rw [HLZ.out]; exact HAL.out))
          have HEQ : Hid (Z = lolZ zss) := Lib.hid (by unfold lolZ; rw [HLZ.out]; exact HZ.out)
          have HE : Hid (lolB x zss = lad x Z) := Lib.hid (by rw [HEQ.out]; exact lolB_yes (by rw [HLZ.out]; exact h60) HW.out HALL.out)
          go_wp2_with fail
          refine (laIf_own x A2 Z.length c2 Z w2.heap.size _ HO.out (by omega)).mono ?_
          rintro e w3 ⟨A3, c3, rfl, o3, hb⟩
          have HCr := cellStep (cellBelow HC (show w.heap.size < w.heap.size + 1 by omega) HBr.out) hb
          have HB3 := belStep (Lib.hid (HB.out.trans (HBr.out.mono (by omega)))) hb
          have k0 := HCr.out.c0; have k1 := HCr.out.c1; have f0 := HCr.out.f0; have f1 := HCr.out.f1; have cz := HCr.out.lt
          have HO3 := Lib.hid o3
          clear hb o3 m0 m1 mf0 mf1 mz
          go_wp2
          refine bodyPost_ret (v := .tuple #[.agg #[.int .i64 (ifW (lad x Z) x), .slice A3 (ifL (lad x Z) Z).length c3], .bool (lad x Z)]) (by simp [results, Try.results19, go_sem, k0, k1]) rfl ?_
          unfold lolL
          rw [HE.out, ← HEQ.out]
          exact ⟨A3, c3, rfl, ((HO3.out.setBelow (by simp <;> omega) _).setBelow (by simp <;> omega) _).mono (by omega), (HB3.out.setCell (by simp) _).setCell (by simp) _⟩
    · have HQ := Lib.hid (lolB_long (x := x) (zss := zss) (by omega))
      unfold lolL
      rw [HQ.out, ifW_no, ifL_no]
      have i60 : (60 : Int) < (n : Int) := by omega
      clear h hq
      go_enter Try.func19, Try.ntmps19
      go_wp2_with fail
      refine (lvWires_any x _).mono ?_
      rw [HW.out]
      rintro e w1 ⟨rfl, rfl⟩
      go_wp2
      exact bodyPost_ret (v := .tuple #[.agg #[.int .i64 0, .slice none 0 0], .bool false]) (by simp [results, Try.results19, go_sem, k0, k1]) rfl ⟨none, 0, rfl, OI.none_ _ _, (by repeat (first | exact Below.refl _ _ | exact HB.out | refine Below.setCell ?_ (by simp <;> omega) _ | refine Below.alloc ?_ (by simp <;> omega) _ | refine below_drewN ?_ _))⟩
end Go.Proofs.Ytnhhbpogjhcibaa
