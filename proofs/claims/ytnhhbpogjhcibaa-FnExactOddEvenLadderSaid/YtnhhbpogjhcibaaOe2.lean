/- OddEvenLadder, of the model. -/
import Derived.Test.YtnhhbpogjhcibaaOe1
import Derived.Test.YtnhhbpogjhcibaaApL
import Derived.Test.YtnhhbpogjhcibaaMgC
import Derived.Test.YtnhhbpogjhcibaaLB
import Derived.Deep.RegionLaw
namespace Go.Proofs.Ytnhhbpogjhcibaa
open Go Go.RowKit

set_option maxRecDepth 100000 in
set_option maxHeartbeats 1000000 in
theorem sOddEvenLadder_any (x y : Int) (w : World) :
    Calls Try.prog 13 #[.int .i64 x, .int .i64 y] w (FreshLB w (ifW (oeB x y) x) (oeL x y).length (oeL x y) (oeB x y)) := by
  have HB := belAlloc (belRefl (w := w)) (.cells #[.int .i64 0, .slice none 0 0] 24)
  have HC := cellNew w (.int .i64 0) (.slice none 0 0) 24
  unfold oeL
  by_cases hx : 2 ≤ x ∧ x ≤ 8
  · by_cases hy : 0 ≤ y ∧ y ≤ 10
    · have HW := Lib.hid (inB_true (n := x) (lo := 2) (hi := 8) hx)
      have HW2 := Lib.hid (inB_true (n := y) (lo := 0) (hi := 10) hy)
      rw [oeB_yes hx hy]
      obtain ⟨n, rfl⟩ : ∃ n : Nat, x = (n : Int) := ⟨x.toNat, by omega⟩
      obtain ⟨v, rfl⟩ : ∃ v : Nat, y = (v : Int) := ⟨y.toNat, by omega⟩
      simp only [Int.toNat_natCast]
      have h2 : 2 ≤ n := by omega
      have h8 : n ≤ 8 := by omega
      have hv : v ≤ 10 := by omega
      have hlen := oeK_len n h8
      clear hx hy
      go_enter Try.func13, Try.ntmps13
      go_wp2_with fail
      refine (l1In_any (n : Int) 2 8 _).mono ?_
      rw [HW.out]
      rintro e w1 ⟨rfl, rfl⟩
      go_wp2_with fail
      refine (l1In_any (v : Int) 0 10 _).mono ?_
      rw [HW2.out]
      rintro e w1 ⟨rfl, rfl⟩
      go_wp2_with fail
      obtain ⟨w1, hw1⟩ : ∃ w1, w1 = w.alloc (.cells #[.int .i64 0, .slice none 0 0] 24) := ⟨_, rfl⟩
      obtain ⟨w2, hw2⟩ : ∃ w2, w2 = w1.alloc (.cells #[.int .i64 (n : Int), .slice none 0 0] 24) := ⟨_, rfl⟩
      rw [← hw1] at HB HC
      have HS : Hid (w.heap.size + 1 = w1.heap.size) := by show w.heap.size + 1 = w1.heap.size; rw [hw1]; simp
      have HM := cellNew w1 (.int .i64 (n : Int)) (.slice none 0 0) 24
      replace HB := belAlloc HB (.cells #[.int .i64 (n : Int), .slice none 0 0] 24)
      replace HC := cellAlloc HC (.cells #[.int .i64 (n : Int), .slice none 0 0] 24)
      rw [← hw2] at HM HB HC
      have HS2 : Hid (w1.heap.size + 1 = w2.heap.size) := by show w1.heap.size + 1 = w2.heap.size; rw [hw2]; simp
      rw [← hw1, ← hw2]
      have he1 := HS.out
      have he2 : w.heap.size + 2 ≤ w2.heap.size := by have := HS2.out; omega
      rw [← he1] at HM
      clear he1
      clear hw1 hw2
      go_loopw [7] (fun i wr => ∃ (j : Nat) (A : Option Addr) (c : Nat), j ≤ v ∧ i = .int .i64 (j : Int) ∧ Cell2 wr (w.heap.size + 1) (.int .i64 (n : Int)) (.slice A (oeK n j).length c) ∧ OI wr w2.heap.size A (oeK n j).length c (oeK n j) ∧ Below (w.heap.size + 1) w2 wr) (fun i _ => v - (intOf i).toNat)
      case atStart => exact ⟨0, none, 0, Nat.zero_le _, by go_num, HM.out, OI.none_ _ _, Below.refl _ _⟩
      case round =>
        obtain ⟨j, A, c, hj, rfl, hM, ho, hb⟩ := hrel
        have HO := Lib.hid ho
        have HMr := Lib.hid hM
        have HBr := Lib.hid hb
        have hjl := hlen j
        have m0 := hM.c0; have m1 := hM.c1; have mf0 := hM.f0; have mf1 := hM.f1; have mz := hM.lt
        have HZ2 := Lib.hid hb.size
        clear ho hb hM
        by_cases hlt : j < v
        · obtain ⟨r, hr⟩ : ∃ r, r = j % 2 := ⟨_, rfl⟩
          have hr2 : r < 2 := by omega
          have HR := Lib.hid hr
          have hrm : (j : Int).tmod 2 = (r : Int) := by rw [Int.tmod_eq_emod_of_nonneg (by omega)]; omega
          clear hr
          go_wp2
          go_loopw [8] (fun i wi => ∃ (k : Nat) (A2 : Option Addr) (c2 : Nat), k ≤ oeCnt n j ∧ i = .int .i64 ((r + 2 * k : Nat) : Int) ∧ Cell2 wi (w.heap.size + 1) (.int .i64 (n : Int)) (.slice A2 (oeK n j ++ oeLev j k).length c2) ∧ OI wi w2.heap.size A2 (oeK n j ++ oeLev j k).length c2 (oeK n j ++ oeLev j k) ∧ Below (w.heap.size + 1) w2 wi) (fun i _ => 20 - (intOf i).toNat)
          case atStart => exact ⟨0, A, c, Nat.zero_le _, by first | go_num | simp [hrm], by simpa [oeLev] using HMr.out, by simpa [oeLev] using HO.out, HBr.out⟩
          case round =>
            obtain ⟨k, A2, c2, hk, rfl, hM2, ho2, hb2⟩ := hrel
            have HO2 := Lib.hid ho2
            have HB2 := Lib.hid hb2
            have HM2 := Lib.hid hM2
            have E0 : Hid ((oeK n j ++ oeLev j (k + 1)) = (oeK n j ++ oeLev j k) ++ [((r + 2 * k : Nat) : Int)]) := Lib.hid (by simp only [oeLev]; rw [← HR.out, List.append_assoc])
            have hz2 := hb2.size
            have hcd : oeCnt n j = (n - r) / 2 := by unfold oeCnt; rw [HR.out]
            have hol : (oeK n j ++ oeLev j k).length ≤ 100 := by rw [List.length_append, oeLev_len]; omega
            obtain ⟨ys, hys⟩ : ∃ ys, ys = oeK n j ++ oeLev j k := ⟨_, rfl⟩
            rw [← hys] at HO2 E0 hol HM2
            have HYS := Lib.hid hys
            obtain ⟨q, hq⟩ : ∃ q : Nat, q = r + 2 * k := ⟨_, rfl⟩
            rw [← hq] at E0 ⊢
            have hq8 : q ≤ 9 := by omega
            have HQ := Lib.hid hq
            have HCD := Lib.hid hcd
            have m0 := HM2.out.c0; have m1 := HM2.out.c1; have mf0 := HM2.out.f0; have mf1 := HM2.out.f1; have mz := HM2.out.lt
            have hml : w.heap.size + 1 < w2.heap.size := by omega
            clear ho2 hb2 hM2 hys hcd
            by_cases hlk : k < oeCnt n j
            · have i1 : (q : Int) ≤ (n : Int) - 2 := by have := HCD.out; omega
              clear hq
              go_wp2_with (at_builtin; refine wpList_append_intL _ rfl _ _ rfl w2.heap.size A2 _ c2 _ (q : Int) wr.heap.size rfl rfl (HO2.out.alloc _) (by simp) (by omega) (by simp; omega) ?_; intro A3 c3 w3 ho3 hg3 hl3; have HM3 := cellKeptNe (cellAlloc HM2 _) hg3 (HO2.out.alloc _) hml; have n0 := HM3.out.c0; have n1 := HM3.out.c1; have nf0 := HM3.out.f0; have nf1 := HM3.out.f1; have nz := HM3.out.lt; have HO3 := Lib.hid ho3; have HB3 := Lib.hid ((HB2.out.alloc (by omega) _).trans (ofMark (K := w.heap.size + 1) (HO2.out.alloc _) hg3 (by omega) (by simp; omega))); clear ho3 hg3 m0 m1 mf0 mf1 mz)
              go_roundw
              case rel =>
                refine ⟨k + 1, A3, c3, by omega, by rw [show r + 2 * (k + 1) = q + 2 by have := HQ.out; omega]; go_num, ?_, ?_, ?_⟩
                · rw [E0.out, List.length_append, List.length_singleton]; exact (cellSet1 HM3 _).out
                · rw [E0.out, List.length_append, List.length_singleton]; exact HO3.out.setBelow hml _
                · exact HB3.out.setCell (Nat.le_refl _) _
              case measure => simp [intOf]; omega
            · have i1 : ¬ (q : Int) ≤ (n : Int) - 2 := by have := HCD.out; omega
              have e1 : oeK n (j + 1) = ys := by rw [HYS.out, show k = oeCnt n j by omega]; rfl
              clear hq
              go_wp2
              go_roundw
              case rel => exact ⟨j + 1, A2, c2, by omega, by go_num, by rw [e1]; exact HM2.out, by rw [e1]; exact HO2.out, HB2.out⟩
              case measure => simp [intOf]; omega
        · obtain rfl : j = v := by omega
          obtain ⟨ys, hys⟩ : ∃ ys, ys = oeK n j := ⟨_, rfl⟩
          rw [← hys] at m1 HO hjl HMr
          have HYS := Lib.hid hys
          clear hys
          go_wp2_with fail
          refine (laIf_own (n : Int) A ys.length c ys w2.heap.size _ HO.out (by omega)).mono ?_
          rintro e w3 ⟨A3, c3, rfl, o3, hb⟩
          have HCr := cellStep (cellBelow HC (show w.heap.size < w.heap.size + 1 by omega) HBr.out) hb
          have HB3 := belStep (Lib.hid (HB.out.trans (HBr.out.mono (by omega)))) hb
          have k0 := HCr.out.c0; have k1 := HCr.out.c1; have f0 := HCr.out.f0; have f1 := HCr.out.f1; have cz := HCr.out.lt
          have HO3 := Lib.hid o3
          clear hb o3 m0 m1 mf0 mf1 mz
          go_wp2
          refine bodyPost_ret (v := .tuple #[.agg #[.int .i64 (ifW (lad (n : Int) ys) n), .slice A3 (ifL (lad (n : Int) ys) ys).length c3], .bool (lad (n : Int) ys)]) (by simp [results, Try.results13, go_sem, k0, k1]) rfl ?_
          rw [← HYS.out]
          exact ⟨A3, c3, rfl, ((HO3.out.setBelow (by simp <;> omega) _).setBelow (by simp <;> omega) _).mono (by omega), (HB3.out.setCell (by simp) _).setCell (by simp) _⟩
    · have HW := Lib.hid (inB_true (n := x) (lo := 2) (hi := 8) hx)
      have HW2 := Lib.hid (inB_false (n := y) (lo := 0) (hi := 10) hy)
      have HQ := Lib.hid (oeB_no (x := x) (y := y) (fun h => hy h.2))
      rw [HQ.out, ifW_no, ifL_no]
      have k0 := HC.out.c0; have k1 := HC.out.c1; have f0 := HC.out.f0; have f1 := HC.out.f1; have hz := HC.out.lt
      clear hx hy
      go_enter Try.func13, Try.ntmps13
      go_wp2_with fail
      refine (l1In_any x 2 8 _).mono ?_
      rw [HW.out]
      rintro e w1 ⟨rfl, rfl⟩
      go_wp2_with fail
      refine (l1In_any y 0 10 _).mono ?_
      rw [HW2.out]
      rintro e w1 ⟨rfl, rfl⟩
      go_wp2
      exact bodyPost_ret (v := .tuple #[.agg #[.int .i64 0, .slice none 0 0], .bool false]) (by simp [results, Try.results13, go_sem, k0, k1]) rfl ⟨none, 0, rfl, OI.none_ _ _, (by repeat (first | exact Below.refl _ _ | exact HB.out | refine Below.setCell ?_ (by simp <;> omega) _ | refine Below.alloc ?_ (by simp <;> omega) _ | refine below_drewN ?_ _))⟩
  · have HW := Lib.hid (inB_false (n := x) (lo := 2) (hi := 8) hx)
    have HQ := Lib.hid (oeB_no (x := x) (y := y) (fun h => hx h.1))
    rw [HQ.out, ifW_no, ifL_no]
    have k0 := HC.out.c0; have k1 := HC.out.c1; have f0 := HC.out.f0; have f1 := HC.out.f1; have hz := HC.out.lt
    clear hx
    go_enter Try.func13, Try.ntmps13
    go_wp2_with fail
    refine (l1In_any x 2 8 _).mono ?_
    rw [HW.out]
    rintro e w1 ⟨rfl, rfl⟩
    go_wp2
    exact bodyPost_ret (v := .tuple #[.agg #[.int .i64 0, .slice none 0 0], .bool false]) (by simp [results, Try.results13, go_sem, k0, k1]) rfl ⟨none, 0, rfl, OI.none_ _ _, (by repeat (first | exact Below.refl _ _ | exact HB.out | refine Below.setCell ?_ (by simp <;> omega) _ | refine Below.alloc ?_ (by simp <;> omega) _ | refine below_drewN ?_ _))⟩
end Go.Proofs.Ytnhhbpogjhcibaa
