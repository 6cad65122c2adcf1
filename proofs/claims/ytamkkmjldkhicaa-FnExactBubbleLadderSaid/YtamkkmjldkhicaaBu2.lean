/- BubbleLadder, of the model. -/
import Derived.Test.YtamkkmjldkhicaaBu0
import Derived.Test.YtamkkmjldkhicaaApL
import Derived.Test.YtamkkmjldkhicaaMgC
import Derived.Deep.RegionLaw
namespace Go.Proofs.Ytamkkmjldkhicaa
open Go Go.RowKit

theorem oiDB {w : World} {B : Nat} {A : Option Addr} {n c : Nat} {zs : List Int} (h : OI w B A n c zs) : OI w.drew B A n c zs := h

set_option maxRecDepth 100000 in
set_option maxHeartbeats 1000000 in
theorem sBubbleLadder_any (x : Int) (w : World) (_lo : -9223372036854775808 ≤ x) (_hi : x ≤ 9223372036854775807) :
    Calls Try.prog 28 #[.int .i64 x] w (FreshLB w (ifW (inB x 2 8) x) (bubL x).length (bubL x) (inB x 2 8)) := by
  have HB := belAlloc (belRefl (w := w)) (.cells #[.int .i64 0, .slice none 0 0] 28)
  have HC := cellNew w (.int .i64 0) (.slice none 0 0) 28
  unfold bubL
  by_cases hx : 2 ≤ x ∧ x ≤ 8
  · have HW := Lib.hid (inB_true (n := x) (lo := 2) (hi := 8) ⟨hx.1, hx.2⟩)
    rw [HW.out, ifW_yes, ifL_yes]
    obtain ⟨n, rfl⟩ : ∃ n : Nat, x = (n : Int) := ⟨x.toNat, by omega⟩
    rw [Int.toNat_natCast]
    have h2 : 2 ≤ n := by omega
    have h8 : n ≤ 8 := by omega
    have hlen := bubK_len n h8
    clear hx
    go_enter Try.func28, Try.ntmps28
    go_wp2_with fail
    refine (l1In_any (n : Int) 2 8 _).mono ?_
    rw [HW.out]
    rintro e w1 ⟨rfl, rfl⟩
    go_wp2_with fail
    obtain ⟨w1, hw1⟩ : ∃ w1, w1 = w.alloc (.cells #[.int .i64 0, .slice none 0 0] 28) := ⟨_, rfl⟩
    obtain ⟨w2, hw2⟩ : ∃ w2, w2 = w1.alloc (.cells #[.int .i64 (n : Int), .slice none 0 0] 28) := ⟨_, rfl⟩
    rw [← hw1] at HB HC
    have HS : Hid (w.heap.size + 1 = w1.heap.size) := by show w.heap.size + 1 = w1.heap.size; rw [hw1]; simp
    have HM := cellNew w1 (.int .i64 (n : Int)) (.slice none 0 0) 28
    replace HB := belAlloc HB (.cells #[.int .i64 (n : Int), .slice none 0 0] 28)
    replace HC := cellAlloc HC (.cells #[.int .i64 (n : Int), .slice none 0 0] 28)
    rw [← hw2] at HM HB HC
    have HS2 : Hid (w1.heap.size + 1 = w2.heap.size) := by show w1.heap.size + 1 = w2.heap.size; rw [hw2]; simp
    rw [← hw1, ← hw2]
    have he1 := HS.out
    have he2 : w.heap.size + 2 ≤ w2.heap.size := by have := HS2.out; omega
    rw [← he1] at HM
    clear he1
    clear hw1 hw2
    go_loopw [5] (fun i wr => ∃ (j : Nat) (A : Option Addr) (c : Nat), j ≤ n - 1 ∧ i = .int .i64 ((n : Int) - 2 - (j : Int)) ∧ Cell2 wr (w.heap.size + 1) (.int .i64 (n : Int)) (.slice A (bubK n j).length c) ∧ OI wr w2.heap.size A (bubK n j).length c (bubK n j) ∧ Below (w.heap.size + 1) w2 wr) (fun i _ => (intOf i + 1).toNat)
    case atStart => exact ⟨0, none, 0, Nat.zero_le _, by go_num, HM.out, OI.none_ _ _, Below.refl _ _⟩
    case round =>
      obtain ⟨j, A, c, hj, rfl, hM, ho, hb⟩ := hrel
      have HO := Lib.hid ho
      have HMr := Lib.hid hM
      have HBr := Lib.hid hb
      have hjl := hlen j
      have m0 := hM.c0; have m1 := hM.c1; have mf0 := hM.f0; have mf1 := hM.f1; have mz := hM.lt
      have HZ2 := Lib.hid hb.size
      obtain ⟨q, hq⟩ : ∃ q : Int, q = (n : Int) - 2 - (j : Int) := ⟨_, rfl⟩
      rw [← hq]
      have HQ := Lib.hid hq
      clear ho hb hM
      by_cases hlt : j < n - 1
      · have i0 : (0 : Int) ≤ q := by omega
        have hqb : q ≤ 6 := by omega
        clear hq
        go_wp2
        go_loopw [6] (fun i wi => ∃ (k : Nat) (A2 : Option Addr) (c2 : Nat), k ≤ n - 1 - j ∧ i = .int .i64 k ∧ Cell2 wi (w.heap.size + 1) (.int .i64 (n : Int)) (.slice A2 (bubK n j ++ upsN k).length c2) ∧ OI wi w2.heap.size A2 (bubK n j ++ upsN k).length c2 (bubK n j ++ upsN k) ∧ Below (w.heap.size + 1) w2 wi) (fun i _ => n - 1 - j - (intOf i).toNat)
        case atStart => exact ⟨0, A, c, Nat.zero_le _, rfl, by simpa [upsN] using HMr.out, by simpa [upsN] using HO.out, HBr.out⟩
        case round =>
          obtain ⟨k, A2, c2, hk, rfl, hM2, ho2, hb2⟩ := hrel
          have HO2 := Lib.hid ho2
          have HB2 := Lib.hid hb2
          have HM2 := Lib.hid hM2
          have E0 : Hid ((bubK n j ++ upsN (k + 1)) = (bubK n j ++ upsN k) ++ [(k : Int)]) := Lib.hid (by rw [upsN_succ, List.append_assoc])
          have hz2 := hb2.size
          have hol : (bubK n j ++ upsN k).length ≤ 100 := by rw [List.length_append, upsN_len]; omega
          obtain ⟨ys, hys⟩ : ∃ ys, ys = bubK n j ++ upsN k := ⟨_, rfl⟩
          rw [← hys] at HO2 E0 hol HM2
          have HYS := Lib.hid hys
          have m0 := HM2.out.c0; have m1 := HM2.out.c1; have mf0 := HM2.out.f0; have mf1 := HM2.out.f1; have mz := HM2.out.lt
          have hml : w.heap.size + 1 < w2.heap.size := by omega
          clear ho2 hb2 hM2 hys
          by_cases hlk : k < n - 1 - j
          · have i1 : (k : Int) ≤ q := by have := HQ.out; omega
            go_wp2_with (at_builtin; refine wpList_append_intL _ rfl _ _ rfl w2.heap.size A2 _ c2 _ (k : Int) wr.heap.size rfl rfl (HO2.out.alloc _) (by simp) (by omega) (by simp; omega) ?_; intro A3 c3 w3 ho3 hg3 hl3; have HM3 := cellKeptNe (cellAlloc HM2 _) hg3 (HO2.out.alloc _) hml; have n0 := HM3.out.c0; have n1 := HM3.out.c1; have nf0 := HM3.out.f0; have nf1 := HM3.out.f1; have nz := HM3.out.lt; have HO3 := Lib.hid ho3; have HB3 := Lib.hid ((HB2.out.alloc (by omega) _).trans (ofMark (K := w.heap.size + 1) (HO2.out.alloc _) hg3 (by omega) (by simp; omega))); clear ho3 hg3 m0 m1 mf0 mf1 mz)
            go_roundw
            case rel =>
              refine ⟨k + 1, A3, c3, by omega, by go_num, ?_, ?_, ?_⟩
              · rw [E0.out, List.length_append, List.length_singleton]; exact (cellSet1 HM3 _).out
              · rw [E0.out, List.length_append, List.length_singleton]; exact HO3.out.setBelow hml _
              · exact HB3.out.setCell (Nat.le_refl _) _
            case measure => simp [intOf]; omega
          · have i1 : ¬ (k : Int) ≤ q := by have := HQ.out; omega
            have e1 : bubK n (j + 1) = ys := by rw [HYS.out, show k = n - 1 - j by omega]; rfl
            go_wp2
            go_roundw
            case rel => exact ⟨j + 1, A2, c2, by omega, by rw [show (n : Int) - 2 - ((j + 1 : Nat) : Int) = q - 1 by have := HQ.out; omega], by rw [e1]; exact HM2.out, by rw [e1]; exact HO2.out, HB2.out⟩
            case measure => simp [intOf]; omega
      · obtain rfl : j = n - 1 := by omega
        have i0 : ¬ (0 : Int) ≤ q := by omega
        clear hq
        have HCr := cellBelow HC (show w.heap.size < w.heap.size + 1 by omega) HBr.out
        have k0 := HCr.out.c0; have k1 := HCr.out.c1; have f0 := HCr.out.f0; have f1 := HCr.out.f1; have cz := HCr.out.lt
        have hw3 := HB.out.size
        go_wp2
        refine bodyPost_ret (v := .tuple #[.agg #[.int .i64 (n : Int), .slice A (bubK n (n - 1)).length c], .bool true]) (by simp [results, Try.results28, go_sem, k0, k1]) rfl ?_
        exact ⟨A, c, rfl, ((HO.out.setBelow (by simp <;> omega) _).setBelow (by simp <;> omega) _).mono (by omega), ((HB.out.trans (HBr.out.mono (by omega))).setCell (by simp) _).setCell (by simp) _⟩
  · have HW := Lib.hid (inB_false (n := x) (lo := 2) (hi := 8) hx)
    rw [HW.out, ifW_no, ifL_no]
    have k0 := HC.out.c0; have k1 := HC.out.c1; have f0 := HC.out.f0; have f1 := HC.out.f1; have hz := HC.out.lt
    go_enter Try.func28, Try.ntmps28
    go_wp2_with fail
    refine (l1In_any x 2 8 _).mono ?_
    rw [HW.out]
    rintro e w1 ⟨rfl, rfl⟩
    go_wp2
    exact bodyPost_ret (v := .tuple #[.agg #[.int .i64 0, .slice none 0 0], .bool false]) (by simp [results, Try.results28, go_sem, k0, k1]) rfl ⟨none, 0, rfl, OI.none_ _ _, (by repeat (first | exact Below.refl _ _ | exact HB.out | refine Below.setCell ?_ (by simp <;> omega) _ | refine Below.alloc ?_ (by simp <;> omega) _ | refine below_drewN ?_ _))⟩
end Go.Proofs.Ytamkkmjldkhicaa
