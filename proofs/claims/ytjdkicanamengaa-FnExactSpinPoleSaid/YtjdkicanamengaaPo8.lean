/- TurnPole, of the model. -/
import Derived.Test.YtjdkicanamengaaPo5
import Derived.Test.YtjdkicanamengaaC1o
import Derived.Deep.RegionLaw
namespace Go.Proofs.Ytjdkicanamengaa
open Go Go.RowKit

theorem revP_len (W : Int) (zs : List Int) : (ifL (pol W zs) zs.reverse).length ≤ 1000 := by
  rcases h : pol W zs with _ | _
  · rw [ifL_no]; simp
  · rw [ifL_yes, List.length_reverse]
    have := (pol_iff.1 h).2.1
    omega

set_option maxRecDepth 100000 in
set_option maxHeartbeats 4000000 in
theorem sTurnPole_any (W : Int) (A : Option Addr) (n c : Nat) (zs : List Int) (w : World) (h : RI w A n zs) (hn : n ≤ 1048576) :
    Calls Try.prog 33 #[.agg #[.int .i64 W, .slice A n c]] w (FreshLB w (ifW (pol W zs) W) (ifL (pol W zs) zs.reverse).length (ifL (pol W zs) zs.reverse) (pol W zs)) := by
  rcases hq : pol W zs with _ | _
  · rw [ifW_no, ifL_no]
    have HW := Lib.hid hq
    clear hq
    go_enter Try.func33, Try.ntmps33
    go_wp2_with fail
    have HB := belAlloc (belAlloc (belRefl (w := w)) (.cells #[.int .i64 W, .slice A n c] 27)) (.cells #[.int .i64 0, .slice none 0 0] 27)
    have HC := cellNew (w.alloc (.cells #[.int .i64 W, .slice A n c] 27)) (.int .i64 0) (.slice none 0 0) 27
    refine (poGood_any W A n c zs _ ((h.alloc _).alloc _) hn).mono ?_
    rw [HW.out]
    rintro e w1 ⟨rfl, hb⟩
    replace HB := belStep HB hb
    replace HC := cellStep HC hb
    have k0 := HC.out.c0; have k1 := HC.out.c1; have f0 := HC.out.f0; have f1 := HC.out.f1; have hz := HC.out.lt
    simp only [World.size_alloc] at k0 k1 f0 f1 hz
    clear hb h
    go_wp2
    exact bodyPost_ret (v := .tuple #[.agg #[.int .i64 0, .slice none 0 0], .bool false]) (by simp [results, Try.results33, go_sem, k0, k1]) rfl ⟨none, 0, rfl, OI.none_ _ _, (by repeat (first | exact Below.refl _ _ | exact HB.out | refine Below.setCell ?_ (by simp <;> omega) _ | refine Below.alloc ?_ (by simp <;> omega) _ | refine below_drewN ?_ _))⟩
  · rw [ifW_yes, ifL_yes, List.length_reverse]
    have hzl := Lib.hid h.1
    rw [hzl.out]
    have hW := (pol_iff.1 hq).1
    have hn60 : n ≤ 60 := by have := (pol_iff.1 hq).2.1; rw [h.1] at this; exact this
    have HW := Lib.hid hq
    clear hq
    go_enter Try.func33, Try.ntmps33
    go_wp2_with fail
    have HA := boxAlloc (boxNew (W := W) (c := c) 27 h) (.cells #[.int .i64 0, .slice none 0 0] 27)
    have HB := belAlloc (belAlloc (belRefl (w := w)) (.cells #[.int .i64 W, .slice A n c] 27)) (.cells #[.int .i64 0, .slice none 0 0] 27)
    have HC := cellNew (w.alloc (.cells #[.int .i64 W, .slice A n c] 27)) (.int .i64 0) (.slice none 0 0) 27
    refine (poGood_any W A n c zs _ HA.out.ri hn).mono ?_
    rw [HW.out]
    rintro e w1 ⟨rfl, hb⟩
    replace HA := boxStep HA hb
    replace HB := belStep HB hb
    replace HC := cellStep HC hb
    have a0 := HA.out.c0; have a1 := HA.out.c1; have az := HA.out.lt
    have cz := HC.out.lt
    simp only [World.size_alloc] at cz
    clear hb h
    go_wp2
    have HM := cellNew w1 (.int .i64 W) (.slice none 0 0) 27
    go_loopw [5] (fun s5 wr => ∃ (k : Nat) (j' : Int), k ≤ n ∧ s5 = .int .i64 j' ∧ j' = (n : Int) - 1 - k ∧ OutRel w1 w1.heap.size W zs.reverse k wr) (fun s5 _ => (intOf s5 + 1).toNat)
    case atStart => exact ⟨0, _, Nat.zero_le _, rfl, by omega, none, 0, HM.out, OI.none_ _ _, (Below.refl _ _).alloc (Nat.le_refl _) _⟩
    case round =>
      obtain ⟨k, j', hk, rfl, hj', A1, c1, hm, ho, hb⟩ := hrel
      have HMr := Lib.hid hm
      have HO := Lib.hid ho
      have H1R := Lib.hid hb
      have HJ := Lib.hid hj'
      have HBX : Hid (BoxB wr w1.heap.size w.heap.size W A n c zs) := (BoxB.of HA.out).step hb
      have HCr := cellBelow HC (by simp; omega) hb
      clear a0 a1 hm ho hb
      have a0 := HBX.out.c0; have a1 := HBX.out.c1
      have m0 := HMr.out.c0; have m1 := HMr.out.c1; have mf0 := HMr.out.f0; have mf1 := HMr.out.f1
      have zr : w1.heap.size < wr.heap.size := HMr.out.lt
      have azr : w.heap.size < wr.heap.size := by omega
      by_cases hlt : k < n
      · obtain ⟨j, rfl⟩ : ∃ j : Nat, j' = (j : Int) := ⟨j'.toNat, by omega⟩
        have hjn : j < n := by omega
        obtain ⟨b, off, rfl, hbw, hc⟩ := HBX.out.rb.ri.cell hjn
        have hck := hc j hjn
        have HT := Lib.hid (rev_take zs k j n (by rw [hzl.out]) (by omega) (by omega))
        clear hc hj'
        go_wp2
        go_region_law (refine step_append_ints _ rfl (.tmp 22) (.tmp 28) rfl (w1.heap.size + 1) A1 k c1 _ (some ⟨wr.heap.size, 0, none⟩) 1 1 [gi zs j] rfl rfl (by exact HO.out.alloc _) (by exact RI.single _ _) (by omega) (by omega) (by simp; omega) ?_; intro A2 c2 w2 ho2 hg2; have HM2 := cellKeptNe (cellAlloc (cellDrew HMr) _) hg2 (by exact HO.out.alloc _) (Nat.lt_succ_self _); have H1R2 : Hid (Below w1.heap.size w1 w2) := (H1R.out.drew.alloc (by simp; omega) _).trans (ofMark (by exact HO.out.alloc _) hg2 (Nat.le_succ _) (by simp; omega)); have n0 := HM2.out.c0; have n1 := HM2.out.c1; have nf0 := HM2.out.f0; have nf1 := HM2.out.f1; have nz := HM2.out.lt)
        all_goals
          go_wp2
          go_roundw
          case rel =>
            refine ⟨k + 1, _, by omega, rfl, by have := HJ.out; omega, A2, c2, (cellSet1 HM2 _).out, ?_, H1R2.out.setCell (by simp) _⟩
            rw [HT.out]
            exact ho2.setBelow (by simp) _
          case measure => simp [intOf]
      · obtain rfl : k = n := by omega
        have e : zs.reverse.take k = zs.reverse := List.take_of_length_le (by rw [List.length_reverse, hzl.out]; omega)
        have HY2 : Hid (OI wr (w1.heap.size + 1) A1 k c1 zs.reverse) := by have := HO.out; rwa [e] at this
        have k0 := HCr.out.c0; have k1 := HCr.out.c1; have f0 := HCr.out.f0; have f1 := HCr.out.f1
        simp only [World.size_alloc] at k0 k1 f0 f1
        have HBr : Hid (Below w.heap.size w wr) := HB.out.trans (H1R.out.mono HB.out.size)
        go_wp2
        exact bodyPost_ret (v := .tuple #[.agg #[.int .i64 W, .slice A1 k c1], .bool true]) (by simp [results, Try.results33, go_sem, k0, k1]) rfl
          ⟨A1, c1, rfl, ((HY2.out.setBelow (by simp <;> omega) _).setBelow (by simp <;> omega) _).mono (by omega), (HBr.out.setCell (by simp) _).setCell (by simp) _⟩
end Go.Proofs.Ytjdkicanamengaa
