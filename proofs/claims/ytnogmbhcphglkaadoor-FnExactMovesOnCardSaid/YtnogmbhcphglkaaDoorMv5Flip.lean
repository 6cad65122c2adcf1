/- The contracts of FlipRungs, of the program and of its model. -/
import Derived.Test.YtnogmbhcphglkaaDoorMv4
import Derived.Test.YtnogmbhcphglkaaDoorMv3Flip
import Derived.Test.YtnogmbhcphglkaaDoorMv2flip
namespace Go.Proofs.YtnogmbhcphglkaaDoor
open Go Go.RowKit

set_option maxRecDepth 100000 in
set_option maxHeartbeats 1000000 in
theorem lsMake_flp (W : Int) (A : Option Addr) (n c : Nat) (zs : List Int) (a : Int) (w : World) (h : RI w A n zs) (hn : n ≤ 1048576) (hnc : n ≤ c) :
    Calls Tryd.prog 34 #[.agg #[.int .i64 W, .slice A n c], .int .u8 102, .int .i64 a] w (FreshLB w (ifW (flpB W zs a) W) (ifL (flpB W zs a) (flpL zs a.toNat)).length (ifL (flpB W zs a) (flpL zs a.toNat)) (flpB W zs a)) := by
  have HB := belAlloc (belAlloc (belRefl (w := w)) (.cells #[.int .i64 W, .slice A n c] 29)) (.cells #[.int .i64 0, .slice none 0 0] 29)
  have HC : Hid (Cell2 ((w.alloc (.cells #[.int .i64 W, .slice A n c] 29)).alloc (.cells #[.int .i64 0, .slice none 0 0] 29)) (w.heap.size + 1) (.int .i64 0) (.slice none 0 0)) := by have := cellNew (w.alloc (.cells #[.int .i64 W, .slice A n c] 29)) (.int .i64 0) (.slice none 0 0) 29; simp only [World.size_alloc] at this; exact this
  have HA := boxAlloc (boxNew (W := W) (c := c) 29 h) (.cells #[.int .i64 0, .slice none 0 0] 29)
  have hl := h.1
  clear h
  rcases hq : lad W zs with _ | _
  · have e : flpB W zs a = false := by unfold flpB; rw [hq]; rfl
    rw [e, ifW_no, ifL_no]
    have HW := Lib.hid hq
    clear hq e
    go_enter Tryd.func34, Tryd.ntmps34
    go_wp2_with fail
    refine (laGood_any W A n c zs _ HA.out.ri hn).mono ?_
    rw [HW.out]
    rintro e w1 ⟨rfl, hb⟩
    replace HB := belStep HB hb
    replace HC := cellStep HC hb
    have k0 := HC.out.c0; have k1 := HC.out.c1; have f0 := HC.out.f0; have f1 := HC.out.f1; have hz := HC.out.lt
    clear hb
    go_wp2
    exact bodyPost_ret (v := .tuple #[.agg #[.int .i64 0, .slice none 0 0], .bool false]) (by simp [results, Tryd.results34, go_sem, k0, k1]) rfl ⟨none, 0, rfl, OI.none_ _ _, (by repeat (first | exact Below.refl _ _ | exact HB.out | refine Below.setCell ?_ (by simp <;> omega) _ | refine Below.alloc ?_ (by simp <;> omega) _ | refine below_drewN ?_ _))⟩
  · have hn60 : n ≤ 60 := by have := (lad_iff.1 hq).2.1; omega
    obtain ⟨q, hqq⟩ : ∃ q, q = flpOk zs a := ⟨_, rfl⟩
    have e : flpB W zs a = q := by unfold flpB; rw [hq, hqq]; rfl
    rw [e]
    have HLC : Hid (∀ (A : Option Addr) (w : World), RI w A n zs → Calls Tryd.prog 52 #[.slice A n c, .int .i64 a] w (FreshIB w (ifL q (flpL zs a.toNat)).length (ifL q (flpL zs a.toNat)) q)) := fun A w h => by
      rw [hqq]; exact lsFlip_any A n c zs a w h (by omega) hnc (lad_small hq)
    have HLD : Hid (q = true → lad W (flpL zs a.toNat) = true) := fun hqt => lad_flp hq (flpOk_le (by rw [← hqq]; exact hqt))
    obtain ⟨L, hL⟩ : ∃ L, L = flpL zs a.toNat := ⟨_, rfl⟩
    rw [← hL] at HLC HLD ⊢
    have HW := Lib.hid hq
    clear hq hqq e hL
    cases q
    · rw [ifW_no, ifL_no]
      rw [ifL_no] at HLC
      go_enter Tryd.func34, Tryd.ntmps34
      go_wp2_with fail
      refine (laGood_any W A n c zs _ HA.out.ri hn).mono ?_
      rw [HW.out]
      rintro e w1 ⟨rfl, hb⟩
      replace HA := boxStep HA hb
      replace HB := belStep HB hb
      replace HC := cellStep HC hb
      have a0 := HA.out.c0; have a1 := HA.out.c1; have az := HA.out.lt
      clear hb
      go_wp2_with fail
      refine (HLC.out A _ HA.out.ri).mono ?_
      rintro e w2 ⟨A2, c2, rfl, o2, hb⟩
      replace HB := belStep HB hb
      replace HC := cellStep HC hb
      have k0 := HC.out.c0; have k1 := HC.out.c1; have f0 := HC.out.f0; have f1 := HC.out.f1; have hz := HC.out.lt
      clear hb o2 a0 a1
      go_wp2
      exact bodyPost_ret (v := .tuple #[.agg #[.int .i64 0, .slice none 0 0], .bool false]) (by simp [results, Tryd.results34, go_sem, k0, k1]) rfl ⟨none, 0, rfl, OI.none_ _ _, (by repeat (first | exact Below.refl _ _ | exact HB.out | refine Below.setCell ?_ (by simp <;> omega) _ | refine Below.alloc ?_ (by simp <;> omega) _ | refine below_drewN ?_ _))⟩
    · rw [ifW_yes, ifL_yes]
      rw [ifL_yes] at HLC
      have HL2 := Lib.hid (HLD.out rfl)
      have hll : L.length ≤ 60 := (lad_iff.1 HL2.out).2.1
      obtain ⟨m, hm⟩ : ∃ m, m = L.length := ⟨_, rfl⟩
      rw [← hm] at HLC hll ⊢
      have HM := Lib.hid hm
      clear hm HLD
      go_enter Tryd.func34, Tryd.ntmps34
      go_wp2_with fail
      refine (laGood_any W A n c zs _ HA.out.ri hn).mono ?_
      rw [HW.out]
      rintro e w1 ⟨rfl, hb⟩
      replace HA := boxStep HA hb
      replace HB := belStep HB hb
      replace HC := cellStep HC hb
      have a0 := HA.out.c0; have a1 := HA.out.c1; have az := HA.out.lt
      clear hb
      go_wp2_with fail
      refine (HLC.out A _ HA.out.ri).mono ?_
      rintro e w2 ⟨A2, c2, rfl, o2, hb⟩
      have hz1 := HC.out.lt
      replace HA := boxStep HA hb
      replace HB := belStep HB hb
      replace HC := cellStep HC hb
      have O2 := Lib.hid o2
      replace a0 := HA.out.c0; replace a1 := HA.out.c1; replace az := HA.out.lt
      clear hb o2
      have k0 := HC.out.c0; have k1 := HC.out.c1; have f0 := HC.out.f0; have f1 := HC.out.f1; have hz := HC.out.lt
      go_wp2
      exact bodyPost_ret (v := .tuple #[.agg #[.int .i64 W, .slice A2 m c2], .bool true]) (by simp [results, Tryd.results34, go_sem, k0, k1]) rfl
        ⟨A2, c2, rfl, ((O2.out.setBelow (show w.heap.size + 1 < w1.heap.size by omega) _).setBelow (show w.heap.size + 1 < w1.heap.size by omega) _).mono (by omega), (by repeat (first | exact Below.refl _ _ | exact HB.out | refine Below.setCell ?_ (by simp <;> omega) _ | refine Below.alloc ?_ (by simp <;> omega) _ | refine below_drewN ?_ _))⟩

set_option maxRecDepth 100000 in
set_option maxHeartbeats 1000000 in
theorem moved_flp (W : Int) (A : Option Addr) (n c : Nat) (zs : List Int) (a : Int) (w : World) (h : RI w A n zs) (hn : n ≤ 1048576) (hnc : n ≤ c) :
    Calls Tryd.prog 35 #[.agg #[.int .i64 W, .slice A n c], .int .i64 a, .func (.func 49) #[] #[]] w (FreshLB w (ifW (flpB W zs a) W) (ifL (flpB W zs a) (flpL zs a.toNat)).length (ifL (flpB W zs a) (flpL zs a.toNat)) (flpB W zs a)) := by
  have HB := belAlloc (belAlloc (belRefl (w := w)) (.cells #[.int .i64 W, .slice A n c] 29)) (.cells #[.int .i64 0, .slice none 0 0] 29)
  have HC : Hid (Cell2 ((w.alloc (.cells #[.int .i64 W, .slice A n c] 29)).alloc (.cells #[.int .i64 0, .slice none 0 0] 29)) (w.heap.size + 1) (.int .i64 0) (.slice none 0 0)) := by have := cellNew (w.alloc (.cells #[.int .i64 W, .slice A n c] 29)) (.int .i64 0) (.slice none 0 0) 29; simp only [World.size_alloc] at this; exact this
  have HA := boxAlloc (boxNew (W := W) (c := c) 29 h) (.cells #[.int .i64 0, .slice none 0 0] 29)
  have hl := h.1
  clear h
  rcases hq : lad W zs with _ | _
  · have e : flpB W zs a = false := by unfold flpB; rw [hq]; rfl
    rw [e, ifW_no, ifL_no]
    have HW := Lib.hid hq
    clear hq e
    go_enter Tryd.func35, Tryd.ntmps35
    go_wp2_with fail
    refine (iIsLadder_any W A n c zs _ HA.out.ri hn).mono ?_
    rw [HW.out]
    rintro e w1 ⟨rfl, hb⟩
    replace HB := belStep HB hb
    replace HC := cellStep HC hb
    have k0 := HC.out.c0; have k1 := HC.out.c1; have f0 := HC.out.f0; have f1 := HC.out.f1; have hz := HC.out.lt
    clear hb
    go_wp2
    exact bodyPost_ret (v := .tuple #[.agg #[.int .i64 0, .slice none 0 0], .bool false]) (by simp [results, Tryd.results35, go_sem, k0, k1]) rfl ⟨none, 0, rfl, OI.none_ _ _, (by repeat (first | exact Below.refl _ _ | exact HB.out | refine Below.setCell ?_ (by simp <;> omega) _ | refine Below.alloc ?_ (by simp <;> omega) _ | refine below_drewN ?_ _))⟩
  · have hn60 : n ≤ 60 := by have := (lad_iff.1 hq).2.1; omega
    obtain ⟨q, hqq⟩ : ∃ q, q = flpOk zs a := ⟨_, rfl⟩
    have e : flpB W zs a = q := by unfold flpB; rw [hq, hqq]; rfl
    rw [e]
    have HLC : Hid (∀ (A : Option Addr) (w : World), RI w A n zs → Calls Tryd.prog 49 #[.slice A n c, .int .i64 a] w (FreshIB w (ifL q (flpL zs a.toNat)).length (ifL q (flpL zs a.toNat)) q)) := fun A w h => by
      rw [hqq]; exact flip_any A n c zs a w h (by omega) hnc (lad_small hq)
    have HLD : Hid (q = true → lad W (flpL zs a.toNat) = true) := fun hqt => lad_flp hq (flpOk_le (by rw [← hqq]; exact hqt))
    obtain ⟨L, hL⟩ : ∃ L, L = flpL zs a.toNat := ⟨_, rfl⟩
    rw [← hL] at HLC HLD ⊢
    have HW := Lib.hid hq
    clear hq hqq e hL
    cases q
    · rw [ifW_no, ifL_no]
      rw [ifL_no] at HLC
      go_enter Tryd.func35, Tryd.ntmps35
      go_wp2_with fail
      refine (iIsLadder_any W A n c zs _ HA.out.ri hn).mono ?_
      rw [HW.out]
      rintro e w1 ⟨rfl, hb⟩
      replace HA := boxStep HA hb
      replace HB := belStep HB hb
      replace HC := cellStep HC hb
      have a0 := HA.out.c0; have a1 := HA.out.c1; have az := HA.out.lt
      clear hb
      go_wp2_with fail
      refine (HLC.out A _ HA.out.ri).mono ?_
      rintro e w2 ⟨A2, c2, rfl, o2, hb⟩
      replace HB := belStep HB hb
      replace HC := cellStep HC hb
      have k0 := HC.out.c0; have k1 := HC.out.c1; have f0 := HC.out.f0; have f1 := HC.out.f1; have hz := HC.out.lt
      clear hb o2 a0 a1
      go_wp2
      exact bodyPost_ret (v := .tuple #[.agg #[.int .i64 0, .slice none 0 0], .bool false]) (by simp [results, Tryd.results35, go_sem, k0, k1]) rfl ⟨none, 0, rfl, OI.none_ _ _, (by repeat (first | exact Below.refl _ _ | exact HB.out | refine Below.setCell ?_ (by simp <;> omega) _ | refine Below.alloc ?_ (by simp <;> omega) _ | refine below_drewN ?_ _))⟩
    · rw [ifW_yes, ifL_yes]
      rw [ifL_yes] at HLC
      have HL2 := Lib.hid (HLD.out rfl)
      have hll : L.length ≤ 60 := (lad_iff.1 HL2.out).2.1
      obtain ⟨m, hm⟩ : ∃ m, m = L.length := ⟨_, rfl⟩
      rw [← hm] at HLC hll ⊢
      have HM := Lib.hid hm
      clear hm HLD
      go_enter Tryd.func35, Tryd.ntmps35
      go_wp2_with fail
      refine (iIsLadder_any W A n c zs _ HA.out.ri hn).mono ?_
      rw [HW.out]
      rintro e w1 ⟨rfl, hb⟩
      replace HA := boxStep HA hb
      replace HB := belStep HB hb
      replace HC := cellStep HC hb
      have a0 := HA.out.c0; have a1 := HA.out.c1; have az := HA.out.lt
      clear hb
      go_wp2_with fail
      refine (HLC.out A _ HA.out.ri).mono ?_
      rintro e w2 ⟨A2, c2, rfl, o2, hb⟩
      have hz1 := HC.out.lt
      replace HA := boxStep HA hb
      replace HB := belStep HB hb
      replace HC := cellStep HC hb
      have O2 := Lib.hid o2
      replace a0 := HA.out.c0; replace a1 := HA.out.c1; replace az := HA.out.lt
      clear hb o2
      have HLO := Lib.hid (ladderOf_one W A2 m c2 L w2 O2.out.ri (by omega) HL2.out)
      go_wp2_with fail
      refine HLO.out.mono ?_
      rintro e w3 ⟨A3, c3, rfl, o3, hb⟩
      have hz2 := HC.out.lt
      replace HB := belStep (belAlloc HB _) hb
      replace HC := cellStep (cellAlloc HC _) hb
      have O3 : Hid (OI w3 w2.heap.size A3 m c3 L) := o3.mono (by simp)
      have k0 := HC.out.c0; have k1 := HC.out.c1; have f0 := HC.out.f0; have f1 := HC.out.f1; have hz := HC.out.lt
      clear hb o3 a0 a1
      go_wp2
      exact bodyPost_ret (v := .tuple #[.agg #[.int .i64 W, .slice A3 m c3], .bool true]) (by simp [results, Tryd.results35, go_sem, k0, k1]) rfl
        ⟨A3, c3, rfl, ((O3.out.setBelow (show w.heap.size + 1 < w2.heap.size by omega) _).setBelow (show w.heap.size + 1 < w2.heap.size by omega) _).mono (by omega), (by repeat (first | exact Below.refl _ _ | exact HB.out | refine Below.setCell ?_ (by simp <;> omega) _ | refine Below.alloc ?_ (by simp <;> omega) _ | refine below_drewN ?_ _))⟩

end Go.Proofs.YtnogmbhcphglkaaDoor
