/- TurnPole of the program; OpenPole and ClosePole. -/
import Derived.Test.YtjdkicanamengaaPo7
import Derived.Test.YtjdkicanamengaaPo8
import Derived.Deep.RegionHeld3
namespace Go.Proofs.Ytjdkicanamengaa
open Go Go.RowKit

set_option maxRecDepth 100000 in
set_option maxHeartbeats 4000000 in
theorem iTurnPole_any (W : Int) (A : Option Addr) (n c : Nat) (zs : List Int) (w : World) (h : RI w A n zs) (hn : n ≤ 1048576) :
    Calls Try.prog 34 #[.agg #[.int .i64 W, .slice A n c]] w (FreshLB w (ifW (pol W zs) W) (ifL (pol W zs) zs.reverse).length (ifL (pol W zs) zs.reverse) (pol W zs)) := by
  have hzl := Lib.hid h.1
  obtain ⟨q, hq⟩ : ∃ q, q = pol W zs := ⟨_, rfl⟩
  have HQ := Lib.hid hq
  have er : ifL q zs.reverse = (ifL q zs).reverse := by cases q <;> rfl
  have hl60 : (ifL q zs).length ≤ 60 := by
    cases q
    · simp [ifL]
    · rw [ifL_yes]; exact (pol_iff.1 hq.symm).2.1
  rw [← hq, er, List.length_reverse]
  obtain ⟨V, hV⟩ : ∃ V, V = ifW q W := ⟨_, rfl⟩
  obtain ⟨L, hL⟩ : ∃ L, L = ifL q zs := ⟨_, rfl⟩
  rw [← hV, ← hL]
  rw [← hL] at hl60
  have HVL := Lib.hid hV; have HLL := Lib.hid hL
  clear hq er hV hL
  go_enter Try.func34, Try.ntmps34
  go_wp2_with fail
  have HA := boxAlloc (boxNew (W := W) (c := c) 27 h) (.cells #[.int .i64 0, .slice none 0 0] 27)
  have HB := belAlloc (belAlloc (belRefl (w := w)) (.cells #[.int .i64 W, .slice A n c] 27)) (.cells #[.int .i64 0, .slice none 0 0] 27)
  have HC := cellNew (w.alloc (.cells #[.int .i64 W, .slice A n c] 27)) (.int .i64 0) (.slice none 0 0) 27
  have H2 := boxAlloc HA (.cells #[.slice A n c] 22)
  have B2 := belAlloc HB (.cells #[.slice A n c] 22)
  have C2 := cellAlloc HC (.cells #[.slice A n c] 22)
  have PT := Lib.hid (Parts.one (c := c) HA.out.ri)
  simp only [World.size_alloc] at PT
  refine (poleOf_any W _ 1 1 _ _ _ _ _ PT.out (by omega) zs (cat_one zs) (by rw [hzl.out]; exact hn)).mono ?_
  rw [← HQ.out, ← HVL.out, ← HLL.out]
  rintro e w2 ⟨A5, c5, rfl, o5, hb⟩
  have hL5 := blkLt o5
  have z0 := hb.size
  simp only [World.size_alloc] at z0
  have HO : Hid (OI (w2.alloc (.cells #[.int .i64 V, .slice A5 L.length c5] 27)) (w.heap.size + 2) A5 L.length c5 L) := oiAlloc (Lib.hid (o5.mono (by simp))) _
  have HM := cellNew w2 (.int .i64 V) (.slice A5 L.length c5) 27
  have B5 := belAlloc (belStep B2 hb) (.cells #[.int .i64 V, .slice A5 L.length c5] 27)
  have C5 := cellAlloc (cellStep C2 hb) (.cells #[.int .i64 V, .slice A5 L.length c5] 27)
  simp only [World.size_alloc] at C5
  have m0 := HM.out.c0; have m1 := HM.out.c1
  clear hb o5 h
  go_wp2_with fail
  refine (reverse_any (w.heap.size + 2) A5 L.length c5 L _ HO.out (by omega)).mono ?_
  rintro e w5 ⟨rfl, ho5, hg⟩
  have HMr := cellKept HM hg (blkLtMono hL5 (Nat.le_refl _))
  have HCr := cellKeptNe C5 hg HO.out (Nat.lt_succ_self _)
  have HY2 := Lib.hid ho5
  have hbg := ofMark (K := w.heap.size + 2) HO.out hg (Nat.le_refl _) (by have h1 := C5.out.lt; omega)
  have HBr : Hid (Below w.heap.size w w5) := B5.out.trans (hbg.mono (by omega))
  have k0 := HCr.out.c0; have k1 := HCr.out.c1; have f0 := HCr.out.f0; have f1 := HCr.out.f1
  clear m0 m1 ho5 hg hbg
  have m0 := HMr.out.c0; have m1 := HMr.out.c1; have mz := HMr.out.lt
  go_wp2
  exact bodyPost_ret (v := .tuple #[.agg #[.int .i64 V, .slice A5 L.length c5], .bool q]) (by simp [results, Try.results34, go_sem, k0, k1]) rfl
    ⟨_, _, rfl, ((HY2.out.setBelow (p := ⟨w.heap.size + 1, 0, none⟩) (by simp <;> omega) _).setBelow (p := ⟨w.heap.size + 1, 1, none⟩) (by simp <;> omega) _).mono (B' := w.heap.size) (by first | omega | (simp; omega)), (HBr.out.setCell (p := ⟨w.heap.size + 1, 0, none⟩) (by simp <;> omega) _).setCell (p := ⟨w.heap.size + 1, 1, none⟩) (by simp <;> omega) _⟩

def opB (W : Int) (zs : List Int) : Bool := pol W zs && lad W zs
theorem opB_1 {W : Int} {zs : List Int} (h : pol W zs = false) : opB W zs = false := by unfold opB; rw [h]; rfl
theorem opB_2 {W : Int} {zs : List Int} (h : pol W zs = true) : opB W zs = lad W zs := by unfold opB; rw [h]; rfl
def clB (W : Int) (zs : List Int) : Bool := lad W zs && pol W zs
theorem clB_1 {W : Int} {zs : List Int} (h : lad W zs = false) : clB W zs = false := by unfold clB; rw [h]; rfl
theorem clB_2 {W : Int} {zs : List Int} (h : lad W zs = true) : clB W zs = pol W zs := by unfold clB; rw [h]; rfl
theorem opN_len (W : Int) (zs : List Int) : (ifL (opB W zs) zs).length ≤ 1000 := by
  rcases h : opB W zs with _ | _
  · rw [ifL_no]; simp
  · rw [ifL_yes]; unfold opB at h; rw [Bool.and_eq_true] at h; have := (pol_iff.1 h.1).2.1; omega
theorem clN_len (W : Int) (zs : List Int) : (ifL (clB W zs) zs).length ≤ 1000 := by
  rcases h : clB W zs with _ | _
  · rw [ifL_no]; simp
  · rw [ifL_yes]; unfold clB at h; rw [Bool.and_eq_true] at h; have := (lad_iff.1 h.1).2.1; omega

set_option maxRecDepth 100000 in
set_option maxHeartbeats 4000000 in
theorem iOpenPole_any (W : Int) (A : Option Addr) (n c : Nat) (zs : List Int) (w : World) (h : RI w A n zs) (hn : n ≤ 1048576) :
    Calls Try.prog 38 #[.agg #[.int .i64 W, .slice A n c]] w (FreshLB w (ifW (opB W zs) W) (ifL (opB W zs) zs).length (ifL (opB W zs) zs) (opB W zs)) := by
  rcases hq : pol W zs with _ | _
  · rw [opB_1 hq, ifW_no, ifL_no]
    have HW := Lib.hid hq
    clear hq
    go_enter Try.func38, Try.ntmps38
    go_wp2_with fail
    have HA := boxAlloc (boxNew (W := W) (c := c) 27 h) (.cells #[.int .i64 0, .slice none 0 0] 50)
    have HB := belAlloc (belAlloc (belRefl (w := w)) (.cells #[.int .i64 W, .slice A n c] 27)) (.cells #[.int .i64 0, .slice none 0 0] 50)
    have HC := cellNew (w.alloc (.cells #[.int .i64 W, .slice A n c] 27)) (.int .i64 0) (.slice none 0 0) 50
    refine (iIsPole_any W A n c zs _ HA.out.ri hn).mono ?_
    rw [HW.out]
    rintro e w1 ⟨rfl, hb⟩
    replace HA := boxStep HA hb
    replace HB := belStep HB hb
    replace HC := cellStep HC hb
    simp only [World.size_alloc] at HC
    have a0 := HA.out.c0; have a1 := HA.out.c1; have az := HA.out.lt
    have cz := HC.out.lt
    clear hb h
    have k0 := HC.out.c0; have k1 := HC.out.c1; have f0 := HC.out.f0; have f1 := HC.out.f1
    go_wp2
    exact bodyPost_ret (v := .tuple #[.agg #[.int .i64 0, .slice none 0 0], .bool false]) (by simp [results, Try.results38, go_sem, k0, k1]) rfl ⟨none, 0, rfl, OI.none_ _ _, (by repeat (first | exact Below.refl _ _ | exact HB.out | refine Below.setCell ?_ (by simp <;> omega) _ | refine Below.alloc ?_ (by simp <;> omega) _ | refine below_drewN ?_ _))⟩
  · have hzl := Lib.hid h.1
    have hn60 : n ≤ 60 := by have := (pol_iff.1 hq).2.1; rw [h.1] at this; exact this
    have HW := Lib.hid hq
    rw [opB_2 hq]
    clear hq
    obtain ⟨q, hqq⟩ : ∃ q, q = lad W zs := ⟨_, rfl⟩
    rw [← hqq]
    have HQQ := Lib.hid hqq
    clear hqq
    go_enter Try.func38, Try.ntmps38
    go_wp2_with fail
    have HA := boxAlloc (boxNew (W := W) (c := c) 27 h) (.cells #[.int .i64 0, .slice none 0 0] 50)
    have HB := belAlloc (belAlloc (belRefl (w := w)) (.cells #[.int .i64 W, .slice A n c] 27)) (.cells #[.int .i64 0, .slice none 0 0] 50)
    have HC := cellNew (w.alloc (.cells #[.int .i64 W, .slice A n c] 27)) (.int .i64 0) (.slice none 0 0) 50
    refine (iIsPole_any W A n c zs _ HA.out.ri hn).mono ?_
    rw [HW.out]
    rintro e w1 ⟨rfl, hb⟩
    replace HA := boxStep HA hb
    replace HB := belStep HB hb
    replace HC := cellStep HC hb
    simp only [World.size_alloc] at HC
    have a0 := HA.out.c0; have a1 := HA.out.c1; have az := HA.out.lt
    have cz := HC.out.lt
    clear hb h
    go_wp2_with fail
    have H2 := boxAlloc HA (.cells #[.slice A n c] 22)
    have B2 := belAlloc HB (.cells #[.slice A n c] 22)
    have C2 := cellAlloc HC (.cells #[.slice A n c] 22)
    have PT := Lib.hid (Parts.one (c := c) HA.out.ri)
    refine (ladderOf_any W _ 1 1 _ _ _ _ _ PT.out (by omega) zs (cat_one zs) (by rw [hzl.out]; omega)).mono ?_
    rw [← HQQ.out]
    rintro e w5 ⟨A5, c5, rfl, o5, hb⟩
    have B5 := belStep B2 hb
    have C5 := cellStep C2 hb
    have O5 := Lib.hid o5
    have hz2 := B2.out.size
    simp only [World.size_alloc] at hz2
    have k0 := C5.out.c0; have k1 := C5.out.c1; have f0 := C5.out.f0; have f1 := C5.out.f1; have cz5 := C5.out.lt
    clear o5 hb
    go_wp2
    exact bodyPost_ret (v := .tuple #[.agg #[.int .i64 (ifW q W), .slice A5 (ifL q zs).length c5], .bool q]) (by simp [results, Try.results38, go_sem, k0, k1]) rfl
      ⟨_, _, rfl, ((O5.out.setBelow (p := ⟨w.heap.size + 1, 0, none⟩) (by simp <;> omega) _).setBelow (p := ⟨w.heap.size + 1, 1, none⟩) (by simp <;> omega) _).mono (B' := w.heap.size) (by first | omega | (simp; omega)), (B5.out.setCell (p := ⟨w.heap.size + 1, 0, none⟩) (by simp <;> omega) _).setCell (p := ⟨w.heap.size + 1, 1, none⟩) (by simp <;> omega) _⟩

set_option maxRecDepth 100000 in
set_option maxHeartbeats 4000000 in
theorem iClosePole_any (W : Int) (A : Option Addr) (n c : Nat) (zs : List Int) (w : World) (h : RI w A n zs) (hn : n ≤ 1048576) :
    Calls Try.prog 45 #[.agg #[.int .i64 W, .slice A n c]] w (FreshLB w (ifW (clB W zs) W) (ifL (clB W zs) zs).length (ifL (clB W zs) zs) (clB W zs)) := by
  rcases hq : lad W zs with _ | _
  · rw [clB_1 hq, ifW_no, ifL_no]
    have HW := Lib.hid hq
    clear hq
    go_enter Try.func45, Try.ntmps45
    go_wp2_with fail
    have HA := boxAlloc (boxNew (W := W) (c := c) 50 h) (.cells #[.int .i64 0, .slice none 0 0] 27)
    have HB := belAlloc (belAlloc (belRefl (w := w)) (.cells #[.int .i64 W, .slice A n c] 50)) (.cells #[.int .i64 0, .slice none 0 0] 27)
    have HC := cellNew (w.alloc (.cells #[.int .i64 W, .slice A n c] 50)) (.int .i64 0) (.slice none 0 0) 27
    refine (iIsLadder_any W A n c zs _ HA.out.ri hn).mono ?_
    rw [HW.out]
    rintro e w1 ⟨rfl, hb⟩
    replace HA := boxStep HA hb
    replace HB := belStep HB hb
    replace HC := cellStep HC hb
    simp only [World.size_alloc] at HC
    have a0 := HA.out.c0; have a1 := HA.out.c1; have az := HA.out.lt
    have cz := HC.out.lt
    clear hb h
    have k0 := HC.out.c0; have k1 := HC.out.c1; have f0 := HC.out.f0; have f1 := HC.out.f1
    go_wp2
    exact bodyPost_ret (v := .tuple #[.agg #[.int .i64 0, .slice none 0 0], .bool false]) (by simp [results, Try.results45, go_sem, k0, k1]) rfl ⟨none, 0, rfl, OI.none_ _ _, (by repeat (first | exact Below.refl _ _ | exact HB.out | refine Below.setCell ?_ (by simp <;> omega) _ | refine Below.alloc ?_ (by simp <;> omega) _ | refine below_drewN ?_ _))⟩
  · have hzl := Lib.hid h.1
    have hn60 : n ≤ 60 := by have := (lad_iff.1 hq).2.1; rw [h.1] at this; exact this
    have HW := Lib.hid hq
    rw [clB_2 hq]
    clear hq
    obtain ⟨q, hqq⟩ : ∃ q, q = pol W zs := ⟨_, rfl⟩
    rw [← hqq]
    have HQQ := Lib.hid hqq
    clear hqq
    go_enter Try.func45, Try.ntmps45
    go_wp2_with fail
    have HA := boxAlloc (boxNew (W := W) (c := c) 50 h) (.cells #[.int .i64 0, .slice none 0 0] 27)
    have HB := belAlloc (belAlloc (belRefl (w := w)) (.cells #[.int .i64 W, .slice A n c] 50)) (.cells #[.int .i64 0, .slice none 0 0] 27)
    have HC := cellNew (w.alloc (.cells #[.int .i64 W, .slice A n c] 50)) (.int .i64 0) (.slice none 0 0) 27
    refine (iIsLadder_any W A n c zs _ HA.out.ri hn).mono ?_
    rw [HW.out]
    rintro e w1 ⟨rfl, hb⟩
    replace HA := boxStep HA hb
    replace HB := belStep HB hb
    replace HC := cellStep HC hb
    simp only [World.size_alloc] at HC
    have a0 := HA.out.c0; have a1 := HA.out.c1; have az := HA.out.lt
    have cz := HC.out.lt
    clear hb h
    go_wp2_with fail
    have H2 := boxAlloc HA (.cells #[.slice A n c] 22)
    have B2 := belAlloc HB (.cells #[.slice A n c] 22)
    have C2 := cellAlloc HC (.cells #[.slice A n c] 22)
    have PT := Lib.hid (Parts.one (c := c) HA.out.ri)
    refine (poleOf_any W _ 1 1 _ _ _ _ _ PT.out (by omega) zs (cat_one zs) (by rw [hzl.out]; omega)).mono ?_
    rw [← HQQ.out]
    rintro e w5 ⟨A5, c5, rfl, o5, hb⟩
    have B5 := belStep B2 hb
    have C5 := cellStep C2 hb
    have O5 := Lib.hid o5
    have hz2 := B2.out.size
    simp only [World.size_alloc] at hz2
    have k0 := C5.out.c0; have k1 := C5.out.c1; have f0 := C5.out.f0; have f1 := C5.out.f1; have cz5 := C5.out.lt
    clear o5 hb
    go_wp2
    exact bodyPost_ret (v := .tuple #[.agg #[.int .i64 (ifW q W), .slice A5 (ifL q zs).length c5], .bool q]) (by simp [results, Try.results45, go_sem, k0, k1]) rfl
      ⟨_, _, rfl, ((O5.out.setBelow (p := ⟨w.heap.size + 1, 0, none⟩) (by simp <;> omega) _).setBelow (p := ⟨w.heap.size + 1, 1, none⟩) (by simp <;> omega) _).mono (B' := w.heap.size) (by first | omega | (simp; omega)), (B5.out.setCell (p := ⟨w.heap.size + 1, 0, none⟩) (by simp <;> omega) _).setCell (p := ⟨w.heap.size + 1, 1, none⟩) (by simp <;> omega) _⟩

set_option maxRecDepth 100000 in
set_option maxHeartbeats 4000000 in
theorem sOpenPole_any (W : Int) (A : Option Addr) (n c : Nat) (zs : List Int) (w : World) (h : RI w A n zs) (hn : n ≤ 1048576) :
    Calls Try.prog 37 #[.agg #[.int .i64 W, .slice A n c]] w (FreshLB w (ifW (opB W zs) W) (ifL (opB W zs) zs).length (ifL (opB W zs) zs) (opB W zs)) := by
  rcases hq : pol W zs with _ | _
  · rw [opB_1 hq, ifW_no, ifL_no]
    have HW := Lib.hid hq
    clear hq
    go_enter Try.func37, Try.ntmps37
    go_wp2_with fail
    have HA := boxAlloc (boxNew (W := W) (c := c) 27 h) (.cells #[.int .i64 0, .slice none 0 0] 50)
    have HB := belAlloc (belAlloc (belRefl (w := w)) (.cells #[.int .i64 W, .slice A n c] 27)) (.cells #[.int .i64 0, .slice none 0 0] 50)
    have HC := cellNew (w.alloc (.cells #[.int .i64 W, .slice A n c] 27)) (.int .i64 0) (.slice none 0 0) 50
    refine (poGood_any W A n c zs _ HA.out.ri hn).mono ?_
    rw [HW.out]
    rintro e w1 ⟨rfl, hb⟩
    replace HA := boxStep HA hb
    replace HB := belStep HB hb
    replace HC := cellStep HC hb
    simp only [World.size_alloc] at HC
    have a0 := HA.out.c0; have a1 := HA.out.c1; have az := HA.out.lt
    have cz := HC.out.lt
    clear hb h
    have k0 := HC.out.c0; have k1 := HC.out.c1; have f0 := HC.out.f0; have f1 := HC.out.f1
    go_wp2
    exact bodyPost_ret (v := .tuple #[.agg #[.int .i64 0, .slice none 0 0], .bool false]) (by simp [results, Try.results37, go_sem, k0, k1]) rfl ⟨none, 0, rfl, OI.none_ _ _, (by repeat (first | exact Below.refl _ _ | exact HB.out | refine Below.setCell ?_ (by simp <;> omega) _ | refine Below.alloc ?_ (by simp <;> omega) _ | refine below_drewN ?_ _))⟩
  · have hzl := Lib.hid h.1
    have hn60 : n ≤ 60 := by have := (pol_iff.1 hq).2.1; rw [h.1] at this; exact this
    have HW := Lib.hid hq
    rw [opB_2 hq]
    clear hq
    obtain ⟨q, hqq⟩ : ∃ q, q = lad W zs := ⟨_, rfl⟩
    rw [← hqq]
    have HQQ := Lib.hid hqq
    clear hqq
    go_enter Try.func37, Try.ntmps37
    go_wp2_with fail
    have HA := boxAlloc (boxNew (W := W) (c := c) 27 h) (.cells #[.int .i64 0, .slice none 0 0] 50)
    have HB := belAlloc (belAlloc (belRefl (w := w)) (.cells #[.int .i64 W, .slice A n c] 27)) (.cells #[.int .i64 0, .slice none 0 0] 50)
    have HC := cellNew (w.alloc (.cells #[.int .i64 W, .slice A n c] 27)) (.int .i64 0) (.slice none 0 0) 50
    refine (poGood_any W A n c zs _ HA.out.ri hn).mono ?_
    rw [HW.out]
    rintro e w1 ⟨rfl, hb⟩
    replace HA := boxStep HA hb
    replace HB := belStep HB hb
    replace HC := cellStep HC hb
    simp only [World.size_alloc] at HC
    have a0 := HA.out.c0; have a1 := HA.out.c1; have az := HA.out.lt
    have cz := HC.out.lt
    clear hb h
    have hz0 := HB.out.size
    go_wp2_with fail
    go_region_held3 (fun w' => w'.cell? ⟨w.heap.size, 0, none⟩ = some (.int .i64 W) ∧ w'.cell? ⟨w.heap.size, 1, none⟩ = some (.slice A n c))
      (first | exact ⟨HA.out.c0, HA.out.c1⟩ | exact ⟨H3.out.c0, H3.out.c1⟩ | exact ⟨H6.out.c0, H6.out.c1⟩ | exact ⟨farSet2 H6.out.c0 (by omega), farSet2 H6.out.c1 (by omega)⟩)
      (first
        | (go_at_call 59; refine (l1Own_any A n c zs _ (boxDrew HA).out.ri (by omega)).mono ?_; rintro e w3 ⟨A3, c3, rfl, o3, hb3⟩; have H3 := boxStep (boxDrew HA) hb3; have B3 := belStep (belDrew HB) hb3; have C3 := cellStep (cellDrew HC) hb3; have O3 : Hid (OI w3 w1.heap.size A3 n c3 zs) := o3; have z3 : w1.heap.size ≤ w3.heap.size := hb3.size; clear hb3 o3)
        | (go_at_call 63; refine (laIf_own W A3 n c3 zs w1.heap.size _ O3.out (by omega)).mono ?_; rw [← HQQ.out]; rintro e w6 ⟨A6, c6, rfl, o6, hb6⟩; have H6 := boxStep H3 hb6; have B6 := belStep B3 hb6; have C6 := cellStep C3 hb6; have O6 := Lib.hid o6; have k0 := C6.out.c0; have k1 := C6.out.c1; have f0 := C6.out.f0; have f1 := C6.out.f1; have cz6 := C6.out.lt; clear o6 hb6))
    go_wp2
    exact bodyPost_ret (v := .tuple #[.agg #[.int .i64 (ifW q W), .slice A6 (ifL q zs).length c6], .bool q]) (by simp [results, Try.results37, go_sem, k0, k1]) rfl
      ⟨_, _, rfl, ((O6.out.setBelow (p := ⟨w.heap.size + 1, 0, none⟩) (by simp <;> omega) _).setBelow (p := ⟨w.heap.size + 1, 1, none⟩) (by simp <;> omega) _).mono (B' := w.heap.size) (by first | omega | (simp; omega)), (B6.out.setCell (p := ⟨w.heap.size + 1, 0, none⟩) (by simp <;> omega) _).setCell (p := ⟨w.heap.size + 1, 1, none⟩) (by simp <;> omega) _⟩

set_option maxRecDepth 100000 in
set_option maxHeartbeats 4000000 in
theorem sClosePole_any (W : Int) (A : Option Addr) (n c : Nat) (zs : List Int) (w : World) (h : RI w A n zs) (hn : n ≤ 1048576) :
    Calls Try.prog 43 #[.agg #[.int .i64 W, .slice A n c]] w (FreshLB w (ifW (clB W zs) W) (ifL (clB W zs) zs).length (ifL (clB W zs) zs) (clB W zs)) := by
  rcases hq : lad W zs with _ | _
  · rw [clB_1 hq, ifW_no, ifL_no]
    have HW := Lib.hid hq
    clear hq
    go_enter Try.func43, Try.ntmps43
    go_wp2_with fail
    have HA := boxAlloc (boxNew (W := W) (c := c) 50 h) (.cells #[.int .i64 0, .slice none 0 0] 27)
    have HB := belAlloc (belAlloc (belRefl (w := w)) (.cells #[.int .i64 W, .slice A n c] 50)) (.cells #[.int .i64 0, .slice none 0 0] 27)
    have HC := cellNew (w.alloc (.cells #[.int .i64 W, .slice A n c] 50)) (.int .i64 0) (.slice none 0 0) 27
    refine (laGood_any W A n c zs _ HA.out.ri hn).mono ?_
    rw [HW.out]
    rintro e w1 ⟨rfl, hb⟩
    replace HA := boxStep HA hb
    replace HB := belStep HB hb
    replace HC := cellStep HC hb
    simp only [World.size_alloc] at HC
    have a0 := HA.out.c0; have a1 := HA.out.c1; have az := HA.out.lt
    have cz := HC.out.lt
    clear hb h
    have k0 := HC.out.c0; have k1 := HC.out.c1; have f0 := HC.out.f0; have f1 := HC.out.f1
    go_wp2
    exact bodyPost_ret (v := .tuple #[.agg #[.int .i64 0, .slice none 0 0], .bool false]) (by simp [results, Try.results43, go_sem, k0, k1]) rfl ⟨none, 0, rfl, OI.none_ _ _, (by repeat (first | exact Below.refl _ _ | exact HB.out | refine Below.setCell ?_ (by simp <;> omega) _ | refine Below.alloc ?_ (by simp <;> omega) _ | refine below_drewN ?_ _))⟩
  · have hzl := Lib.hid h.1
    have hn60 : n ≤ 60 := by have := (lad_iff.1 hq).2.1; rw [h.1] at this; exact this
    have HW := Lib.hid hq
    rw [clB_2 hq]
    clear hq
    obtain ⟨q, hqq⟩ : ∃ q, q = pol W zs := ⟨_, rfl⟩
    rw [← hqq]
    have HQQ := Lib.hid hqq
    clear hqq
    go_enter Try.func43, Try.ntmps43
    go_wp2_with fail
    have HA := boxAlloc (boxNew (W := W) (c := c) 50 h) (.cells #[.int .i64 0, .slice none 0 0] 27)
    have HB := belAlloc (belAlloc (belRefl (w := w)) (.cells #[.int .i64 W, .slice A n c] 50)) (.cells #[.int .i64 0, .slice none 0 0] 27)
    have HC := cellNew (w.alloc (.cells #[.int .i64 W, .slice A n c] 50)) (.int .i64 0) (.slice none 0 0) 27
    refine (laGood_any W A n c zs _ HA.out.ri hn).mono ?_
    rw [HW.out]
    rintro e w1 ⟨rfl, hb⟩
    replace HA := boxStep HA hb
    replace HB := belStep HB hb
    replace HC := cellStep HC hb
    simp only [World.size_alloc] at HC
    have a0 := HA.out.c0; have a1 := HA.out.c1; have az := HA.out.lt
    have cz := HC.out.lt
    clear hb h
    have hz0 := HB.out.size
    go_wp2_with fail
    go_region_held3 (fun w' => w'.cell? ⟨w.heap.size, 0, none⟩ = some (.int .i64 W) ∧ w'.cell? ⟨w.heap.size, 1, none⟩ = some (.slice A n c))
      (first | exact ⟨HA.out.c0, HA.out.c1⟩ | exact ⟨H3.out.c0, H3.out.c1⟩ | exact ⟨H6.out.c0, H6.out.c1⟩ | exact ⟨farSet2 H6.out.c0 (by omega), farSet2 H6.out.c1 (by omega)⟩)
      (first
        | (go_at_call 59; refine (l1Own_any A n c zs _ (boxDrew HA).out.ri (by omega)).mono ?_; rintro e w3 ⟨A3, c3, rfl, o3, hb3⟩; have H3 := boxStep (boxDrew HA) hb3; have B3 := belStep (belDrew HB) hb3; have C3 := cellStep (cellDrew HC) hb3; have O3 : Hid (OI w3 w1.heap.size A3 n c3 zs) := o3; have z3 : w1.heap.size ≤ w3.heap.size := hb3.size; clear hb3 o3)
        | (go_at_call 58; refine (poPole_own W A3 n c3 zs w1.heap.size _ O3.out (by omega)).mono ?_; rw [← HQQ.out]; rintro e w6 ⟨A6, c6, rfl, o6, hb6⟩; have H6 := boxStep H3 hb6; have B6 := belStep B3 hb6; have C6 := cellStep C3 hb6; have O6 := Lib.hid o6; have k0 := C6.out.c0; have k1 := C6.out.c1; have f0 := C6.out.f0; have f1 := C6.out.f1; have cz6 := C6.out.lt; clear o6 hb6))
    go_wp2
    exact bodyPost_ret (v := .tuple #[.agg #[.int .i64 (ifW q W), .slice A6 (ifL q zs).length c6], .bool q]) (by simp [results, Try.results43, go_sem, k0, k1]) rfl
      ⟨_, _, rfl, ((O6.out.setBelow (p := ⟨w.heap.size + 1, 0, none⟩) (by simp <;> omega) _).setBelow (p := ⟨w.heap.size + 1, 1, none⟩) (by simp <;> omega) _).mono (B' := w.heap.size) (by first | omega | (simp; omega)), (B6.out.setCell (p := ⟨w.heap.size + 1, 0, none⟩) (by simp <;> omega) _).setCell (p := ⟨w.heap.size + 1, 1, none⟩) (by simp <;> omega) _⟩

end Go.Proofs.Ytjdkicanamengaa
