/- The contracts of AreSlides, of the program and of its model. -/
import Derived.Test.YtbilpjlbbglccaaAs1
import Derived.Test.YtbilpjlbbglccaaStL
namespace Go.Proofs.Ytbilpjlbbglccaa
open Go Go.RowKit

def arsB (W : Int) (zs : List Int) (V : Int) (ys : List Int) : Bool := lad W zs && (lad V ys && decide (W = V))
def arsV (W : Int) (zs : List Int) (V : Int) (ys : List Int) : Bool := arsB W zs V ys && decide (nrm zs = nrm ys)
theorem ars_no {W : Int} {zs : List Int} {V : Int} {ys : List Int} (h : arsB W zs V ys = false) : arsV W zs V ys = false := by unfold arsV; rw [h]; rfl
theorem ars_yes {W : Int} {zs : List Int} {V : Int} {ys : List Int} (h : arsB W zs V ys = true) : arsV W zs V ys = decide (nrm zs = nrm ys) := by unfold arsV; rw [h]; rfl

set_option maxRecDepth 100000 in
set_option maxHeartbeats 1000000 in
theorem sAreSlides_any (W : Int) (A : Option Addr) (n c : Nat) (zs : List Int) (V : Int) (B : Option Addr) (m d : Nat) (ys : List Int) (w : World) (h : RI w A n zs) (hn : n ≤ 1048576) (_hnc : n ≤ c) (h' : RI w B m ys) (hm : m ≤ 1048576) (_hmd : m ≤ d) :
    Calls Try.prog 27 #[.agg #[.int .i64 W, .slice A n c], .agg #[.int .i64 V, .slice B m d]] w (RetBB (arsV W zs V ys) (arsB W zs V ys) w) := by
  have HA := boxAlloc (boxNew (W := W) (c := c) 26 h) (.cells #[.int .i64 V, .slice B m d] 26)
  have HD := boxNew (wi := w.alloc (.cells #[.int .i64 W, .slice A n c] 26)) (W := V) (c := d) 26 (h'.alloc _)
  simp only [World.size_alloc] at HD
  have HB := belAlloc (belAlloc (belRefl (w := w)) (.cells #[.int .i64 W, .slice A n c] 26)) (.cells #[.int .i64 V, .slice B m d] 26)
  have hl := h.1
  have hl' := h'.1
  clear h h'
  rcases hq : lad W zs with _ | _
  · have e : arsB W zs V ys = false := by unfold arsB; rw [hq]; rfl
    rw [ars_no e, e]
    have HW := Lib.hid hq
    clear hq e
    go_enter Try.func27, Try.ntmps27
    go_wp2_with fail
    refine (laGood_any W A n c zs _ HA.out.ri hn).mono ?_
    rw [HW.out]
    rintro e w1 ⟨rfl, hb⟩
    replace HA := boxStep HA hb; replace HD := boxStep HD hb; replace HB := belStep HB hb
    have a0 := HA.out.c0; have a1 := HA.out.c1; have az := HA.out.lt; have y0 := HD.out.c0; have y1 := HD.out.c1; have yz := HD.out.lt
    clear hb
    go_wp2
    go_ret2
    exact ⟨rfl, HB.out⟩
  · rcases hq2 : lad V ys with _ | _
    · have e : arsB W zs V ys = false := by unfold arsB; rw [hq, hq2]; rfl
      rw [ars_no e, e]
      have HW := Lib.hid hq
      have HV := Lib.hid hq2
      clear hq hq2 e
      go_enter Try.func27, Try.ntmps27
      go_wp2_with fail
      refine (laGood_any W A n c zs _ HA.out.ri hn).mono ?_
      rw [HW.out]
      rintro e w1 ⟨rfl, hb⟩
      replace HA := boxStep HA hb; replace HD := boxStep HD hb; replace HB := belStep HB hb
      have a0 := HA.out.c0; have a1 := HA.out.c1; have az := HA.out.lt; have y0 := HD.out.c0; have y1 := HD.out.c1; have yz := HD.out.lt
      clear hb
      go_wp2_with fail
      refine (laGood_any V B m d ys _ HD.out.ri hm).mono ?_
      rw [HV.out]
      rintro e w2 ⟨rfl, hb⟩
      replace HA := boxStep HA hb; replace HD := boxStep HD hb; replace HB := belStep HB hb
      replace a0 := HA.out.c0; replace a1 := HA.out.c1; replace az := HA.out.lt; replace y0 := HD.out.c0; replace y1 := HD.out.c1; replace yz := HD.out.lt
      clear hb
      go_wp2
      go_ret2
      exact ⟨rfl, HB.out⟩
    · have HW := Lib.hid hq
      have HV := Lib.hid hq2
      by_cases hWV : W = V
      · have e : arsB W zs V ys = true := by unfold arsB; rw [hq, hq2, decide_eq_true hWV]; rfl
        rw [ars_yes e, e]
        have hn60 : n ≤ 60 := by have := (lad_iff.1 hq).2.1; omega
        have hm60 : m ≤ 60 := by have := (lad_iff.1 hq2).2.1; omega
        have HNa : Hid (∀ (w : World), RI w A n zs → Calls Try.prog 40 #[.slice A n c] w (FreshI w n (nrm zs))) := fun w h => lsNormal_any A n c zs w h (by omega) (lad_small hq)
        have HNb : Hid (∀ (w : World), RI w B m ys → Calls Try.prog 40 #[.slice B m d] w (FreshI w m (nrm ys))) := fun w h => lsNormal_any B m d ys w h (by omega) (lad_small hq2)
        obtain ⟨L1, hL1⟩ : ∃ L, L = nrm zs := ⟨_, rfl⟩
        obtain ⟨L2, hL2⟩ : ∃ L, L = nrm ys := ⟨_, rfl⟩
        rw [← hL1] at HNa ⊢
        rw [← hL2] at HNb ⊢
        have HSM : Hid (∀ (A6 : Option Addr) (c6 : Nat) (A7 : Option Addr) (c7 : Nat) (w : World), RI w A6 n L1 → RI w A7 m L2 → Calls Try.prog 43 #[.slice A6 n c6, .slice A7 m c7] w (RetB (decide (L1 = L2)) w)) := fun A6 c6 A7 c7 w h g => lsSame_any A6 n c6 L1 A7 m c7 L2 w h g (by omega) (by omega)
        obtain ⟨q, hqq⟩ : ∃ q, q = decide (L1 = L2) := ⟨_, rfl⟩
        rw [← hqq] at HSM ⊢
        clear hq hq2 e hL1 hL2 hqq
        subst hWV
        go_enter Try.func27, Try.ntmps27
        go_wp2_with fail
        refine (laGood_any W A n c zs _ HA.out.ri hn).mono ?_
        rw [HW.out]
        rintro e w1 ⟨rfl, hb⟩
        replace HA := boxStep HA hb; replace HD := boxStep HD hb; replace HB := belStep HB hb
        have a0 := HA.out.c0; have a1 := HA.out.c1; have az := HA.out.lt; have y0 := HD.out.c0; have y1 := HD.out.c1; have yz := HD.out.lt
        clear hb
        go_wp2_with fail
        refine (laGood_any W B m d ys _ HD.out.ri hm).mono ?_
        rw [HV.out]
        rintro e w2 ⟨rfl, hb⟩
        replace HA := boxStep HA hb; replace HD := boxStep HD hb; replace HB := belStep HB hb
        replace a0 := HA.out.c0; replace a1 := HA.out.c1; replace az := HA.out.lt; replace y0 := HD.out.c0; replace y1 := HD.out.c1; replace yz := HD.out.lt
        clear hb
        go_wp2_with fail
        have ED := boxDrew HA; have FD := boxDrew HD; have BD := belDrew HB
        go_region_held3 (fun w' => w'.cell? ⟨w.heap.size, 1, none⟩ = some (.slice A n c) ∧ w'.cell? ⟨w.heap.size + 1, 1, none⟩ = some (.slice B m d))
          (first | exact ⟨HA.out.c1, HD.out.c1⟩ | exact ⟨HA6.out.c1, HD6.out.c1⟩ | exact ⟨HA7.out.c1, HD7.out.c1⟩ | exact ⟨HA8.out.c1, HD8.out.c1⟩)
          (first
            | (go_at_call 40; refine (HNb.out _ HD6.out.ri).mono ?_; rintro e w7 ⟨A7, c7, rfl, o7, hb⟩; have HA7 := boxStep HA6 hb; have HD7 := boxStep HD6 hb; have HB7 := belStep HB6 hb; have O67 := oiStep O6 hb; have O7 := Lib.hid o7; clear hb o7)
            | (go_at_call 40; refine (HNa.out _ ED.out.ri).mono ?_; rintro e w6 ⟨A6, c6, rfl, o6, hb⟩; have HA6 := boxStep ED hb; have HD6 := boxStep FD hb; have HB6 := belStep BD hb; have O6 := Lib.hid o6; clear hb o6)
            | (go_at_call 43; refine (HSM.out A6 c6 A7 c7 _ O67.out.ri O7.out.ri).mono ?_; rintro e w8 ⟨rfl, hb⟩; have HA8 := boxStep HA7 hb; have HD8 := boxStep HD7 hb; have HB8 := belStep HB7 hb; clear hb))
        go_wp2
        go_ret2
        exact ⟨rfl, HB8.out⟩
      · have e : arsB W zs V ys = false := by unfold arsB; rw [hq, hq2, decide_eq_false hWV]; rfl
        rw [ars_no e, e]
        have e0 : (W != V) = true := by rw [bne_iff_ne]; exact hWV
        clear hq hq2 e hWV
        go_enter Try.func27, Try.ntmps27
        go_wp2_with fail
        refine (laGood_any W A n c zs _ HA.out.ri hn).mono ?_
        rw [HW.out]
        rintro e w1 ⟨rfl, hb⟩
        replace HA := boxStep HA hb; replace HD := boxStep HD hb; replace HB := belStep HB hb
        have a0 := HA.out.c0; have a1 := HA.out.c1; have az := HA.out.lt; have y0 := HD.out.c0; have y1 := HD.out.c1; have yz := HD.out.lt
        clear hb
        go_wp2_with fail
        refine (laGood_any V B m d ys _ HD.out.ri hm).mono ?_
        rw [HV.out]
        rintro e w2 ⟨rfl, hb⟩
        replace HA := boxStep HA hb; replace HD := boxStep HD hb; replace HB := belStep HB hb
        replace a0 := HA.out.c0; replace a1 := HA.out.c1; replace az := HA.out.lt; replace y0 := HD.out.c0; replace y1 := HD.out.c1; replace yz := HD.out.lt
        clear hb
        go_wp2
        go_ret2
        exact ⟨rfl, HB.out⟩

set_option maxRecDepth 100000 in
set_option maxHeartbeats 1000000 in
theorem iAreSlides_any (W : Int) (A : Option Addr) (n c : Nat) (zs : List Int) (V : Int) (B : Option Addr) (m d : Nat) (ys : List Int) (w : World) (h : RI w A n zs) (hn : n ≤ 1048576) (hnc : n ≤ c) (h' : RI w B m ys) (hm : m ≤ 1048576) (hmd : m ≤ d) :
    Calls Try.prog 28 #[.agg #[.int .i64 W, .slice A n c], .agg #[.int .i64 V, .slice B m d]] w (RetBB (arsV W zs V ys) (arsB W zs V ys) w) := by
  have HA := boxAlloc (boxNew (W := W) (c := c) 26 h) (.cells #[.int .i64 V, .slice B m d] 26)
  have HD := boxNew (wi := w.alloc (.cells #[.int .i64 W, .slice A n c] 26)) (W := V) (c := d) 26 (h'.alloc _)
  simp only [World.size_alloc] at HD
  have HB := belAlloc (belAlloc (belRefl (w := w)) (.cells #[.int .i64 W, .slice A n c] 26)) (.cells #[.int .i64 V, .slice B m d] 26)
  have hl := h.1
  have hl' := h'.1
  clear h h'
  rcases hq : lad W zs with _ | _
  · have e : arsB W zs V ys = false := by unfold arsB; rw [hq]; rfl
    rw [ars_no e, e]
    have HW := Lib.hid hq
    clear hq e
    go_enter Try.func28, Try.ntmps28
    go_wp2_with fail
    refine (iIsLadder_any W A n c zs _ HA.out.ri hn).mono ?_
    rw [HW.out]
    rintro e w1 ⟨rfl, hb⟩
    replace HA := boxStep HA hb; replace HD := boxStep HD hb; replace HB := belStep HB hb
    have a0 := HA.out.c0; have a1 := HA.out.c1; have az := HA.out.lt; have y0 := HD.out.c0; have y1 := HD.out.c1; have yz := HD.out.lt
    clear hb
    go_wp2
    go_ret2
    exact ⟨rfl, HB.out⟩
  · rcases hq2 : lad V ys with _ | _
    · have e : arsB W zs V ys = false := by unfold arsB; rw [hq, hq2]; rfl
      rw [ars_no e, e]
      have HW := Lib.hid hq
      have HV := Lib.hid hq2
      clear hq hq2 e
      go_enter Try.func28, Try.ntmps28
      go_wp2_with fail
      refine (iIsLadder_any W A n c zs _ HA.out.ri hn).mono ?_
      rw [HW.out]
      rintro e w1 ⟨rfl, hb⟩
      replace HA := boxStep HA hb; replace HD := boxStep HD hb; replace HB := belStep HB hb
      have a0 := HA.out.c0; have a1 := HA.out.c1; have az := HA.out.lt; have y0 := HD.out.c0; have y1 := HD.out.c1; have yz := HD.out.lt
      clear hb
      go_wp2_with fail
      refine (iIsLadder_any V B m d ys _ HD.out.ri hm).mono ?_
      rw [HV.out]
      rintro e w2 ⟨rfl, hb⟩
      replace HA := boxStep HA hb; replace HD := boxStep HD hb; replace HB := belStep HB hb
      replace a0 := HA.out.c0; replace a1 := HA.out.c1; replace az := HA.out.lt; replace y0 := HD.out.c0; replace y1 := HD.out.c1; replace yz := HD.out.lt
      clear hb
      go_wp2
      go_ret2
      exact ⟨rfl, HB.out⟩
    · have HW := Lib.hid hq
      have HV := Lib.hid hq2
      by_cases hWV : W = V
      · have e : arsB W zs V ys = true := by unfold arsB; rw [hq, hq2, decide_eq_true hWV]; rfl
        rw [ars_yes e, e]
        have hn60 : n ≤ 60 := by have := (lad_iff.1 hq).2.1; omega
        have hm60 : m ≤ 60 := by have := (lad_iff.1 hq2).2.1; omega
        have HNa : Hid (∀ (w : World), RI w A n zs → Calls Try.prog 42 #[.slice A n c] w (FreshI w n (nrm zs))) := fun w h => firstSame_any A n c zs w h (by omega) hnc (lad_small hq)
        have HNb : Hid (∀ (w : World), RI w B m ys → Calls Try.prog 42 #[.slice B m d] w (FreshI w m (nrm ys))) := fun w h => firstSame_any B m d ys w h (by omega) hmd (lad_small hq2)
        obtain ⟨L1, hL1⟩ : ∃ L, L = nrm zs := ⟨_, rfl⟩
        obtain ⟨L2, hL2⟩ : ∃ L, L = nrm ys := ⟨_, rfl⟩
        rw [← hL1] at HNa ⊢
        rw [← hL2] at HNb ⊢
        have HSM : Hid (∀ (A6 : Option Addr) (c6 : Nat) (A7 : Option Addr) (c7 : Nat) (w : World), RI w A6 n L1 → RI w A7 m L2 → Calls Try.prog 44 #[.slice A6 n c6, .slice A7 m c7] w (RetB (decide (L1 = L2)) w)) := fun A6 c6 A7 c7 w h g => equalR_any A6 n c6 L1 A7 m c7 L2 w h g (by omega) (by omega)
        obtain ⟨q, hqq⟩ : ∃ q, q = decide (L1 = L2) := ⟨_, rfl⟩
        rw [← hqq] at HSM ⊢
        clear hq hq2 e hL1 hL2 hqq
        subst hWV
        go_enter Try.func28, Try.ntmps28
        go_wp2_with fail
        refine (iIsLadder_any W A n c zs _ HA.out.ri hn).mono ?_
        rw [HW.out]
        rintro e w1 ⟨rfl, hb⟩
        replace HA := boxStep HA hb; replace HD := boxStep HD hb; replace HB := belStep HB hb
        have a0 := HA.out.c0; have a1 := HA.out.c1; have az := HA.out.lt; have y0 := HD.out.c0; have y1 := HD.out.c1; have yz := HD.out.lt
        clear hb
        go_wp2_with fail
        refine (iIsLadder_any W B m d ys _ HD.out.ri hm).mono ?_
        rw [HV.out]
        rintro e w2 ⟨rfl, hb⟩
        replace HA := boxStep HA hb; replace HD := boxStep HD hb; replace HB := belStep HB hb
        replace a0 := HA.out.c0; replace a1 := HA.out.c1; replace az := HA.out.lt; replace y0 := HD.out.c0; replace y1 := HD.out.c1; replace yz := HD.out.lt
        clear hb
        go_wp2_with fail
        have ED := boxDrew HA; have FD := boxDrew HD; have BD := belDrew HB
        go_region_held3 (fun w' => w'.cell? ⟨w.heap.size, 1, none⟩ = some (.slice A n c) ∧ w'.cell? ⟨w.heap.size + 1, 1, none⟩ = some (.slice B m d))
          (first | exact ⟨HA.out.c1, HD.out.c1⟩ | exact ⟨HA6.out.c1, HD6.out.c1⟩ | exact ⟨HA7.out.c1, HD7.out.c1⟩ | exact ⟨HA8.out.c1, HD8.out.c1⟩)
          (first
            | (go_at_call 42; refine (HNb.out _ HD6.out.ri).mono ?_; rintro e w7 ⟨A7, c7, rfl, o7, hb⟩; have HA7 := boxStep HA6 hb; have HD7 := boxStep HD6 hb; have HB7 := belStep HB6 hb; have O67 := oiStep O6 hb; have O7 := Lib.hid o7; clear hb o7)
            | (go_at_call 42; refine (HNa.out _ ED.out.ri).mono ?_; rintro e w6 ⟨A6, c6, rfl, o6, hb⟩; have HA6 := boxStep ED hb; have HD6 := boxStep FD hb; have HB6 := belStep BD hb; have O6 := Lib.hid o6; clear hb o6)
            | (go_at_call 44; refine (HSM.out A6 c6 A7 c7 _ O67.out.ri O7.out.ri).mono ?_; rintro e w8 ⟨rfl, hb⟩; have HA8 := boxStep HA7 hb; have HD8 := boxStep HD7 hb; have HB8 := belStep HB7 hb; clear hb))
        go_wp2
        go_ret2
        exact ⟨rfl, HB8.out⟩
      · have e : arsB W zs V ys = false := by unfold arsB; rw [hq, hq2, decide_eq_false hWV]; rfl
        rw [ars_no e, e]
        have e0 : (W != V) = true := by rw [bne_iff_ne]; exact hWV
        clear hq hq2 e hWV
        go_enter Try.func28, Try.ntmps28
        go_wp2_with fail
        refine (iIsLadder_any W A n c zs _ HA.out.ri hn).mono ?_
        rw [HW.out]
        rintro e w1 ⟨rfl, hb⟩
        replace HA := boxStep HA hb; replace HD := boxStep HD hb; replace HB := belStep HB hb
        have a0 := HA.out.c0; have a1 := HA.out.c1; have az := HA.out.lt; have y0 := HD.out.c0; have y1 := HD.out.c1; have yz := HD.out.lt
        clear hb
        go_wp2_with fail
        refine (iIsLadder_any V B m d ys _ HD.out.ri hm).mono ?_
        rw [HV.out]
        rintro e w2 ⟨rfl, hb⟩
        replace HA := boxStep HA hb; replace HD := boxStep HD hb; replace HB := belStep HB hb
        replace a0 := HA.out.c0; replace a1 := HA.out.c1; replace az := HA.out.lt; replace y0 := HD.out.c0; replace y1 := HD.out.c1; replace yz := HD.out.lt
        clear hb
        go_wp2
        go_ret2
        exact ⟨rfl, HB.out⟩
end Go.Proofs.Ytbilpjlbbglccaa
