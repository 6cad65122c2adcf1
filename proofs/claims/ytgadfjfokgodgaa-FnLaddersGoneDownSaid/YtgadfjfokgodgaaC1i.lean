/- The contracts of MeetingsOf, of the program and of its model. -/
import Derived.Test.YtgadfjfokgodgaaMgD
import Derived.Test.YtgadfjfokgodgaaMgC
import Derived.BigQuiet
import Derived.Deep.RegionHeld3
namespace Go.Proofs.Ytgadfjfokgodgaa
open Go Go.RowKit

/-- at how many of the first k rungs two meet -/
def meets (zs : List Int) (a b : Int) : Nat → Int
  | 0 => 0
  | k + 1 => meets zs a b k + if at_ zs a (k + 1) = at_ zs b k ∧ at_ zs b (k + 1) = at_ zs a k then 1 else 0
theorem meets_le (zs : List Int) (a b : Int) (k : Nat) : 0 ≤ meets zs a b k ∧ meets zs a b k ≤ k := by
  induction k with
  | zero => simp [meets]
  | succ k ih => simp only [meets]; split <;> omega
theorem meets_yes {zs : List Int} {a b : Int} {k : Nat} (h1 : at_ zs a (k + 1) = at_ zs b k) (h2 : at_ zs b (k + 1) = at_ zs a k) : meets zs a b k + 1 = meets zs a b (k + 1) := by simp [meets, h1, h2]
theorem meets_no {zs : List Int} {a b : Int} {k : Nat} (h : ¬ (at_ zs a (k + 1) = at_ zs b k ∧ at_ zs b (k + 1) = at_ zs a k)) : meets zs a b k = meets zs a b (k + 1) := by
  simp only [meets]; rw [if_neg h]; omega
def meetB (W : Int) (zs : List Int) (a b : Int) : Bool := wire W zs a && (wire W zs b && !(a == b))
def meetN (W : Int) (zs : List Int) (a b : Int) : Int := if meetB W zs a b = true then meets zs a b zs.length else 0
theorem meetN_yes {W : Int} {zs : List Int} {a b : Int} (h : meetB W zs a b = true) : meetN W zs a b = meets zs a b zs.length := by unfold meetN; rw [if_pos h]
theorem meetN_no {W : Int} {zs : List Int} {a b : Int} (h : meetB W zs a b = false) : meetN W zs a b = 0 := by unfold meetN; rw [h]; rfl
theorem meetB_1 {W : Int} {zs : List Int} {a b : Int} (h : wire W zs a = false) : meetB W zs a b = false := by simp [meetB, h]
theorem meetB_2 {W : Int} {zs : List Int} {a b : Int} (h : wire W zs b = false) : meetB W zs a b = false := by simp [meetB, h]
theorem meetB_3 {W : Int} {zs : List Int} {a b : Int} (h : a = b) : meetB W zs a b = false := by simp [meetB, h]
theorem meetB_4 {W : Int} {zs : List Int} {a b : Int} (h1 : wire W zs a = true) (h2 : wire W zs b = true) (h : a ≠ b) : meetB W zs a b = true := by simp [meetB, h1, h2, h]

set_option maxRecDepth 100000 in
set_option maxHeartbeats 4000000 in
theorem laMeet_any (A : Option Addr) (n c : Nat) (zs : List Int) (a b : Int) (w : World) (h : RI w A n zs) (hn : n ≤ 1048576) (ha : Wires zs a) :
    Calls Try.prog 46 #[.slice A n c, .int .i64 a, .int .i64 b] w (SameI (meets zs a b n) w) := by
  have hzl := h.1
  go_enter Try.func46, Try.ntmps46
  go_wp2
  go_loop [1, 2, 7, 9, 10, 11, 14] (fun s1 s2 s7 _ _ _ i => ∃ k : Nat, k ≤ n ∧ i = .int .i64 k ∧ s1 = .int .i64 (at_ zs a k) ∧ s2 = .int .i64 (at_ zs b k) ∧ s7 = .int .i64 (meets zs a b k)) (fun _ _ _ _ _ _ i => n - (intOf i).toNat)
  case atStart => exact ⟨0, Nat.zero_le _, rfl, by rw [at_zero], by rw [at_zero], rfl⟩
  case round =>
    obtain ⟨k, hk, rfl, rfl, rfl, rfl⟩ := hrel
    by_cases hlt : k < n
    · obtain ⟨bb, off, rfl, hbw, hc⟩ := h.cell hlt
      have hck := hc k hlt
      have g1 := ha.rung (k := k) (by omega)
      have g2 := meets_le zs a b k
      have HSa := Lib.hid (at_succ zs a k (by omega))
      have HSb := Lib.hid (at_succ zs b k (by omega))
      clear hc h
      by_cases c1 : at_ zs a (k + 1) = at_ zs b k
      · have e1 : (at_ zs a (k + 1) == at_ zs b k) = true := beq_iff_eq.2 c1
        by_cases c2 : at_ zs b (k + 1) = at_ zs a k
        · have e2 : (at_ zs b (k + 1) == at_ zs a k) = true := beq_iff_eq.2 c2
          have HM := Lib.hid (meets_yes c1 c2)
          clear c1 c2
          go_wp2_with (go_at_call 48; refine (laOver_any _ _ _ (by omega)).mono ?_; (first | rw [← HSa.out] | rw [← HSb.out]); rintro e w' ⟨rfl, rfl⟩)
          go_round
          case rel => exact ⟨k + 1, by omega, by go_num, rfl, rfl, by rw [HM.out]⟩
          case measure => simp [intOf]; omega
        · have e2 : (at_ zs b (k + 1) == at_ zs a k) = false := beq_eq_false_iff_ne.2 c2
          have HM := Lib.hid (meets_no (zs := zs) (a := a) (b := b) (k := k) (fun h => c2 h.2))
          clear c1 c2
          go_wp2_with (go_at_call 48; refine (laOver_any _ _ _ (by omega)).mono ?_; (first | rw [← HSa.out] | rw [← HSb.out]); rintro e w' ⟨rfl, rfl⟩)
          go_round
          case rel => exact ⟨k + 1, by omega, by go_num, rfl, rfl, by rw [HM.out]⟩
          case measure => simp [intOf]; omega
      · have e1 : (at_ zs a (k + 1) == at_ zs b k) = false := beq_eq_false_iff_ne.2 c1
        have HM := Lib.hid (meets_no (zs := zs) (a := a) (b := b) (k := k) (fun h => c1 h.1))
        clear c1
        go_wp2_with (go_at_call 48; refine (laOver_any _ _ _ (by omega)).mono ?_; (first | rw [← HSa.out] | rw [← HSb.out]); rintro e w' ⟨rfl, rfl⟩)
        go_round
        case rel => exact ⟨k + 1, by omega, by go_num, rfl, rfl, by rw [HM.out]⟩
        case measure => simp [intOf]; omega
    · obtain rfl : k = n := by omega
      go_wp2
      go_ret
      exact ⟨rfl, rfl⟩

set_option maxRecDepth 100000 in
set_option maxHeartbeats 4000000 in
theorem sMeetingsOf_any (W : Int) (A : Option Addr) (n c : Nat) (zs : List Int) (a b : Int) (w : World) (h : RI w A n zs) (hn : n ≤ 1048576) :
    Calls Try.prog 27 #[.agg #[.int .i64 W, .slice A n c], .int .i64 a, .int .i64 b] w (RetIB (meetN W zs a b) (meetB W zs a b) w) := by
  have hzl := Lib.hid h.1
  rcases hq : wire W zs a with _ | _
  · rw [meetN_no (meetB_1 hq), meetB_1 hq]
    have HW := Lib.hid hq
    clear hq
    go_enter Try.func27, Try.ntmps27
    go_wp2_with fail
    have HA := boxNew (W := W) (c := c) 26 h
    have HB := belAlloc (belRefl (w := w)) (.cells #[.int .i64 W, .slice A n c] 26)
    refine (laWire_any W A n c zs a _ HA.out.ri hn).mono ?_
    rw [HW.out]
    rintro e w1 ⟨rfl, hb⟩
    replace HB := belStep HB hb
    clear hb h
    go_wp2
    go_ret2
    exact ⟨rfl, HB.out⟩
  · rcases hq2 : wire W zs b with _ | _
    · rw [meetN_no (meetB_2 hq2), meetB_2 hq2]
      have HW := Lib.hid hq
      have HW2 := Lib.hid hq2
      clear hq hq2
      go_enter Try.func27, Try.ntmps27
      go_wp2_with fail
      have HA := boxNew (W := W) (c := c) 26 h
      have HB := belAlloc (belRefl (w := w)) (.cells #[.int .i64 W, .slice A n c] 26)
      refine (laWire_any W A n c zs a _ HA.out.ri hn).mono ?_
      rw [HW.out]
      rintro e w1 ⟨rfl, hb⟩
      replace HA := boxStep HA hb; replace HB := belStep HB hb; have a0 := HA.out.c0; have a1 := HA.out.c1; have az := HA.out.lt
      clear hb h
      go_wp2_with fail
      refine (laWire_any W A n c zs b _ HA.out.ri hn).mono ?_
      rw [HW2.out]
      rintro e w2 ⟨rfl, hb⟩
      replace HB := belStep HB hb
      clear hb
      go_wp2
      go_ret2
      exact ⟨rfl, HB.out⟩
    · by_cases hab : a = b
      · rw [meetN_no (meetB_3 hab), meetB_3 hab]
        have e1 : (a == b) = true := beq_iff_eq.2 hab
        have HW := Lib.hid hq
        have HW2 := Lib.hid hq2
        clear hq hq2 hab
        go_enter Try.func27, Try.ntmps27
        go_wp2_with fail
        have HA := boxNew (W := W) (c := c) 26 h
        have HB := belAlloc (belRefl (w := w)) (.cells #[.int .i64 W, .slice A n c] 26)
        refine (laWire_any W A n c zs a _ HA.out.ri hn).mono ?_
        rw [HW.out]
        rintro e w1 ⟨rfl, hb⟩
        replace HA := boxStep HA hb; replace HB := belStep HB hb; have a0 := HA.out.c0; have a1 := HA.out.c1; have az := HA.out.lt
        clear hb h
        go_wp2_with fail
        refine (laWire_any W A n c zs b _ HA.out.ri hn).mono ?_
        rw [HW2.out]
        rintro e w2 ⟨rfl, hb⟩
        replace HB := belStep HB hb
        clear hb
        go_wp2
        go_ret2
        exact ⟨rfl, HB.out⟩
      · rw [meetN_yes (meetB_4 hq hq2 hab), meetB_4 hq hq2 hab, hzl.out]
        have e1 : (a == b) = false := beq_eq_false_iff_ne.2 hab
        have HWa := Lib.hid (Wires.of hq)
        have HWb := Lib.hid (Wires.of hq2)
        have HW := Lib.hid hq
        have HW2 := Lib.hid hq2
        clear hq hq2 hab
        go_enter Try.func27, Try.ntmps27
        go_wp2_with fail
        have HA := boxNew (W := W) (c := c) 26 h
        have HB := belAlloc (belRefl (w := w)) (.cells #[.int .i64 W, .slice A n c] 26)
        refine (laWire_any W A n c zs a _ HA.out.ri hn).mono ?_
        rw [HW.out]
        rintro e w1 ⟨rfl, hb⟩
        replace HA := boxStep HA hb; replace HB := belStep HB hb; have a0 := HA.out.c0; have a1 := HA.out.c1; have az := HA.out.lt
        clear hb h
        go_wp2_with fail
        refine (laWire_any W A n c zs b _ HA.out.ri hn).mono ?_
        rw [HW2.out]
        rintro e w2 ⟨rfl, hb⟩
        replace HA := boxStep HA hb; replace HB := belStep HB hb; replace a0 := HA.out.c0; replace a1 := HA.out.c1; replace az := HA.out.lt; clear hb
        go_wp2_with fail
        refine (laMeet_any A n c zs a b _ HA.out.ri hn HWa.out).mono ?_
        rintro e w3 ⟨rfl, rfl⟩
        go_wp2
        go_ret2
        exact ⟨rfl, HB.out⟩

set_option maxRecDepth 100000 in
set_option maxHeartbeats 4000000 in
theorem iMeetingsOf_any (W : Int) (A : Option Addr) (n c : Nat) (zs : List Int) (a b : Int) (w : World) (h : RI w A n zs) (hn : n ≤ 1048576) :
    Calls Try.prog 18 #[.agg #[.int .i64 W, .slice A n c], .int .i64 a, .int .i64 b] w (RetIB (meetN W zs a b) (meetB W zs a b) w) := by
  have hzl := Lib.hid h.1
  rcases hq : wire W zs a with _ | _
  · rw [meetN_no (meetB_1 hq), meetB_1 hq]
    have HW := Lib.hid hq
    clear hq
    go_enter Try.func18, Try.ntmps18
    go_wp2_with fail
    have HA := boxNew (W := W) (c := c) 26 h
    have HB := belAlloc (belRefl (w := w)) (.cells #[.int .i64 W, .slice A n c] 26)
    refine (isStart_any W A n c zs a _ HA.out.ri hn).mono ?_
    rw [HW.out]
    rintro e w1 ⟨rfl, hb⟩
    replace HB := belStep HB hb
    clear hb h
    go_wp2
    go_ret2
    exact ⟨rfl, HB.out⟩
  · rcases hq2 : wire W zs b with _ | _
    · rw [meetN_no (meetB_2 hq2), meetB_2 hq2]
      have HW := Lib.hid hq
      have HW2 := Lib.hid hq2
      clear hq hq2
      go_enter Try.func18, Try.ntmps18
      go_wp2_with fail
      have HA := boxNew (W := W) (c := c) 26 h
      have HB := belAlloc (belRefl (w := w)) (.cells #[.int .i64 W, .slice A n c] 26)
      refine (isStart_any W A n c zs a _ HA.out.ri hn).mono ?_
      rw [HW.out]
      rintro e w1 ⟨rfl, hb⟩
      replace HA := boxStep HA hb; replace HB := belStep HB hb; have a0 := HA.out.c0; have a1 := HA.out.c1; have az := HA.out.lt
      clear hb h
      go_wp2_with fail
      refine (isStart_any W A n c zs b _ HA.out.ri hn).mono ?_
      rw [HW2.out]
      rintro e w2 ⟨rfl, hb⟩
      replace HB := belStep HB hb
      clear hb
      go_wp2
      go_ret2
      exact ⟨rfl, HB.out⟩
    · by_cases hab : a = b
      · rw [meetN_no (meetB_3 hab), meetB_3 hab]
        have e1 : (a == b) = true := beq_iff_eq.2 hab
        have HW := Lib.hid hq
        have HW2 := Lib.hid hq2
        clear hq hq2 hab
        go_enter Try.func18, Try.ntmps18
        go_wp2_with fail
        have HA := boxNew (W := W) (c := c) 26 h
        have HB := belAlloc (belRefl (w := w)) (.cells #[.int .i64 W, .slice A n c] 26)
        refine (isStart_any W A n c zs a _ HA.out.ri hn).mono ?_
        rw [HW.out]
        rintro e w1 ⟨rfl, hb⟩
        replace HA := boxStep HA hb; replace HB := belStep HB hb; have a0 := HA.out.c0; have a1 := HA.out.c1; have az := HA.out.lt
        clear hb h
        go_wp2_with fail
        refine (isStart_any W A n c zs b _ HA.out.ri hn).mono ?_
        rw [HW2.out]
        rintro e w2 ⟨rfl, hb⟩
        replace HB := belStep HB hb
        clear hb
        go_wp2
        go_ret2
        exact ⟨rfl, HB.out⟩
      · rw [meetN_yes (meetB_4 hq hq2 hab), meetB_4 hq hq2 hab, hzl.out]
        have e1 : (a == b) = false := beq_eq_false_iff_ne.2 hab
        have HWa := Lib.hid (Wires.of hq)
        have HWb := Lib.hid (Wires.of hq2)
        have HW := Lib.hid hq
        have HW2 := Lib.hid hq2
        clear hq hq2 hab
        go_enter Try.func18, Try.ntmps18
        go_wp2_with fail
        have HA := boxNew (W := W) (c := c) 26 h
        have HB := belAlloc (belRefl (w := w)) (.cells #[.int .i64 W, .slice A n c] 26)
        refine (isStart_any W A n c zs a _ HA.out.ri hn).mono ?_
        rw [HW.out]
        rintro e w1 ⟨rfl, hb⟩
        replace HA := boxStep HA hb; replace HB := belStep HB hb; have a0 := HA.out.c0; have a1 := HA.out.c1; have az := HA.out.lt
        clear hb h
        go_wp2_with fail
        refine (isStart_any W A n c zs b _ HA.out.ri hn).mono ?_
        rw [HW2.out]
        rintro e w2 ⟨rfl, hb⟩
        replace HA := boxStep HA hb; replace HB := belStep HB hb; replace a0 := HA.out.c0; replace a1 := HA.out.c1; replace az := HA.out.lt; clear hb
        go_wp2_with fail
        have HD := boxDrew HA; have HBD := belDrew HB
        go_region_held3 (fun w' => w'.cell? ⟨w.heap.size, 1, none⟩ = some (.slice A n c))
          (first | exact HA.out.c1 | exact HA5.out.c1 | exact HA6.out.c1)
          (first
            | (go_at_call_of 30 (Value.int .i64 a); refine (wayDown_any A n c zs a _ HD.out.ri hn HWa.out).mono ?_; rintro e w5 ⟨A5, c5, rfl, o5, hb⟩; have HA5 := boxStep HD hb; have HB5 := belStep HBD hb; have HO5 := Lib.hid o5; clear hb o5)
            | (go_at_call_of 30 (Value.int .i64 b); refine (wayDown_any A n c zs b _ HA5.out.ri hn HWb.out).mono ?_; rintro e w6 ⟨A6, c6, rfl, o6, hb⟩; have HA6 := boxStep HA5 hb; have HB6 := belStep HB5 hb; have HO6 := Lib.hid o6; have HO56 := oiStep HO5 hb; clear hb o6))
        obtain ⟨g5, rfl, _, hg5, hc5⟩ := HO56.out.some_
        obtain ⟨g6, rfl, _, hg6, hc6⟩ := HO6.out.some_
        have HC5 := Lib.hid hc5
        have HC6 := Lib.hid hc6
        clear hc5 hc6 HO6 HO56 a0 a1
        have a1 := HA6.out.c1
        have az6 := HA6.out.lt
        go_wp2
        go_loopw [8, 11, 38] (fun s8 _ i wr => ∃ k : Nat, k ≤ n ∧ i = .int .i64 k ∧ s8 = .int .i64 (meets zs a b k) ∧ Below w6.heap.size w6 wr) (fun _ _ i _ => n - (intOf i).toNat)
        case atStart => exact ⟨0, Nat.zero_le _, rfl, rfl, Below.refl _ _⟩
        case round =>
          obtain ⟨k, hk, rfl, rfl, hb⟩ := hrel
          have H2 := Lib.hid hb
          have g2 := meets_le zs a b k
          by_cases hlt : k < n
          · have d5 : wr.cell? ⟨g5, k, none⟩ = some (.int .i64 (at_ zs a k)) := (hb.cell (p := ⟨g5, k, none⟩) hg5).trans (by rw [HC5.out k (by omega), gi_down _ _ _ (by rw [hzl.out]; omega)])
            have d5' : wr.cell? ⟨g5, k + 1, none⟩ = some (.int .i64 (at_ zs a (k + 1))) := (hb.cell (p := ⟨g5, k + 1, none⟩) hg5).trans (by rw [HC5.out (k + 1) (by omega), gi_down _ _ _ (by rw [hzl.out]; omega)])
            have d6 : wr.cell? ⟨g6, k, none⟩ = some (.int .i64 (at_ zs b k)) := (hb.cell (p := ⟨g6, k, none⟩) hg6).trans (by rw [HC6.out k (by omega), gi_down _ _ _ (by rw [hzl.out]; omega)])
            have d6' : wr.cell? ⟨g6, k + 1, none⟩ = some (.int .i64 (at_ zs b (k + 1))) := (hb.cell (p := ⟨g6, k + 1, none⟩) hg6).trans (by rw [HC6.out (k + 1) (by omega), gi_down _ _ _ (by rw [hzl.out]; omega)])
            clear hb
            by_cases c2 : at_ zs b (k + 1) = at_ zs a k
            · have e2 : (at_ zs a k == at_ zs b (k + 1)) = true := beq_iff_eq.2 c2.symm
              by_cases c1 : at_ zs a (k + 1) = at_ zs b k
              · have e3 : (at_ zs b k == at_ zs a (k + 1)) = true := beq_iff_eq.2 c1.symm
                have HM := Lib.hid (meets_yes c1 c2)
                clear c1 c2
                go_wp2
                go_quiet (fail)
                go_wp2
                go_roundw
                case rel => exact ⟨k + 1, by omega, by go_num, by rw [← HM.out], below_drewN H2.out _⟩
                case measure => simp [intOf]; omega
              · have e3 : (at_ zs b k == at_ zs a (k + 1)) = false := beq_eq_false_iff_ne.2 (fun e => c1 e.symm)
                have HM := Lib.hid (meets_no (zs := zs) (a := a) (b := b) (k := k) (fun h => c1 h.1))
                clear c1 c2
                go_wp2
                go_quiet (fail)
                go_wp2
                go_roundw
                case rel => exact ⟨k + 1, by omega, by go_num, by rw [← HM.out], below_drewN H2.out _⟩
                case measure => simp [intOf]; omega
            · have e2 : (at_ zs a k == at_ zs b (k + 1)) = false := beq_eq_false_iff_ne.2 (fun e => c2 e.symm)
              have HM := Lib.hid (meets_no (zs := zs) (a := a) (b := b) (k := k) (fun h => c2 h.2))
              clear c2
              go_wp2
              go_quiet (fail)
              go_wp2
              go_roundw
              case rel => exact ⟨k + 1, by omega, by go_num, by rw [← HM.out], below_drewN H2.out _⟩
              case measure => simp [intOf]; omega
          · obtain rfl : k = n := by omega
            clear hb
            go_wp2
            go_ret2
            exact ⟨rfl, HB6.out.trans (H2.out.mono HB6.out.size)⟩
end Go.Proofs.Ytgadfjfokgodgaa
