/- Least ladders of few wires, and how many come before one. -/
import Derived.Test.YtgeeifjbfceogaaGreatDoorRk0
import Derived.Test.YtgeeifjbfceogaaGreatDoorMgR
import Derived.Test.YtgeeifjbfceogaaGreatDoorMgP
import Derived.Deep.RegionHeld3
namespace Go.Proofs.YtgeeifjbfceogaaGreatDoor
open Go Go.RowKit

/-- A least ladder of few wires. -/
def rlQ (W : Int) (zs : List Int) : Bool := lstB W zs && decide (W ≤ 6)
def crL (W : Int) (zs : List Int) : List Int := if rlQ W zs = true then res zs W.toNat else []
theorem crL_yes {W : Int} {zs : List Int} (h : rlQ W zs = true) : crL W zs = res zs W.toNat := by unfold crL; rw [if_pos h]
theorem crL_no {W : Int} {zs : List Int} (h : rlQ W zs = false) : crL W zs = [] := by unfold crL; rw [h]; rfl
theorem rlQ_iff {W : Int} {zs : List Int} : rlQ W zs = true ↔ lad W zs = true ∧ needN W zs = 0 ∧ W ≤ 6 := by
  unfold rlQ lstB
  rw [Bool.and_eq_true, Bool.and_eq_true, decide_eq_true_iff, decide_eq_true_iff]
  exact ⟨fun h => ⟨h.1.1, h.1.2, h.2⟩, fun h => ⟨⟨h.1, h.2.1⟩, h.2.2⟩⟩

def rnkN (W : Int) (zs : List Int) : Int := if rlQ W zs = true then (rkF (res zs W.toNat) zs 0 : Int) else 0
theorem rnkN_yes {W : Int} {zs : List Int} (h : rlQ W zs = true) : rnkN W zs = (rkF (res zs W.toNat) zs 0 : Int) := by unfold rnkN; rw [if_pos h]
theorem rnkN_no {W : Int} {zs : List Int} (h : rlQ W zs = false) : rnkN W zs = 0 := by unfold rnkN; rw [h]; rfl

set_option maxRecDepth 100000 in
set_option maxHeartbeats 2000000 in
theorem countedResult_any (W : Int) (A : Option Addr) (n c : Nat) (zs : List Int) (w : World) (h : RI w A n zs) (hn : n ≤ 1048576) :
    Calls Tryz.prog 58 #[.agg #[.int .i64 W, .slice A n c]] w (FreshIB w (crL W zs).length (crL W zs) (rlQ W zs)) := by
  have HA := boxNew (W := W) (c := c) 44 h
  have HB := belAlloc (belRefl (w := w)) (.cells #[.int .i64 W, .slice A n c] 44)
  have HI := Lib.hid (iIsLeast_any W A n c zs _ HA.out.ri hn)
  have HR : Hid (∀ w, RI w A n zs → Calls Tryz.prog 80 #[.agg #[.int .i64 W, .slice A n c]] w (FreshIB w (resN W zs).length (resN W zs) (lad W zs))) := fun w h => iResultOf_any W A n c zs w h hn
  clear h
  rcases hq : lad W zs with _ | _
  · have e : rlQ W zs = false := by unfold rlQ lstB; rw [hq]; rfl
    rw [crL_no e, e]
    rw [hq, lstB_no hq] at HI
    clear hq e HR
    go_enter Tryz.func58, Tryz.ntmps58
    go_wp2_with fail
    refine HI.out.mono ?_
    rintro e w1 ⟨rfl, hb⟩
    replace HB := belStep HB hb
    clear hb
    go_wp2
    go_ret2
    exact ⟨none, 0, rfl, OI.none_ _ _, HB.out⟩
  · rcases hl : lstB W zs with _ | _
    · have e : rlQ W zs = false := by unfold rlQ; rw [hl]; rfl
      rw [crL_no e, e]
      rw [hq, hl] at HI
      clear hq e HR hl
      go_enter Tryz.func58, Tryz.ntmps58
      go_wp2_with fail
      refine HI.out.mono ?_
      rintro e w1 ⟨rfl, hb⟩
      replace HB := belStep HB hb
      clear hb
      go_wp2
      go_ret2
      exact ⟨none, 0, rfl, OI.none_ _ _, HB.out⟩
    · rw [hq, hl] at HI
      by_cases h6 : W ≤ 6
      · have e : rlQ W zs = true := by unfold rlQ; rw [hl, decide_eq_true h6]; rfl
        have HL : Hid (crL W zs = resN W zs) := by show _ = _; rw [crL_yes e, resN_yes hq]
        rw [HL.out, e]
        rw [hq] at HR
        obtain ⟨L, hL⟩ : ∃ L, L = resN W zs := ⟨_, rfl⟩
        rw [← hL] at HR ⊢
        clear hq hl e hL HL
        go_enter Tryz.func58, Tryz.ntmps58
        go_wp2_with fail
        refine HI.out.mono ?_
        rintro e w1 ⟨rfl, hb⟩
        replace HA := boxStep HA hb; replace HB := belStep HB hb; have a0 := HA.out.c0; have a1 := HA.out.c1; have az := HA.out.lt
        have HZ := Lib.hid HB.out.size
        clear hb
        go_wp2_with fail
        refine (HR.out _ HA.out.ri).mono ?_
        rintro e w2 ⟨A2, c2, rfl, o2, hb⟩
        have HB2 := belStep HB hb
        have HO2 := Lib.hid (o2.mono HZ.out)
        clear hb o2
        go_wp2
        go_ret2
        exact ⟨A2, c2, rfl, HO2.out, HB2.out⟩
      · have h6' : 6 < W := by omega
        have e : rlQ W zs = false := by unfold rlQ; rw [hl, decide_eq_false h6]; rfl
        rw [crL_no e, e]
        clear hq e HR hl h6
        go_enter Tryz.func58, Tryz.ntmps58
        go_wp2_with fail
        refine HI.out.mono ?_
        rintro e w1 ⟨rfl, hb⟩
        replace HA := boxStep HA hb; replace HB := belStep HB hb; have a0 := HA.out.c0; have a1 := HA.out.c1; have az := HA.out.lt
        clear hb
        go_wp2
        go_ret2
        exact ⟨none, 0, rfl, OI.none_ _ _, HB.out⟩

end Go.Proofs.YtgeeifjbfceogaaGreatDoor
