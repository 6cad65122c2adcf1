/- The program's AllLeast. -/
import Derived.Test.YtgeeifjbfceogaaGreatDoorAl3
namespace Go.Proofs.YtgeeifjbfceogaaGreatDoor
open Go Go.RowKit

/-- an order whose least ladders are listed -/
def lsQ (zs : List Int) : Bool := cg zs && decide (cntN zs ≤ 800)
def lsL (zs : List Int) : List (List Int) := if lsQ zs = true then alL zs else []
theorem lsL_yes {zs : List Int} (h : lsQ zs = true) : lsL zs = alL zs := by unfold lsL; rw [if_pos h]
theorem lsL_no {zs : List Int} (h : lsQ zs = false) : lsL zs = [] := by unfold lsL; rw [h]; rfl
theorem lsQ_iff {zs : List Int} : lsQ zs = true ↔ cg zs = true ∧ cnt zs ≤ 800 := by
  unfold lsQ
  rw [Bool.and_eq_true, decide_eq_true_iff]
  constructor
  · rintro ⟨h1, h2⟩
    rw [cntN_yes h1] at h2
    exact ⟨h1, by omega⟩
  · rintro ⟨h1, h2⟩
    exact ⟨h1, by rw [cntN_yes h1]; omega⟩
theorem lsL_len (zs : List Int) : (lsL zs).length ≤ 800 := by
  rcases h : lsQ zs with _ | _
  · rw [lsL_no h]; simp
  · rw [lsL_yes h, alL_cnt]; exact (lsQ_iff.1 h).2
theorem lsL_row (zs : List Int) (j : Nat) : (gz (lsL zs) j).length ≤ 15 := by
  rcases h : lsQ zs with _ | _
  · rw [lsL_no h]; simp [gz]
  · rw [lsL_yes h]
    exact Nat.le_trans (alL_rows zs j) (ninv_six (cg_iff.1 (lsQ_iff.1 h).1).2.2)

theorem lsL_tot (zs : List Int) : ∀ (k : Nat), tot (lsL zs) k ≤ 15 * k
  | 0 => Nat.le_refl _
  | k + 1 => by
    have h1 := lsL_tot zs k
    have h2 := lsL_row zs k
    simp only [tot]; omega

def FreshRLB (w : World) (zss : List (List Int)) (b : Bool) (e : Ending) (w' : World) : Prop :=
  ∃ A c M S, e = .returned (.tuple #[.slice A zss.length c, .bool b]) ∧ OIL w' w.heap.size M A zss.length c zss S ∧ Below w.heap.size w w'
/-- new ladders of x wires of the call's own -/
def FreshLLB (w : World) (x : Int) (zss : List (List Int)) (b : Bool) (e : Ending) (w' : World) : Prop :=
  ∃ A c M S, e = .returned (.tuple #[.slice A zss.length c, .bool b]) ∧ OLL w' w.heap.size M A zss.length c (List.replicate zss.length x) zss S ∧ Below w.heap.size w w'

set_option maxHeartbeats 2000000 in
theorem listLeast_any (A : Option Addr) (n c : Nat) (zs : List Int) (w : World) (h : RI w A n zs) (hn : n ≤ 1048576) (hnc : n ≤ c) (hGl : Glob w) :
    Calls Tryz.prog 50 #[.slice A n c] w (FreshRLB w (lsL zs) (lsQ zs)) := by
  have HI := Lib.hid (iCountLeast_any A n c zs w h hn hGl)
  rcases hq : lsQ zs with _ | _
  · rw [lsL_no hq]
    rcases hc : cg zs with _ | _
    · rw [hc] at HI
      clear hc hq
      obtain ⟨r, hr⟩ : ∃ r, r = cntN zs := ⟨_, rfl⟩
      rw [← hr] at HI
      clear hr
      go_enter Tryz.func50, Tryz.ntmps50
      go_wp2_with fail
      refine HI.out.mono ?_
      rintro e w1 ⟨rfl, hb⟩
      have HB := Lib.hid hb
      clear hb
      go_wp2
      go_ret2
      exact ⟨none, 0, _, [], rfl, OIL.none_ _ _, HB.out⟩
    · have hgt : 800 < cntN zs := by
        unfold lsQ at hq
        rw [hc, Bool.true_and, decide_eq_false_iff_not] at hq
        omega
      rw [hc] at HI
      clear hc hq
      obtain ⟨r, hr⟩ : ∃ r, r = cntN zs := ⟨_, rfl⟩
      rw [← hr] at HI hgt
      clear hr
      go_enter Tryz.func50, Tryz.ntmps50
      go_wp2_with fail
      refine HI.out.mono ?_
      rintro e w1 ⟨rfl, hb⟩
      have HB := Lib.hid hb
      clear hb
      go_wp2
      go_ret2
      exact ⟨none, 0, _, [], rfl, OIL.none_ _ _, HB.out⟩
  · obtain ⟨hc, hle⟩ := lsQ_iff.1 hq
    rw [lsL_yes hq]
    rw [hc, cntN_yes hc] at HI
    obtain ⟨ho, h2, h6⟩ := cg_iff.1 hc
    have hl := h.1
    have HAL := Lib.hid (fun w1 (hb : Below w.heap.size w w1) => allLeast_any n (by omega) (by omega) (ninv zs + 1) zs ho hl (Nat.lt_succ_self _) hle A c w1 (h.below hb (Nat.le_refl _)) hnc)
    have hri : ((cnt zs : Nat) : Int) ≤ 800 := by omega
    obtain ⟨r, hr⟩ : ∃ r : Int, r = ((cnt zs : Nat) : Int) := ⟨_, rfl⟩
    rw [← hr] at HI hri
    clear hr hq hc hle ho h2 h6 hl h
    go_enter Tryz.func50, Tryz.ntmps50
    go_wp2_with fail
    refine HI.out.mono ?_
    rintro e w1 ⟨rfl, hb⟩
    have HB := Lib.hid hb
    clear hb
    go_wp2_with fail
    refine (HAL.out w1 HB.out).mono ?_
    rintro e w2 ⟨A2, c2, M2, S2, rfl, o2, hb2⟩
    have HB2 := belStep HB hb2
    have HO2 := Lib.hid (o2.mono HB.out.size)
    clear o2 hb2
    go_wp2
    go_ret2
    exact ⟨A2, c2, M2, S2, rfl, HO2.out, HB2.out⟩

set_option maxHeartbeats 2000000 in
theorem iAllLeast_any (A : Option Addr) (n c : Nat) (zs : List Int) (w : World) (h : RI w A n zs) (hn : n ≤ 1048576) (hnc : n ≤ c) (hGl : Glob w) :
    Calls Tryz.prog 16 #[.slice A n c] w (FreshLLB w (n : Int) (lsL zs) (lsQ zs)) := by
  have HI := Lib.hid (listLeast_any A n c zs w h hn hnc hGl)
  have hl := lsL_len zs
  rcases hq : lsQ zs with _ | _
  · rw [lsL_no hq]
    rw [lsL_no hq, hq] at HI
    clear hq hl
    go_enter Tryz.func16, Tryz.ntmps16
    go_wp2_with fail
    refine HI.out.mono ?_
    rintro e w1 ⟨A1, c1, M1, S1, rfl, _, hb⟩
    have HB := Lib.hid hb
    clear hb
    go_wp2
    go_ret2
    exact ⟨none, 0, _, [], rfl, OLL.none_ _ _, HB.out⟩
  · rw [hq] at HI
    obtain ⟨L, hL⟩ : ∃ L, L = lsL zs := ⟨_, rfl⟩
    rw [← hL] at HI hl ⊢
    clear hq hL h
    go_enter Tryz.func16, Tryz.ntmps16
    go_wp2_with fail
    refine HI.out.mono ?_
    rintro e w1 ⟨A1, c1, M1, S1, rfl, o1, hb⟩
    have HB := Lib.hid hb
    have HO := Lib.hid o1
    clear o1 hb
    go_wp2_with fail
    refine (laddersOf_any (n : Int) w.heap.size M1 A1 L.length c1 L S1 w1 HO.out HB.out.size (by omega)).mono ?_
    rintro e w2 ⟨A2, c2, M2, S2, rfl, o2, hb2⟩
    have HB2 := belStep HB hb2
    have HO2 := Lib.hid o2
    clear o2 hb2
    go_wp2
    go_ret2
    exact ⟨A2, c2, M2, S2, rfl, HO2.out, HB2.out⟩
end Go.Proofs.YtgeeifjbfceogaaGreatDoor
