/- CountFirst: the program's and the model's. -/
import Derived.Test.YtgeeifjbfceogaaGreatDoorMgM
namespace Go.Proofs.YtgeeifjbfceogaaGreatDoor
open Go Go.RowKit

def cfQ (zs : List Int) (x : Int) : Bool := cg zs && inB x 0 ((zs.length : Int) - 2)
/-- how many least ladders begin with the rung i -/
def cfI (zs : List Int) (i : Nat) : Nat := if gi zs i < gi zs (i + 1) then 0 else cnt (exch zs i)
def cfN (zs : List Int) (x : Int) : Int := if cfQ zs x = true then (cfI zs x.toNat : Int) else 0
theorem cfN_yes {zs : List Int} {x : Int} (h : cfQ zs x = true) : cfN zs x = (cfI zs x.toNat : Int) := by unfold cfN; rw [if_pos h]
theorem cfN_no {zs : List Int} {x : Int} (h : cfQ zs x = false) : cfN zs x = 0 := by unfold cfN; rw [h]; rfl
theorem cg_exch {zs : List Int} (h : cg zs = true) {i : Nat} (hi : i + 1 < zs.length) : cg (exch zs i) = true := by
  obtain ⟨h1, h2, h3⟩ := cg_iff.1 h
  exact cg_iff.2 ⟨ord_perm (exch_perm zs i hi).symm h1, by rw [exch_length]; exact h2, by rw [exch_length]; exact h3⟩

set_option maxRecDepth 100000 in
set_option maxHeartbeats 2000000 in
theorem iCountFirst_any (A : Option Addr) (n c : Nat) (zs : List Int) (x : Int) (w : World) (h : RI w A n zs) (hn : n ≤ 1048576) (hGl : Glob w) :
    Calls Tryz.prog 22 #[.slice A n c, .int .i64 x] w (RetIB (cfN zs x) (cfQ zs x) w) := by
  have hl := h.1
  have HI := Lib.hid (iIsCounted_any A n c zs w h hn)
  rcases hq : cg zs with _ | _
  · have e : cfQ zs x = false := by unfold cfQ; rw [hq]; rfl
    rw [cfN_no e, e]
    rw [hq] at HI
    clear hq e
    go_enter Tryz.func22, Tryz.ntmps22
    go_wp2_with fail
    refine HI.out.mono ?_
    rintro e w1 ⟨rfl, hb⟩
    go_wp2
    go_ret2
    exact ⟨rfl, hb⟩
  · obtain ⟨ho, h2, h6⟩ := cg_iff.1 hq
    by_cases hx0 : x < 0
    · have e : cfQ zs x = false := by unfold cfQ; rw [hq]; unfold inB; rw [decide_eq_false (by omega)]; rfl
      rw [cfN_no e, e]
      rw [hq] at HI
      clear hq e
      go_enter Tryz.func22, Tryz.ntmps22
      go_wp2_with fail
      refine HI.out.mono ?_
      rintro e w1 ⟨rfl, hb⟩
      go_wp2
      go_ret2
      exact ⟨rfl, hb⟩
    · by_cases hx1 : (n : Int) - 2 < x
      · have e : cfQ zs x = false := by unfold cfQ; rw [hq]; unfold inB; rw [decide_eq_false (by omega)]; rfl
        rw [cfN_no e, e]
        rw [hq] at HI
        clear hq e
        go_enter Tryz.func22, Tryz.ntmps22
        go_wp2_with fail
        refine HI.out.mono ?_
        rintro e w1 ⟨rfl, hb⟩
        go_wp2
        go_ret2
        exact ⟨rfl, hb⟩
      · have e : cfQ zs x = true := by unfold cfQ; rw [hq]; unfold inB; rw [decide_eq_true (by omega)]; rfl
        rw [cfN_yes e, e]
        rw [hq] at HI
        obtain ⟨i, rfl⟩ : ∃ i : Nat, x = (i : Int) := ⟨x.toNat, by omega⟩
        rw [Int.toNat_natCast]
        have hi : i + 1 < n := by omega
        have HH := Lib.hid h
        have HGL := Lib.hid hGl
        have HQQ := Lib.hid (cg_exch hq (i := i) (by omega))
        obtain ⟨b, off, rfl, hbw, hcell⟩ := h.cell (show i < n by omega)
        have hc0 := hcell i (by omega)
        have hc1 := hcell (i + 1) hi
        have hbn : n ≤ 6 := by omega
        clear hq e hcell h hGl ho h2 h6
        by_cases hd : gi zs i < gi zs (i + 1)
        · have e2 : cfI zs i = 0 := if_pos hd
          rw [e2]
          clear e2
          have HD := Lib.hid hd
          go_enter Tryz.func22, Tryz.ntmps22
          go_wp2_with fail
          refine HI.out.mono ?_
          rintro e w1 ⟨rfl, hb⟩
          have k0 := (hb.cell (p := ⟨b, off + i, none⟩) hbw).trans hc0
          have k1 := (hb.cell (p := ⟨b, off + (i + 1), none⟩) hbw).trans hc1
          have HB := Lib.hid hb
          clear hb
          go_wp2
          go_quiet (fail)
          go_wp2
          go_ret2
          exact ⟨rfl, below_drewN HB.out _⟩
        · have hd1 : gi zs (i + 1) ≤ gi zs i := by omega
          have e2 : cfI zs i = cnt (exch zs i) := if_neg hd
          rw [e2]
          clear e2
          have HCN : Hid (cntN (exch zs i) = (cnt (exch zs i) : Int)) := Lib.hid (cntN_yes HQQ.out)
          obtain ⟨v, hv⟩ : ∃ v : Int, v = (cnt (exch zs i) : Int) := ⟨_, rfl⟩
          rw [← hv] at HCN ⊢
          clear hv
          go_enter Tryz.func22, Tryz.ntmps22
          go_wp2_with fail
          refine HI.out.mono ?_
          rintro e w1 ⟨rfl, hb⟩
          have k0 := (hb.cell (p := ⟨b, off + i, none⟩) hbw).trans hc0
          have k1 := (hb.cell (p := ⟨b, off + (i + 1), none⟩) hbw).trans hc1
          have HB := Lib.hid hb
          have HR := riStep HH hb
          have HG := Lib.hid (HGL.out.below hb)
          clear hb
          go_wp2
          go_quiet (fail)
          go_wp2_with fail
          refine (restBelow_any _ n c zs i _ (HR.out.drewN _) (by omega) hi).mono ?_
          rintro e w2 ⟨A2, c2, rfl, o2, hb2⟩
          have HO2 := Lib.hid o2
          have HB2 : Hid (Below w.heap.size w w2) := Lib.hid ((below_drewN HB.out _).trans (hb2.mono (by simpa using HB.out.size)))
          have HG2 := Lib.hid (HGL.out.below HB2.out)
          clear o2 hb2
          go_wp2_with fail
          refine (iCountLeast_any A2 n c2 (exch zs i) _ HO2.out.ri (by omega) HG2.out).mono ?_
          rw [HCN.out, HQQ.out]
          rintro e w3 ⟨rfl, hb3⟩
          have HB3 := belStep HB2 hb3
          clear hb3
          go_wp2
          go_ret2
          exact ⟨rfl, HB3.out⟩

set_option maxRecDepth 100000 in
set_option maxHeartbeats 2000000 in
theorem sCountFirst_any (A : Option Addr) (n c : Nat) (zs : List Int) (x : Int) (w : World) (h : RI w A n zs) (hn : n ≤ 1048576) (hnc : n ≤ c) :
    Calls Tryz.prog 21 #[.slice A n c, .int .i64 x] w (RetIB (cfN zs x) (cfQ zs x) w) := by
  have hl := h.1
  have HI := Lib.hid (alGood_any A n c zs w h hn hnc)
  rcases hq : cg zs with _ | _
  · have e : cfQ zs x = false := by unfold cfQ; rw [hq]; rfl
    rw [cfN_no e, e]
    rw [hq] at HI
    clear hq e
    go_enter Tryz.func21, Tryz.ntmps21
    go_wp2_with fail
    refine HI.out.mono ?_
    rintro e w1 ⟨rfl, rfl⟩
    go_wp2
    go_ret2
    exact ⟨rfl, Below.refl _ _⟩
  · obtain ⟨ho, h2, h6⟩ := cg_iff.1 hq
    have hw2 : IntKind.i64.wrap ((n : Int) - 2) = (n : Int) - 2 := IntWalk.i64_in _ (by omega)
    have HL := Lib.hid (l1In_any x 0 ((n : Int) - 2) w)
    rcases hx : inB x 0 ((n : Int) - 2) with _ | _
    · have e : cfQ zs x = false := by unfold cfQ; rw [hq, hl, hx]; rfl
      rw [cfN_no e, e]
      rw [hq] at HI
      rw [hx] at HL
      clear hq e hx
      go_enter Tryz.func21, Tryz.ntmps21
      go_wp2_with fail
      refine HI.out.mono ?_
      rintro e w1 ⟨rfl, rfl⟩
      go_wp2_with fail
      refine HL.out.mono ?_
      rintro e w2 ⟨rfl, rfl⟩
      go_wp2
      go_ret2
      exact ⟨rfl, Below.refl _ _⟩
    · have e : cfQ zs x = true := by unfold cfQ; rw [hq, hl, hx]; rfl
      rw [cfN_yes e, e]
      rw [hq] at HI
      rw [hx] at HL
      have hxx : 0 ≤ x ∧ x ≤ (n : Int) - 2 := of_decide_eq_true hx
      obtain ⟨i, rfl⟩ : ∃ i : Nat, x = (i : Int) := ⟨x.toNat, by omega⟩
      rw [Int.toNat_natCast]
      have hi : i + 1 < n := by omega
      have HH := Lib.hid h
      have HQQ := Lib.hid (cg_iff.1 (cg_exch hq (i := i) (by omega)))
      obtain ⟨b, off, rfl, hbw, hcell⟩ := h.cell (show i < n by omega)
      have hc0 := hcell i (by omega)
      have hc1 := hcell (i + 1) hi
      have hbn : n ≤ 6 := by omega
      have hb2n : 2 ≤ n := by omega
      clear hq e hcell h ho h2 h6 hx hxx
      by_cases hd : gi zs i < gi zs (i + 1)
      · have e2 : cfI zs i = 0 := if_pos hd
        rw [e2]
        clear e2
        go_enter Tryz.func21, Tryz.ntmps21
        go_wp2_with fail
        refine HI.out.mono ?_
        rintro e w1 ⟨rfl, rfl⟩
        go_wp2_with fail
        refine HL.out.mono ?_
        rintro e w2 ⟨rfl, rfl⟩
        go_wp2
        go_quiet (fail)
        go_wp2
        go_ret2
        exact ⟨rfl, below_drewN (Below.refl _ _) _⟩
      · have hd1 : gi zs (i + 1) ≤ gi zs i := by omega
        have e2 : cfI zs i = cnt (exch zs i) := if_neg hd
        rw [e2]
        clear e2
        go_enter Tryz.func21, Tryz.ntmps21
        go_wp2_with fail
        refine HI.out.mono ?_
        rintro e w1 ⟨rfl, rfl⟩
        go_wp2_with fail
        refine HL.out.mono ?_
        rintro e w2 ⟨rfl, rfl⟩
        go_wp2
        go_quiet (fail)
        go_wp2_with fail
        refine (alNew_any n _ hb2n hbn).mono ?_
        rintro e w3 ⟨g, r, cc, ks, rfl, hc, hr, hg, hb⟩
        have HC := Lib.hid hc
        have HB := Lib.hid hb
        have HR := riStep (Lib.hid (HH.out.drewN nq)) hb
        clear hc hb
        go_wp2_with fail
        refine (alSwap_any _ n c zs i _ HR.out (by omega) hi).mono ?_
        rintro e w4 ⟨A4, c4, rfl, o4, hb4⟩
        have HO4 := Lib.hid o4
        have HC4 := Lib.hid (HC.out.below hb4)
        have HB4 := Lib.hid (HB.out.trans (hb4.mono HB.out.size))
        have hrl := HC.out.rlt
        clear o4 hb4
        go_wp2_with fail
        refine (count_any n hb2n hbn g r cc (fac n) rfl (ninv (exch zs i) + 1) (exch zs i) HQQ.out.1 (by rw [exch_length, hl]) (Nat.lt_succ_self _) A4 c4 ks w4 HO4.out.ri HO4.out.le (fun b hb => by have := (HO4.out.blk b hb).1; omega) HC4.out).mono ?_
        rintro e w5 ⟨rfl, ks', hc', hg'⟩
        have HG := Lib.hid (HB4.out.grown hg' HB4.out.size (fun j hj => by injection hj with hj; omega))
        clear hc' hg'
        go_wp2
        go_ret2
        exact ⟨rfl, (below_drewN (Below.refl _ _) nq).trans (by exact HG.out)⟩
end Go.Proofs.YtgeeifjbfceogaaGreatDoor
