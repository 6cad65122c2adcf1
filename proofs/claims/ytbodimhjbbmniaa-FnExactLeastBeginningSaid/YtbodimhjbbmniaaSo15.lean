/- The least beginning that sorts: mathematics and the program. -/
import Derived.Test.YtbodimhjbbmniaaSo14
namespace Go.Proofs.Ytbodimhjbbmniaa
open Go Go.RowKit

theorem exK_end (zs vs : List Int) : ∀ k, (exK zs vs k = [] ∧ ∀ i, i < k → exAt (runK zs vs i) (gi zs i).toNat = false) ∨
    ∃ e : Nat, e < k ∧ exK zs vs k ≠ [] ∧ gi (exK zs vs k) ((exK zs vs k).length - 1) = (e : Int) ∧ exAt (runK zs vs e) (gi zs e).toNat = true ∧ ∀ i, e < i → i < k → exAt (runK zs vs i) (gi zs i).toNat = false := by
  intro k
  induction k with
  | zero => exact .inl ⟨rfl, fun i hi => absurd hi (by omega)⟩
  | succ k ih =>
    rw [exK_succ]
    by_cases h : exAt (runK zs vs k) (gi zs k).toNat = true
    · rw [if_pos h]
      refine .inr ⟨k, by omega, by simp, ?_, h, fun i h1 h2 => absurd h1 (by omega)⟩
      rw [gi_lt (by simp)]
      simp
    · rw [if_neg h]
      simp only [Bool.not_eq_true] at h
      rcases ih with ⟨h1, h2⟩ | ⟨e, h1, h2, h3, h4, h5⟩
      · exact .inl ⟨h1, fun i hi => by
          by_cases e : i = k
          · subst e; exact h
          · exact h2 i (by omega)⟩
      · exact .inr ⟨e, by omega, h2, h3, h4, fun i h6 h7 => by
          by_cases e' : i = k
          · subst e'; exact h
          · exact h5 i h6 (by omega)⟩
theorem fall_unsorted {n : Nat} (h : 2 ≤ n) : srtB (fallL n) = false := by
  refine srtB_no (i := 0) (by rw [fallL_length]; omega) ?_
  rw [gi_fallL _ _ (by omega), gi_fallL _ _ (by omega)]
  omega
/-- the last exchange of the falling order: behind it, and not before, it is sorted -/
theorem least_end {zs : List Int} {n : Nat} (hn : 2 ≤ n) (hz : rungsIn zs n) (hs : srtB (runS zs (fallL n)) = true) :
    ∃ e : Nat, e < zs.length ∧ 0 < (exL zs (fallL n)).length ∧ gi (exL zs (fallL n)) ((exL zs (fallL n)).length - 1) = (e : Int) ∧ srtB (runK zs (fallL n) (e + 1)) = true ∧ ∀ k, k ≤ e → srtB (runK zs (fallL n) k) = false := by
  have hz' : rungsIn zs (fallL n).length := by rw [fallL_length]; exact hz
  rcases exK_end zs (fallL n) zs.length with ⟨h1, h2⟩ | ⟨e, h1, h2, h3, h4, h5⟩
  · have h3 := runK_quiet (zs := zs) (vs := fallL n) (k := 0) zs.length (Nat.zero_le _) (Nat.le_refl _) (fun i _ hi => h2 i hi)
    rw [runK_all, runK_zero] at h3
    rw [h3, fall_unsorted hn] at hs
    cases hs
  · refine ⟨e, h1, List.length_pos_iff.2 h2, h3, ?_, fun k hk => ?_⟩
    · have := runK_quiet (zs := zs) (vs := fallL n) (k := e + 1) zs.length (by omega) (Nat.le_refl _) (fun i h6 h7 => h5 i (by omega) h7)
      rw [runK_all] at this
      rw [← this]; exact hs
    · rcases h6 : srtB (runK zs (fallL n) k) with _ | _
      · rfl
      · have := exAt_sorted hz' h6 hk h1
        rw [h4] at this; cases this
theorem runK_take (zs vs : List Int) (k : Nat) : runS (zs.take k) vs = runK zs vs k := rfl
theorem rungsIn_take {zs : List Int} {n : Nat} (h : rungsIn zs n) (k : Nat) : rungsIn (zs.take k) n := by
  intro j hj
  have h1 : j < zs.length := by simp at hj; omega
  have h2 : gi (zs.take k) j = gi zs j := by rw [gi_lt hj, gi_lt h1]; simp
  rw [h2]; exact h j h1

/-- the least number of rungs -/
def lbV (W : Int) (zs : List Int) : Int := if isB W zs = true then gi (exL zs (fallL W.toNat)) ((exL zs (fallL W.toNat)).length - 1) + 1 else 0
theorem lbV_no {W : Int} {zs : List Int} (h : isB W zs = false) : lbV W zs = 0 := by unfold lbV; rw [if_neg (by rw [h]; decide)]
theorem lbV_yes {W : Int} {zs : List Int} (h : isB W zs = true) : lbV W zs = gi (exL zs (fallL W.toNat)) ((exL zs (fallL W.toNat)).length - 1) + 1 := by unfold lbV; rw [if_pos h]

set_option maxRecDepth 100000 in
set_option maxHeartbeats 2000000 in
theorem iLeastBeginning_any (W : Int) (A : Option Addr) (m c : Nat) (zs : List Int) (w : World) (h : RI w A m zs) (hm : m ≤ 1048576) :
    Calls Try.prog 38 #[.agg #[.int .i64 W, .slice A m c]] w (RetIB (lbV W zs) (isB W zs) w) := by
  have HI := Lib.hid (fun w2 (r : RI w2 A m zs) => iIsSorting_any W A m c zs w2 r hm)
  rcases hq : isB W zs with _ | _
  · rw [lbV_no hq]
    rw [hq] at HI
    obtain ⟨b, hb0⟩ : ∃ b, b = lad W zs := ⟨_, rfl⟩
    rw [← hb0] at HI
    clear hq hb0
    go_enter Try.func38, Try.ntmps38
    go_wp2_with fail
    have HB := belAlloc (belRefl (w := w)) (.cells #[.int .i64 W, .slice A m c] 28)
    refine (HI.out _ (h.alloc _)).mono ?_
    rintro e w1 ⟨rfl, hb⟩
    replace HB := belStep HB hb
    clear hb h HI
    go_wp2
    go_ret2
    exact ⟨rfl, HB.out⟩
  · rw [lbV_yes hq]
    rw [hq] at HI
    have hlad : lad W zs = true := by
      rcases h1 : lad W zs with _ | _
      · rw [isB_no h1] at hq; cases hq
      · rfl
    rw [hlad] at HI
    rw [isB_yes hlad] at hq
    have h4 := (lad_iff.1 hlad).1
    have h5 := (lad_iff.1 hlad).2.1
    have hml := h.1
    obtain ⟨N, rfl⟩ : ∃ N : Nat, W = (N : Int) := ⟨W.toNat, by omega⟩
    rw [Int.toNat_natCast] at hq ⊢
    have hz : rungsIn zs N := by have := rungsIn_of_lad hlad; rwa [Int.toNat_natCast] at this
    have hn8 : N ≤ 8 := by omega
    have hn0 : 0 < N := by omega
    have hm6 : m ≤ 60 := by omega
    obtain ⟨e0, he0, hx0, hx1, -, -⟩ := least_end (by omega) hz hq
    have HC := Lib.hid (fun w2 A2 c2 (r : RI w2 A m zs) (r2 : RI w2 A2 N (fallL N)) => compareDown_any A m c zs A2 N c2 (fallL N) w2 r r2 hn8 hn0 hm6 hz)
    have hxl : (exL zs (fallL N)).length ≤ 60 := by
      have := exK_le zs (fallL N) zs.length
      unfold exL; omega
    rw [hx1]
    obtain ⟨X, hX⟩ : ∃ X, X = exL zs (fallL N) := ⟨_, rfl⟩
    rw [← hX] at HC hx0 hx1 hxl
    obtain ⟨y, hy⟩ : ∃ y, X.length = y + 1 := ⟨X.length - 1, by omega⟩
    rw [hy] at HC hx0 hx1 hxl
    have e9 : y + 1 - 1 = y := by omega
    rw [e9] at hx1
    have HX1 := Lib.hid hx1
    have he6 : e0 ≤ 60 := by omega
    clear hq h4 h5 hz hml hX hy hx0 hx1 he0 e9
    go_enter Try.func38, Try.ntmps38
    go_wp2_with fail
    have HA := boxNew (W := (N : Int)) (c := c) 28 h
    have HB := belAlloc (belRefl (w := w)) (.cells #[.int .i64 (N : Int), .slice A m c] 28)
    refine (HI.out _ (h.alloc _)).mono ?_
    rintro e w1 ⟨rfl, hb⟩
    replace HA := boxStep HA hb
    replace HB := belStep HB hb
    have a0 := HA.out.c0; have a1 := HA.out.c1; have az := HA.out.lt
    clear hb h HI
    have hfd := fieldExchanges
    go_wp2
    have AD := boxDrew HA; have BD := belDrew HB
    go_region_held3 (fun w' => w'.cell? ⟨w.heap.size, 0, none⟩ = some (.int .i64 (N : Int)) ∧ w'.cell? ⟨w.heap.size, 1, none⟩ = some (.slice A m c))
      (first | exact ⟨HA.out.c0, HA.out.c1⟩ | exact ⟨A2.out.c0, A2.out.c1⟩ | exact ⟨A3.out.c0, A3.out.c1⟩)
      (first
        | (go_at_call 47; refine (fallingOrder_any N _ (by omega)).mono ?_; rintro e w2 ⟨F2, d2, rfl, o2, hb⟩; have A2 := boxStep AD hb; have B2 := belStep BD hb; have O2 := Lib.hid o2; clear hb o2)
        | (go_at_call 43; refine (HC.out _ _ _ A2.out.ri O2.out.ri).mono ?_; rintro e w3 ⟨G1, g1, E, d, rfl, -, o3, hb⟩; have A3 := boxStep A2 hb; have B3 := belStep B2 hb; have O3 := Lib.hid o3; clear hb o3))
    obtain ⟨b, rfl⟩ : ∃ b, E = some ⟨b, 0, none⟩ := by
      rcases O3.out.form with ⟨_, _, e1⟩ | ⟨g9, cur, e1, _⟩
      · omega
      · exact ⟨g9, e1⟩
    have cy : w3.cell? ⟨b, y, none⟩ = some (.int .i64 (e0 : Int)) := by
      have := O3.out.cells y (by omega)
      rw [this, HX1.out]
    have hw1 : IntKind.i64.wrap (((y + 1 : Nat) : Int) - 1) = (y : Int) := by rw [IntWalk.i64_in _ (by omega)]; omega
    have i1 : (y : Int) < ((y + 1 : Nat) : Int) := by omega
    have i2 : y < y + 1 := by omega
    have hw2 : IntKind.i64.wrap ((e0 : Int) + 1) = (e0 : Int) + 1 := IntWalk.i64_in _ (by omega)
    clear HC
    go_wp2
    go_ret2
    exact ⟨rfl, B3.out⟩
end Go.Proofs.Ytbodimhjbbmniaa
