/- CountSorted and FirstUnsorted, of the program. -/
import Derived.Test.YtamkkmjldkhicaaNx3
import Derived.Test.YtamkkmjldkhicaaSo18
namespace Go.Proofs.Ytamkkmjldkhicaa
open Go Go.RowKit

theorem six_iff {W : Int} {zs : List Int} : sixB W zs = true ↔ lad W zs = true ∧ W ≤ 6 := by unfold sixB; rw [Bool.and_eq_true, decide_eq_true_iff]
def csV (W : Int) (zs : List Int) : Int := if sixB W zs = true then (cntK zs (ordAll W.toNat) (ordAll W.toNat).length : Int) else 0
theorem csV_no {W : Int} {zs : List Int} (h : sixB W zs = false) : csV W zs = 0 := by unfold csV; rw [if_neg (by rw [h]; decide)]
theorem csV_yes {W : Int} {zs : List Int} (h : sixB W zs = true) : csV W zs = (cntK zs (ordAll W.toNat) (ordAll W.toNat).length : Int) := by unfold csV; rw [if_pos h]
def fsB (W : Int) (zs : List Int) : Bool := sixB W zs && fuB zs (ordAll W.toNat)
def fsL (W : Int) (zs : List Int) : List Int := if sixB W zs = true then fuL zs (ordAll W.toNat) else []
theorem fsB_no {W : Int} {zs : List Int} (h : sixB W zs = false) : fsB W zs = false := by unfold fsB; rw [h]; rfl
theorem fsB_yes {W : Int} {zs : List Int} (h : sixB W zs = true) : fsB W zs = fuB zs (ordAll W.toNat) := by unfold fsB; rw [h]; rfl
theorem fsL_no {W : Int} {zs : List Int} (h : sixB W zs = false) : fsL W zs = [] := by unfold fsL; rw [if_neg (by rw [h]; decide)]
theorem fsL_yes {W : Int} {zs : List Int} (h : sixB W zs = true) : fsL W zs = fuL zs (ordAll W.toNat) := by unfold fsL; rw [if_pos h]
theorem fuL_lenO {zs : List Int} {L : List (List Int)} {n : Nat} (hl : ∀ v, v ∈ L → v.length ≤ n) : (fuL zs L).length ≤ n := by
  unfold fuL
  cases h : L.find? (fun v => !srtB (runS zs v)) with
  | none => simp
  | some v => exact hl v (List.mem_of_find?_eq_some h)
theorem fsL_le (W : Int) (zs : List Int) : (fsL W zs).length ≤ 1000 := by
  rcases h : sixB W zs with _ | _
  · rw [fsL_no h]; simp
  · rw [fsL_yes h]
    have h2 := (lad_iff.1 (six_iff.1 h).1).1
    refine Nat.le_trans (fuL_lenO (n := W.toNat) (fun v hv => ?_)) (by omega)
    rw [allF_mem _ v hv]; exact Nat.le_refl _

set_option maxRecDepth 100000 in
set_option maxHeartbeats 2000000 in
theorem iCountSorted_any (W : Int) (A : Option Addr) (m c : Nat) (zs : List Int) (w : World) (h : RI w A m zs) (hm : m ≤ 1048576) :
    Calls Try.prog 22 #[.agg #[.int .i64 W, .slice A m c]] w (RetIB (csV W zs) (sixB W zs) w) := by
  rcases hq : sixB W zs with _ | _
  · rw [csV_no hq]
    have HW := Lib.hid hq
    clear hq
    go_enter Try.func22, Try.ntmps22
    go_wp2_with fail
    have HB := belAlloc (belRefl (w := w)) (.cells #[.int .i64 W, .slice A m c] 28)
    refine (isTried_any W A m c zs _ (h.alloc _) hm).mono ?_
    rw [HW.out]
    rintro e w1 ⟨rfl, hb⟩
    replace HB := belStep HB hb
    clear hb h
    go_wp2
    go_ret2
    exact ⟨rfl, HB.out⟩
  · rw [csV_yes hq]
    have hq6 := six_iff.1 hq
    have h4 := (lad_iff.1 hq6.1).1
    have h5 := (lad_iff.1 hq6.1).2.1
    have hml := h.1
    obtain ⟨N, rfl⟩ : ∃ N : Nat, W = (N : Int) := ⟨W.toNat, by omega⟩
    rw [Int.toNat_natCast]
    have hz : rungsIn zs N := by have := rungsIn_of_lad hq6.1; rwa [Int.toNat_natCast] at this
    have HW := Lib.hid hq
    have hn6 : N ≤ 6 := by have := hq6.2; omega
    have hn8 : N ≤ 8 := by omega
    have hn0 : 0 < N := by omega
    have hm6 : m ≤ 60 := by omega
    have hP2 := ord_len hn6
    have hbr : ∀ j, j < (ordAll N).length → (gz (ordAll N) j).length = N := fun j hj => ord_row hj
    have HC := Lib.hid (fun w2 K A2 p c2 (e : p = (ordAll N).length) (r : RI w2 A m zs) (r2 : RBB w2 K A2 p (ordAll N)) => countSorted_any A m c zs K A2 p c2 (ordAll N) N w2 r r2 hn8 hn0 hm6 hz (by omega) (fun j hj => hbr j (by omega)))
    obtain ⟨L, hL⟩ : ∃ L, L = ordAll N := ⟨_, rfl⟩
    have HAB := Lib.hid (fun w2 => allOrders_any N w2 hn6)
    rw [← hL] at HC HAB ⊢
    clear hq h4 h5 hz hml hbr hL hP2 hq6
    go_enter Try.func22, Try.ntmps22
    go_wp2_with fail
    have HA := boxNew (W := (N : Int)) (c := c) 28 h
    have HB := belAlloc (belRefl (w := w)) (.cells #[.int .i64 (N : Int), .slice A m c] 28)
    refine (isTried_any (N : Int) A m c zs _ (h.alloc _) hm).mono ?_
    rw [HW.out]
    rintro e w1 ⟨rfl, hb⟩
    replace HA := boxStep HA hb
    replace HB := belStep HB hb
    have a0 := HA.out.c0; have a1 := HA.out.c1; have az := HA.out.lt
    have z1 := HB.out.size
    clear hb h
    go_wp2
    have AD := boxDrew HA; have BD := belDrew HB
    go_region_held3 (fun w' => w'.cell? ⟨w.heap.size, 0, none⟩ = some (.int .i64 (N : Int)) ∧ w'.cell? ⟨w.heap.size, 1, none⟩ = some (.slice A m c))
      (first | exact ⟨HA.out.c0, HA.out.c1⟩ | exact ⟨A2.out.c0, A2.out.c1⟩ | exact ⟨A3.out.c0, A3.out.c1⟩)
      (first
        | (go_at_call 53; refine (HAB.out _).mono ?_; rintro e w2 ⟨F2, d2, M2, S2, rfl, o2, hb⟩; have A2 := boxStep AD hb; have B2 := belStep BD hb; have O2 := Lib.hid o2.rb; clear hb o2)
        | (go_at_call 54; refine (HC.out _ _ _ _ _ rfl A2.out.ri O2.out).mono ?_; rintro e w3 ⟨rfl, hb⟩; have A3 := boxStep A2 hb; have B3 := belStep B2 hb; clear hb))
    go_wp2
    go_ret2
    exact ⟨rfl, B3.out⟩

set_option maxRecDepth 100000 in
set_option maxHeartbeats 2000000 in
theorem iFirstUnsorted_any (W : Int) (A : Option Addr) (m c : Nat) (zs : List Int) (w : World) (h : RI w A m zs) (hm : m ≤ 1048576) :
    Calls Try.prog 15 #[.agg #[.int .i64 W, .slice A m c]] w (FreshIB w (fsL W zs).length (fsL W zs) (fsB W zs)) := by
  rcases hq : sixB W zs with _ | _
  · rw [fsL_no hq, fsB_no hq]
    have HW := Lib.hid hq
    clear hq
    go_enter Try.func15, Try.ntmps15
    go_wp2_with fail
    have HB := belAlloc (belRefl (w := w)) (.cells #[.int .i64 W, .slice A m c] 28)
    refine (isTried_any W A m c zs _ (h.alloc _) hm).mono ?_
    rw [HW.out]
    rintro e w1 ⟨rfl, hb⟩
    replace HB := belStep HB hb
    clear hb h
    go_wp2
    go_ret2
    exact ⟨none, 0, rfl, OI.none_ _ _, HB.out⟩
  · rw [fsL_yes hq, fsB_yes hq]
    have hq6 := six_iff.1 hq
    have h4 := (lad_iff.1 hq6.1).1
    have h5 := (lad_iff.1 hq6.1).2.1
    have hml := h.1
    obtain ⟨N, rfl⟩ : ∃ N : Nat, W = (N : Int) := ⟨W.toNat, by omega⟩
    rw [Int.toNat_natCast]
    have hz : rungsIn zs N := by have := rungsIn_of_lad hq6.1; rwa [Int.toNat_natCast] at this
    have HW := Lib.hid hq
    have hn6 : N ≤ 6 := by have := hq6.2; omega
    have hn8 : N ≤ 8 := by omega
    have hn0 : 0 < N := by omega
    have hm6 : m ≤ 60 := by omega
    have hP2 := ord_len hn6
    have hbr : ∀ j, j < (ordAll N).length → (gz (ordAll N) j).length = N := fun j hj => ord_row hj
    have HC := Lib.hid (fun w2 B M A2 p c2 S (e : p = (ordAll N).length) (r : RI w2 A m zs) (r2 : OII w2 B M A2 p c2 (ordAll N) S) => firstUnsorted_any A m c zs B M A2 p c2 (ordAll N) S N w2 r r2 hn8 hn0 hm6 hz (by omega) (fun j hj => hbr j (by omega)))
    obtain ⟨L, hL⟩ : ∃ L, L = ordAll N := ⟨_, rfl⟩
    have HAB := Lib.hid (fun w2 => allOrders_any N w2 hn6)
    rw [← hL] at HC HAB ⊢
    obtain ⟨Y, hY⟩ : ∃ Y, Y = fuL zs L := ⟨_, rfl⟩
    obtain ⟨q, hqq⟩ : ∃ q, q = fuB zs L := ⟨_, rfl⟩
    rw [← hY, ← hqq] at HC ⊢
    clear hq h4 h5 hz hml hbr hL hP2 hq6 hY hqq
    go_enter Try.func15, Try.ntmps15
    go_wp2_with fail
    have HA := boxNew (W := (N : Int)) (c := c) 28 h
    have HB := belAlloc (belRefl (w := w)) (.cells #[.int .i64 (N : Int), .slice A m c] 28)
    refine (isTried_any (N : Int) A m c zs _ (h.alloc _) hm).mono ?_
    rw [HW.out]
    rintro e w1 ⟨rfl, hb⟩
    replace HA := boxStep HA hb
    replace HB := belStep HB hb
    have a0 := HA.out.c0; have a1 := HA.out.c1; have az := HA.out.lt
    have z1 := HB.out.size
    clear hb h
    go_wp2
    have AD := boxDrew HA; have BD := belDrew HB
    go_region_held3 (fun w' => w'.cell? ⟨w.heap.size, 0, none⟩ = some (.int .i64 (N : Int)) ∧ w'.cell? ⟨w.heap.size, 1, none⟩ = some (.slice A m c))
      (first | exact ⟨HA.out.c0, HA.out.c1⟩ | exact ⟨A2.out.c0, A2.out.c1⟩ | exact ⟨A3.out.c0, A3.out.c1⟩)
      (first
        | (go_at_call 53; refine (HAB.out _).mono ?_; rintro e w2 ⟨F2, d2, M2, S2, rfl, o2, hb⟩; have A2 := boxStep AD hb; have B2 := belStep BD hb; have O2 := Lib.hid o2; clear hb o2)
        | (go_at_call 52; refine (HC.out _ _ _ _ _ _ _ rfl A2.out.ri O2.out).mono ?_; rintro e w3 ⟨A9, c9, rfl, o3, hb⟩; have A3 := boxStep A2 hb; have B3 := belStep B2 hb; have O3 := Lib.hid (o3.mono (show w.heap.size ≤ _ from z1)); clear hb o3))
    go_wp2
    go_ret2
    exact ⟨A9, c9, rfl, O3.out, B3.out⟩
end Go.Proofs.Ytamkkmjldkhicaa
