/- The contract of ReduceLadder's model. -/
import Derived.Test.YtcomgoapekkleaaRd2
namespace Go.Proofs.Ytcomgoapekkleaa
open Go Go.RowKit

set_option maxRecDepth 100000 in
set_option maxHeartbeats 4000000 in
theorem sReduceLadder_any (W : Int) (A : Option Addr) (n c : Nat) (zs : List Int) (w : World) (h : RI w A n zs) (hn : n ≤ 1048576) :
    Calls Try.prog 43 #[.agg #[.int .i64 W, .slice A n c]] w (FreshLB w (ifW (lad W zs) W) (redL W zs).length (redL W zs) (lad W zs)) := by
  unfold redL
  rcases hq : lad W zs with _ | _
  · rw [ifW_no, ifL_no]
    have HW := Lib.hid hq
    clear hq
    go_enter Try.func43, Try.ntmps43
    go_wp2_with fail
    have HB := belAlloc (belAlloc (belRefl (w := w)) (.cells #[.int .i64 W, .slice A n c] 37)) (.cells #[.int .i64 0, .slice none 0 0] 37)
    have HC := cellNew (w.alloc (.cells #[.int .i64 W, .slice A n c] 37)) (.int .i64 0) (.slice none 0 0) 37
    refine (laGood_any W A n c zs _ ((h.alloc _).alloc _) hn).mono ?_
    rw [HW.out]
    rintro e w1 ⟨rfl, hb⟩
    replace HB := belStep HB hb
    replace HC := cellStep HC hb
    have k0 := HC.out.c0; have k1 := HC.out.c1; have f0 := HC.out.f0; have f1 := HC.out.f1; have hz := HC.out.lt
    simp only [World.size_alloc] at k0 k1 f0 f1 hz
    clear hb h
    go_wp2
    exact bodyPost_ret (v := .tuple #[.agg #[.int .i64 0, .slice none 0 0], .bool false]) (by simp [results, Try.results43, go_sem, k0, k1]) rfl ⟨none, 0, rfl, OI.none_ _ _, (by repeat (first | exact Below.refl _ _ | exact HB.out | refine Below.setCell ?_ (by simp <;> omega) _ | refine Below.alloc ?_ (by simp <;> omega) _ | refine below_drewN ?_ _))⟩
  · rw [ifW_yes, ifL_yes]
    have hW := (lad_iff.1 hq).1
    obtain ⟨N, rfl⟩ : ∃ N : Nat, W = (N : Int) := ⟨W.toNat, by omega⟩
    rw [Int.toNat_natCast]
    have HW := Lib.hid hq
    have HF : Hid (∀ (A : Option Addr) (c : Nat) (w : World), RI w A N (res zs N) → Calls Try.prog 52 #[.slice A N c] w (FreshI w (firstL (res zs N)).length (firstL (res zs N)))) := fun A c w h => lsFirst_any A N c _ w h (res_in hq) (by omega)
    obtain ⟨L, hL⟩ : ∃ L, L = firstL (res zs N) := ⟨_, rfl⟩
    rw [← hL] at HF ⊢
    clear hq hL
    go_enter Try.func43, Try.ntmps43
    go_wp2_with fail
    have HA := boxAlloc (boxNew (W := (N : Int)) (c := c) 37 h) (.cells #[.int .i64 0, .slice none 0 0] 37)
    have HB := belAlloc (belAlloc (belRefl (w := w)) (.cells #[.int .i64 (N : Int), .slice A n c] 37)) (.cells #[.int .i64 0, .slice none 0 0] 37)
    have HC := cellNew (w.alloc (.cells #[.int .i64 (N : Int), .slice A n c] 37)) (.int .i64 0) (.slice none 0 0) 37
    refine (laGood_any (N : Int) A n c zs _ HA.out.ri hn).mono ?_
    rw [HW.out]
    rintro e w1 ⟨rfl, hb⟩
    replace HA := boxStep HA hb
    replace HB := belStep HB hb
    replace HC := cellStep HC hb
    have hz1 := HC.out.lt
    simp only [World.size_alloc] at hz1
    have HC' : Hid (Cell2 w1 (w.heap.size + 1) (.int .i64 0) (.slice none 0 0)) := by have := HC.out; simp only [World.size_alloc] at this; exact this
    clear hb h HC
    go_wp2_with fail
    have HD := boxDrew HA; have HBD := belDrew HB; have HCD := cellDrew HC'
    go_region_held3 (fun w' => w'.cell? ⟨w.heap.size, 0, none⟩ = some (.int .i64 (N : Int)) ∧ w'.cell? ⟨w.heap.size, 1, none⟩ = some (.slice A n c))
      (first | exact ⟨HA.out.c0, HA.out.c1⟩ | exact ⟨HA6.out.c0, HA6.out.c1⟩ | exact ⟨HA7.out.c0, HA7.out.c1⟩ | exact ⟨(World.cell?_setCell_other _ _ _ _ (by simp)).trans ((World.cell?_setCell_other _ _ _ _ (by simp)).trans HA7.out.c0), (World.cell?_setCell_other _ _ _ _ (by simp)).trans ((World.cell?_setCell_other _ _ _ _ (by simp)).trans HA7.out.c1)⟩)
      (first
        | (go_at_call 58; refine (laResult_any N A n c zs _ HD.out.ri hn HW.out).mono ?_; rintro e w6 ⟨A6, c6, rfl, o6, hb⟩; have HA6 := boxStep HD hb; have HB6 := belStep HBD hb; have HC6 := cellStep HCD hb; have O6 := Lib.hid o6; have hz6 : w1.heap.size ≤ w6.heap.size := hb.size; clear hb o6)
        | (go_at_call 52; refine (HF.out A6 c6 _ O6.out.ri).mono ?_; rintro e w7 ⟨A7, c7, rfl, o7, hb⟩; have HA7 := boxStep HA6 hb; have HB7 := belStep HB6 hb; have HC7 := cellStep HC6 hb; have O7 : Hid (OI w7 w1.heap.size A7 L.length c7 L) := o7.mono hz6; have k0 := HC7.out.c0; have k1 := HC7.out.c1; have f0 := HC7.out.f0; have f1 := HC7.out.f1; clear hb o7))
    have HB := HB7
    go_wp2
    have k0 := HC7.out.c0
    have k1 := HC7.out.c1
    have hz := HC7.out.lt
    exact bodyPost_ret (v := .tuple #[.agg #[.int .i64 N, .slice A7 L.length c7], .bool true]) (by simp [results, Try.results43, go_sem, k0, k1]) rfl
      ⟨A7, c7, rfl, ((O7.out.setBelow (show w.heap.size + 1 < w1.heap.size by omega) _).setBelow (show w.heap.size + 1 < w1.heap.size by omega) _).mono (by omega), (by repeat (first | exact Below.refl _ _ | exact HB.out | refine Below.setCell ?_ (by simp <;> omega) _ | refine Below.alloc ?_ (by simp <;> omega) _ | refine below_drewN ?_ _))⟩
end Go.Proofs.Ytcomgoapekkleaa
