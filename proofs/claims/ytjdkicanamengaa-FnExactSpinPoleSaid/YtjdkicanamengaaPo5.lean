/- What makes poles out of lists, of the program and of its model. -/
import Derived.Test.YtjdkicanamengaaPo4
import Derived.Test.YtjdkicanamengaaMgE
import Derived.Test.YtjdkicanamengaaLB
namespace Go.Proofs.Ytjdkicanamengaa
open Go Go.RowKit

theorem poleOf_any (W : Int) (PP : Option Addr) (k kc : Nat) (PA : Nat → Option Addr) (PN PC : Nat → Nat) (PZ : Nat → List Int) (w : World) (h : Parts w PP k PA PN PC PZ) (hk : k ≤ 1000000) (zs : List Int) (hz : cat PZ k = zs) (ht : zs.length ≤ 1048576) :
    Calls Try.prog 60 #[.int .i64 W, .slice PP k kc] w (FreshLB w (ifW (pol W zs) W) (ifL (pol W zs) zs).length (ifL (pol W zs) zs) (pol W zs)) := by
  subst hz
  rcases hq : pol W (cat PZ k) with _ | _
  · rw [ifW_no, ifL_no]; exact poleOf_no W PP k kc PA PN PC PZ w h hk ht hq
  · rw [ifW_yes, ifL_yes]; exact poleOf_yes W PP k kc PA PN PC PZ w h hk ht hq

set_option maxRecDepth 100000 in
set_option maxHeartbeats 4000000 in
theorem poPole_yes (W : Int) (A : Option Addr) (n c : Nat) (zs : List Int) (w : World) (h : RI w A n zs) (hn : n ≤ 1048576) (hq : pol W zs = true) :
    Calls Try.prog 58 #[.agg #[.int .i64 W, .slice A n c]] w fun e w' => e = .returned (.tuple #[.agg #[.int .i64 W, .slice A n c], .bool true]) ∧ Below w.heap.size w w' := by
  have HW := Lib.hid hq
  clear hq
  go_enter Try.func58, Try.ntmps58
  go_wp2_with fail
  have HA := boxAlloc (boxNew (W := W) (c := c) 27 h) (.cells #[.int .i64 0, .slice none 0 0] 27)
  have HB := belAlloc (belAlloc (belRefl (w := w)) (.cells #[.int .i64 W, .slice A n c] 27)) (.cells #[.int .i64 0, .slice none 0 0] 27)
  have HC := cellNew (w.alloc (.cells #[.int .i64 W, .slice A n c] 27)) (.int .i64 0) (.slice none 0 0) 27
  refine (poGood_any W A n c zs _ HA.out.ri hn).mono ?_
  rw [HW.out]
  rintro e w1 ⟨rfl, hb⟩
  replace HA := boxStep HA hb
  replace HB := belStep HB hb
  replace HC := cellStep HC hb
  have a0 := HA.out.c0; have a1 := HA.out.c1; have az := HA.out.lt
  have k0 := HC.out.c0; have k1 := HC.out.c1; have f0 := HC.out.f0; have f1 := HC.out.f1; have hz := HC.out.lt
  simp only [World.size_alloc] at k0 k1 f0 f1 hz
  clear hb h
  go_wp2
  exact bodyPost_ret (v := .tuple #[.agg #[.int .i64 W, .slice A n c], .bool true]) (by simp [results, Try.results58, go_sem, k0, k1]) rfl ⟨rfl, (HB.out.setCell (p := ⟨w.heap.size + 1, 0, none⟩) (by simp) _).setCell (p := ⟨w.heap.size + 1, 1, none⟩) (by simp) _⟩

set_option maxRecDepth 100000 in
set_option maxHeartbeats 4000000 in
theorem poPole_no (W : Int) (A : Option Addr) (n c : Nat) (zs : List Int) (w : World) (h : RI w A n zs) (hn : n ≤ 1048576) (hq : pol W zs = false) :
    Calls Try.prog 58 #[.agg #[.int .i64 W, .slice A n c]] w fun e w' => e = .returned (.tuple #[.agg #[.int .i64 0, .slice none 0 0], .bool false]) ∧ Below w.heap.size w w' := by
  have HW := Lib.hid hq
  clear hq
  go_enter Try.func58, Try.ntmps58
  go_wp2_with fail
  have HB := belAlloc (belAlloc (belRefl (w := w)) (.cells #[.int .i64 W, .slice A n c] 27)) (.cells #[.int .i64 0, .slice none 0 0] 27)
  have HC := cellNew (w.alloc (.cells #[.int .i64 W, .slice A n c] 27)) (.int .i64 0) (.slice none 0 0) 27
  refine (poGood_any W A n c zs _ ((h.alloc _).alloc _) hn).mono ?_
  rw [HW.out]
  rintro e w1 ⟨rfl, hb⟩
  replace HB := belStep HB hb
  replace HC := cellStep HC hb
  have k0 := HC.out.c0; have k1 := HC.out.c1; have f0 := HC.out.f0; have f1 := HC.out.f1; have hz := HC.out.lt
  simp only [World.size_alloc] at k0 k1 f0 f1 hz
  clear hb h
  go_wp2
  exact bodyPost_ret (v := .tuple #[.agg #[.int .i64 0, .slice none 0 0], .bool false]) (by simp [results, Try.results58, go_sem, k0, k1]) rfl ⟨rfl, (by repeat (first | exact Below.refl _ _ | exact HB.out | refine Below.setCell ?_ (by simp <;> omega) _ | refine Below.alloc ?_ (by simp <;> omega) _ | refine below_drewN ?_ _))⟩

/-- a ladder, if it is one, of rungs of the call's own -/
theorem poPole_own (W : Int) (A : Option Addr) (n c : Nat) (zs : List Int) (B : Nat) (w : World) (h : OI w B A n c zs) (hn : n ≤ 1048576) :
    Calls Try.prog 58 #[.agg #[.int .i64 W, .slice A n c]] w fun e w' => ∃ A' c', e = .returned (.tuple #[.agg #[.int .i64 (ifW (pol W zs) W), .slice A' (ifL (pol W zs) zs).length c'], .bool (pol W zs)]) ∧ OI w' B A' (ifL (pol W zs) zs).length c' (ifL (pol W zs) zs) ∧ Below w.heap.size w w' := by
  rcases hq : pol W zs with _ | _
  · refine (poPole_no W A n c zs w h.ri hn hq).mono ?_
    rintro e w' ⟨rfl, hb⟩
    exact ⟨none, 0, rfl, OI.none_ _ _, hb⟩
  · refine (poPole_yes W A n c zs w h.ri hn hq).mono ?_
    rintro e w' ⟨rfl, hb⟩
    refine ⟨A, c, ?_, ?_, hb⟩
    · rw [ifW_yes, ifL_yes, h.1]
    · rw [ifL_yes, h.1]; exact h.below hb
end Go.Proofs.Ytjdkicanamengaa
