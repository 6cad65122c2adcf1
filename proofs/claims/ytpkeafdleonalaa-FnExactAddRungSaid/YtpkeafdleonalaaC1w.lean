/- The contracts of AddRung's model for every argument. -/
import Derived.Test.YtpkeafdleonalaaC1v
namespace Go.Proofs.Ytpkeafdleonalaa
open Go Go.RowKit

theorem lad_add_no {W : Int} {zs : List Int} {k : Nat} {r : Int} (h : ¬ (0 ≤ r ∧ r ≤ W - 2)) : lad W (addL zs k r) = false := by
  rw [← Bool.not_eq_true, lad_iff]
  rintro ⟨_, _, h3⟩
  unfold allIn at h3
  rw [List.all_eq_true] at h3
  have := h3 r (by unfold addL; simp)
  exact h (inB_iff.1 this)

set_option maxRecDepth 100000 in
set_option maxHeartbeats 4000000 in
theorem sAddRung_no (W : Int) (A : Option Addr) (n c : Nat) (zs : List Int) (a r : Int) (w : World) (h : RI w A n zs) (hn : n ≤ 1048576) (hno : lad W zs = false ∨ (lad W zs = true ∧ ¬ (0 ≤ a ∧ a ≤ (n : Int))) ∨ (lad W zs = true ∧ (0 ≤ a ∧ a ≤ (n : Int)) ∧ ¬ (0 ≤ r ∧ r ≤ W - 2))) :
    Calls Try.prog 20 #[.agg #[.int .i64 W, .slice A n c], .int .i64 a, .int .i64 r] w (FreshLB w 0 0 [] false) := by
  rcases hno with hq | ⟨hq, ha⟩ | ⟨hq, ha, hr⟩
  · have HQ := Lib.hid hq
    clear hq
    go_enter Try.func20, Try.ntmps20
    go_wp2_with fail
    have HB := belAlloc (belAlloc (belRefl (w := w)) (.cells #[.int .i64 W, .slice A n c] 31)) (.cells #[.int .i64 0, .slice none 0 0] 31)
    have HA := boxAlloc (boxNew (W := W) (c := c) 31 h) (.cells #[.int .i64 0, .slice none 0 0] 31)
    have HC := cellNew (w.alloc (.cells #[.int .i64 W, .slice A n c] 31)) (.int .i64 0) (.slice none 0 0) 31
    refine (laGood_any W A n c zs _ HA.out.ri hn).mono ?_
    rw [HQ.out]
    rintro e w1 ⟨rfl, hb⟩
    replace HA := boxStep HA hb
    replace HB := belStep HB hb
    replace HC := cellStep HC hb
    have a0 := HA.out.c0; have a1 := HA.out.c1; have az := HA.out.lt
    have k0 := HC.out.c0; have k1 := HC.out.c1; have f0 := HC.out.f0; have f1 := HC.out.f1; have hz := HC.out.lt
    simp only [World.size_alloc] at k0 k1 f0 f1 hz
    clear hb h
    go_wp2
    exact bodyPost_ret (v := .tuple #[.agg #[.int .i64 0, .slice none 0 0], .bool false]) (by simp [results, Try.results20, go_sem, k0, k1]) rfl ⟨none, 0, rfl, OI.none_ _ _, (by repeat (first | exact Below.refl _ _ | exact HB.out | refine Below.setCell ?_ (by simp <;> omega) _ | refine Below.alloc ?_ (by simp <;> omega) _ | refine below_drewN ?_ _))⟩
  · have HQ := Lib.hid hq
    have E1 : Hid (inB a 0 (n : Int) = false) := inB_false ha
    clear hq ha
    go_enter Try.func20, Try.ntmps20
    go_wp2_with fail
    have HB := belAlloc (belAlloc (belRefl (w := w)) (.cells #[.int .i64 W, .slice A n c] 31)) (.cells #[.int .i64 0, .slice none 0 0] 31)
    have HA := boxAlloc (boxNew (W := W) (c := c) 31 h) (.cells #[.int .i64 0, .slice none 0 0] 31)
    have HC := cellNew (w.alloc (.cells #[.int .i64 W, .slice A n c] 31)) (.int .i64 0) (.slice none 0 0) 31
    refine (laGood_any W A n c zs _ HA.out.ri hn).mono ?_
    rw [HQ.out]
    rintro e w1 ⟨rfl, hb⟩
    replace HA := boxStep HA hb
    replace HB := belStep HB hb
    replace HC := cellStep HC hb
    have a0 := HA.out.c0; have a1 := HA.out.c1; have az := HA.out.lt
    have k0 := HC.out.c0; have k1 := HC.out.c1; have f0 := HC.out.f0; have f1 := HC.out.f1; have hz := HC.out.lt
    simp only [World.size_alloc] at k0 k1 f0 f1 hz
    clear hb h
    go_wp2_with (go_at_call 45; refine (l1In_any _ _ _ _).mono ?_; rw [E1.out]; rintro e w' ⟨rfl, rfl⟩)
    exact bodyPost_ret (v := .tuple #[.agg #[.int .i64 0, .slice none 0 0], .bool false]) (by simp [results, Try.results20, go_sem, k0, k1]) rfl ⟨none, 0, rfl, OI.none_ _ _, (by repeat (first | exact Below.refl _ _ | exact HB.out | refine Below.setCell ?_ (by simp <;> omega) _ | refine Below.alloc ?_ (by simp <;> omega) _ | refine below_drewN ?_ _))⟩
  · have HQ := Lib.hid hq
    have hW := (lad_iff.1 hq).1
    have E1 : Hid (inB a 0 (n : Int) = true) := inB_true ha
    have E2 : Hid (inB r 0 (W - 2) = false) := inB_false hr
    clear hq ha hr
    go_enter Try.func20, Try.ntmps20
    go_wp2_with fail
    have HB := belAlloc (belAlloc (belRefl (w := w)) (.cells #[.int .i64 W, .slice A n c] 31)) (.cells #[.int .i64 0, .slice none 0 0] 31)
    have HA := boxAlloc (boxNew (W := W) (c := c) 31 h) (.cells #[.int .i64 0, .slice none 0 0] 31)
    have HC := cellNew (w.alloc (.cells #[.int .i64 W, .slice A n c] 31)) (.int .i64 0) (.slice none 0 0) 31
    refine (laGood_any W A n c zs _ HA.out.ri hn).mono ?_
    rw [HQ.out]
    rintro e w1 ⟨rfl, hb⟩
    replace HA := boxStep HA hb
    replace HB := belStep HB hb
    replace HC := cellStep HC hb
    have a0 := HA.out.c0; have a1 := HA.out.c1; have az := HA.out.lt
    have k0 := HC.out.c0; have k1 := HC.out.c1; have f0 := HC.out.f0; have f1 := HC.out.f1; have hz := HC.out.lt
    simp only [World.size_alloc] at k0 k1 f0 f1 hz
    clear hb h
    go_wp2_with (go_at_call 45; refine (l1In_any _ _ _ _).mono ?_; (first | rw [E1.out] | rw [E2.out]); rintro e w' ⟨rfl, rfl⟩)
    exact bodyPost_ret (v := .tuple #[.agg #[.int .i64 0, .slice none 0 0], .bool false]) (by simp [results, Try.results20, go_sem, k0, k1]) rfl ⟨none, 0, rfl, OI.none_ _ _, (by repeat (first | exact Below.refl _ _ | exact HB.out | refine Below.setCell ?_ (by simp <;> omega) _ | refine Below.alloc ?_ (by simp <;> omega) _ | refine below_drewN ?_ _))⟩

theorem sAddRung_any (W : Int) (g n : Nat) (zs : List Int) (a r : Int) (w : World) (h : RI w (some ⟨g, 0, none⟩) n zs) (hn : n ≤ 1048576) :
    Calls Try.prog 20 #[.agg #[.int .i64 W, .slice (some ⟨g, 0, none⟩) n n], .int .i64 a, .int .i64 r] w
      (FreshLB w (ifW (addB W zs a r) W) (ifL (addB W zs a r) (addL zs a.toNat r)).length (ifL (addB W zs a r) (addL zs a.toNat r)) (addB W zs a r)) := by
  rcases hq : lad W zs with _ | _
  · rw [addB_1 hq, ifW_no, ifL_no]
    exact sAddRung_no W _ n n zs a r w h hn (.inl hq)
  · have hl := h.1
    have hn60 : n ≤ 60 := by have := (lad_iff.1 hq).2.1; omega
    by_cases ha : 0 ≤ a ∧ a ≤ (n : Int)
    · by_cases hr : 0 ≤ r ∧ r ≤ W - 2
      · obtain ⟨k, rfl⟩ : ∃ k : Nat, a = (k : Int) := ⟨a.toNat, by omega⟩
        rw [addB_3 hq (by omega), Int.toNat_natCast]
        exact sAddRung_some W g n zs k r w h hn60 hq (by omega) hr _ rfl
      · rw [addB_3 hq (by omega), lad_add_no hr, ifW_no, ifL_no]
        exact sAddRung_no W _ n n zs a r w h hn (.inr (.inr ⟨hq, ha, hr⟩))
    · rw [addB_2 (by omega), ifW_no, ifL_no]
      exact sAddRung_no W _ n n zs a r w h hn (.inr (.inl ⟨hq, ha⟩))
end Go.Proofs.Ytpkeafdleonalaa
