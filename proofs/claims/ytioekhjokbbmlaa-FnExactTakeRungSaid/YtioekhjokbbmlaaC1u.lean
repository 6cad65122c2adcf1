/- The contracts of TakeRung for every argument. -/
import Derived.Test.YtioekhjokbbmlaaC1t
namespace Go.Proofs.Ytioekhjokbbmlaa
open Go Go.RowKit

set_option maxRecDepth 100000 in
set_option maxHeartbeats 4000000 in
theorem iTakeRung_no (W : Int) (A : Option Addr) (n c : Nat) (zs : List Int) (a : Int) (w : World) (h : RI w A n zs) (hn : n ≤ 1048576) (hno : lad W zs = false ∨ a < 0 ∨ (n : Int) ≤ a) :
    Calls Try.prog 59 #[.agg #[.int .i64 W, .slice A n c], .int .i64 a] w (FreshLB w 0 0 [] false) := by
  obtain ⟨q, hq⟩ : ∃ q, q = lad W zs := ⟨_, rfl⟩
  rw [← hq] at hno
  have HQ := Lib.hid hq
  clear hq
  cases q
  all_goals
    (try simp only [Bool.true_eq_false, false_or] at hno)
    (try rcases hno with hno | hno)
    all_goals
      go_enter Try.func59, Try.ntmps59
      go_wp2_with fail
      have HB := belAlloc (belAlloc (belRefl (w := w)) (.cells #[.int .i64 W, .slice A n c] 27)) (.cells #[.int .i64 0, .slice none 0 0] 27)
      have HA := boxAlloc (boxNew (W := W) (c := c) 27 h) (.cells #[.int .i64 0, .slice none 0 0] 27)
      have HC := cellNew (w.alloc (.cells #[.int .i64 W, .slice A n c] 27)) (.int .i64 0) (.slice none 0 0) 27
      refine (iIsLadder_any W A n c zs _ HA.out.ri hn).mono ?_
      rw [← HQ.out]
      rintro e w1 ⟨rfl, hb⟩
      replace HA := boxStep HA hb
      replace HB := belStep HB hb
      replace HC := cellStep HC hb
      have a0 := HA.out.c0; have a1 := HA.out.c1; have az := HA.out.lt
      have k0 := HC.out.c0; have k1 := HC.out.c1; have f0 := HC.out.f0; have f1 := HC.out.f1; have hz := HC.out.lt
      simp only [World.size_alloc] at k0 k1 f0 f1 hz
      clear hb h
      go_wp2
      exact bodyPost_ret (v := .tuple #[.agg #[.int .i64 0, .slice none 0 0], .bool false]) (by simp [results, Try.results59, go_sem, k0, k1]) rfl ⟨none, 0, rfl, OI.none_ _ _, (by repeat (first | exact Below.refl _ _ | exact HB.out | refine Below.setCell ?_ (by simp <;> omega) _ | refine Below.alloc ?_ (by simp <;> omega) _ | refine below_drewN ?_ _))⟩

theorem iTakeRung_any (W : Int) (g n : Nat) (zs : List Int) (a : Int) (w : World) (h : RI w (some ⟨g, 0, none⟩) n zs) (hn : n ≤ 1048576) :
    Calls Try.prog 59 #[.agg #[.int .i64 W, .slice (some ⟨g, 0, none⟩) n n], .int .i64 a] w
      (FreshLB w (ifW (takeB W zs a) W) (ifL (takeB W zs a) (takeL zs a.toNat)).length (ifL (takeB W zs a) (takeL zs a.toNat)) (takeB W zs a)) := by
  rcases hq : lad W zs with _ | _
  · rw [takeB_1 hq, ifW_no, ifL_no]
    exact iTakeRung_no W _ n n zs a w h hn (.inl hq)
  · have hl := h.1
    have hn60 : n ≤ 60 := by have := (lad_iff.1 hq).2.1; omega
    by_cases hr : 0 ≤ a ∧ a ≤ (n : Int) - 1
    · obtain ⟨k, rfl⟩ : ∃ k : Nat, a = (k : Int) := ⟨a.toNat, by omega⟩
      rw [takeB_3 hq (by omega), ifW_yes, ifL_yes, Int.toNat_natCast]
      by_cases hk : k + 1 < n
      · exact iTakeRung_some W g n zs k w h hn60 hq hk
      · obtain rfl : n = k + 1 := by omega
        exact iTakeRung_last W g zs k w h hn60 hq
    · rw [takeB_2 (by omega), ifW_no, ifL_no]
      exact iTakeRung_no W _ n n zs a w h hn (.inr (by omega))

set_option maxRecDepth 100000 in
set_option maxHeartbeats 4000000 in
theorem sTakeRung_no (W : Int) (A : Option Addr) (n c : Nat) (zs : List Int) (a : Int) (w : World) (h : RI w A n zs) (hn : n ≤ 1048576) (hno : lad W zs = false ∨ a < 0 ∨ (n : Int) ≤ a) :
    Calls Try.prog 58 #[.agg #[.int .i64 W, .slice A n c], .int .i64 a] w (FreshLB w 0 0 [] false) := by
  obtain ⟨q, hq⟩ : ∃ q, q = lad W zs := ⟨_, rfl⟩
  rw [← hq] at hno
  have HQ := Lib.hid hq
  clear hq
  cases q
  all_goals
    (try simp only [Bool.true_eq_false, false_or] at hno)
    (try rcases hno with hno | hno)
    all_goals
      have E1 : Hid (∀ lo hi, ¬ (lo ≤ a ∧ a ≤ hi) → inB a lo hi = false) := fun _ _ h => inB_false h
      go_enter Try.func58, Try.ntmps58
      go_wp2_with fail
      have HB := belAlloc (belAlloc (belRefl (w := w)) (.cells #[.int .i64 W, .slice A n c] 27)) (.cells #[.int .i64 0, .slice none 0 0] 27)
      have HA := boxAlloc (boxNew (W := W) (c := c) 27 h) (.cells #[.int .i64 0, .slice none 0 0] 27)
      have HC := cellNew (w.alloc (.cells #[.int .i64 W, .slice A n c] 27)) (.int .i64 0) (.slice none 0 0) 27
      refine (laGood_any W A n c zs _ HA.out.ri hn).mono ?_
      rw [← HQ.out]
      rintro e w1 ⟨rfl, hb⟩
      replace HA := boxStep HA hb
      replace HB := belStep HB hb
      replace HC := cellStep HC hb
      have a0 := HA.out.c0; have a1 := HA.out.c1; have az := HA.out.lt
      have k0 := HC.out.c0; have k1 := HC.out.c1; have f0 := HC.out.f0; have f1 := HC.out.f1; have hz := HC.out.lt
      simp only [World.size_alloc] at k0 k1 f0 f1 hz
      clear hb h
      (first | (go_wp2_with (go_at_call 91; refine (l1In_any _ _ _ _).mono ?_; rw [E1.out _ _ (by omega)]; rintro e w' ⟨rfl, rfl⟩)))
      exact bodyPost_ret (v := .tuple #[.agg #[.int .i64 0, .slice none 0 0], .bool false]) (by simp [results, Try.results58, go_sem, k0, k1]) rfl ⟨none, 0, rfl, OI.none_ _ _, (by repeat (first | exact Below.refl _ _ | exact HB.out | refine Below.setCell ?_ (by simp <;> omega) _ | refine Below.alloc ?_ (by simp <;> omega) _ | refine below_drewN ?_ _))⟩

theorem sTakeRung_any (W : Int) (g n : Nat) (zs : List Int) (a : Int) (w : World) (h : RI w (some ⟨g, 0, none⟩) n zs) (hn : n ≤ 1048576) :
    Calls Try.prog 58 #[.agg #[.int .i64 W, .slice (some ⟨g, 0, none⟩) n n], .int .i64 a] w
      (FreshLB w (ifW (takeB W zs a) W) (ifL (takeB W zs a) (takeL zs a.toNat)).length (ifL (takeB W zs a) (takeL zs a.toNat)) (takeB W zs a)) := by
  rcases hq : lad W zs with _ | _
  · rw [takeB_1 hq, ifW_no, ifL_no]
    exact sTakeRung_no W _ n n zs a w h hn (.inl hq)
  · have hl := h.1
    have hn60 : n ≤ 60 := by have := (lad_iff.1 hq).2.1; omega
    by_cases hr : 0 ≤ a ∧ a ≤ (n : Int) - 1
    · obtain ⟨k, rfl⟩ : ∃ k : Nat, a = (k : Int) := ⟨a.toNat, by omega⟩
      rw [takeB_3 hq (by omega), ifW_yes, ifL_yes, Int.toNat_natCast]
      by_cases hk : k + 1 < n
      · exact sTakeRung_some W g n zs k w h hn60 hq hk
      · obtain rfl : n = k + 1 := by omega
        exact sTakeRung_last W g zs k w h hn60 hq
    · rw [takeB_2 (by omega), ifW_no, ifL_no]
      exact sTakeRung_no W _ n n zs a w h hn (.inr (by omega))
end Go.Proofs.Ytioekhjokbbmlaa
