/- The contracts of AddRung for every argument, of the program. -/
import Derived.Test.YtpkeafdleonalaaC1p
namespace Go.Proofs.Ytpkeafdleonalaa
open Go Go.RowKit

theorem addB_1 {W : Int} {zs : List Int} {a r : Int} (h : lad W zs = false) : addB W zs a r = false := by unfold addB; rw [h]; rfl
theorem addB_2 {W : Int} {zs : List Int} {a r : Int} (h : ¬ (0 ≤ a ∧ a ≤ (zs.length : Int))) : addB W zs a r = false := by unfold addB; rw [inB_false h]; simp
theorem addB_3 {W : Int} {zs : List Int} {a r : Int} (h : lad W zs = true) (h2 : 0 ≤ a ∧ a ≤ (zs.length : Int)) : addB W zs a r = lad W (addL zs a.toNat r) := by unfold addB; rw [h, inB_true h2]; rfl
theorem addN_len (W : Int) (zs : List Int) (a r : Int) : (ifL (addB W zs a r) (addL zs a.toNat r)).length ≤ 1000 := by
  rcases h : addB W zs a r with _ | _
  · rw [ifL_no]; simp
  · rw [ifL_yes]
    unfold addB at h
    simp only [Bool.and_eq_true] at h
    have := (lad_iff.1 h.2.2).2.1
    omega

set_option maxRecDepth 100000 in
set_option maxHeartbeats 4000000 in
theorem iAddRung_no (W : Int) (A : Option Addr) (n c : Nat) (zs : List Int) (a r : Int) (w : World) (h : RI w A n zs) (hn : n ≤ 1048576) (hno : lad W zs = false ∨ a < 0 ∨ (n : Int) < a) :
    Calls Try.prog 21 #[.agg #[.int .i64 W, .slice A n c], .int .i64 a, .int .i64 r] w (FreshLB w 0 0 [] false) := by
  obtain ⟨q, hq⟩ : ∃ q, q = lad W zs := ⟨_, rfl⟩
  rw [← hq] at hno
  have HQ := Lib.hid hq
  clear hq
  cases q
  all_goals
    (try simp only [Bool.true_eq_false, false_or] at hno)
    (try rcases hno with hno | hno)
    all_goals
      go_enter Try.func21, Try.ntmps21
      go_wp2_with fail
      have HB := belAlloc (belAlloc (belRefl (w := w)) (.cells #[.int .i64 W, .slice A n c] 31)) (.cells #[.int .i64 0, .slice none 0 0] 31)
      have HA := boxAlloc (boxNew (W := W) (c := c) 31 h) (.cells #[.int .i64 0, .slice none 0 0] 31)
      have HC := cellNew (w.alloc (.cells #[.int .i64 W, .slice A n c] 31)) (.int .i64 0) (.slice none 0 0) 31
      refine (iIsLadder_any W A n c zs _ HA.out.ri hn).mono ?_
      rw [← HQ.out]
      rintro e w1 ⟨rfl, hb⟩
      replace HA := boxStep HA hb
      replace HB := belStep HB hb
      replace HC := cellStep HC hb
      have a0 := HA.out.c0; have a1 := HA.out.c1; have az := HA.out.lt
      have k0 := HC.out.c0; have k1 := HC.out.c1; have f0 := HC.out.f0; have f1 := HC.out.f1; have hz := HC.out.lt
      simp only [World.size_alloc] at k0 k1 f0 f1 hz
      clear hb h
      go_wp2
      exact bodyPost_ret (v := .tuple #[.agg #[.int .i64 0, .slice none 0 0], .bool false]) (by simp [results, Try.results21, go_sem, k0, k1]) rfl ⟨none, 0, rfl, OI.none_ _ _, (by repeat (first | exact Below.refl _ _ | exact HB.out | refine Below.setCell ?_ (by simp <;> omega) _ | refine Below.alloc ?_ (by simp <;> omega) _ | refine below_drewN ?_ _))⟩

theorem iAddRung_any (W : Int) (g n : Nat) (zs : List Int) (a r : Int) (w : World) (h : RI w (some ⟨g, 0, none⟩) n zs) (hn : n ≤ 1048576) :
    Calls Try.prog 21 #[.agg #[.int .i64 W, .slice (some ⟨g, 0, none⟩) n n], .int .i64 a, .int .i64 r] w
      (FreshLB w (ifW (addB W zs a r) W) (ifL (addB W zs a r) (addL zs a.toNat r)).length (ifL (addB W zs a r) (addL zs a.toNat r)) (addB W zs a r)) := by
  rcases hq : lad W zs with _ | _
  · rw [addB_1 hq, ifW_no, ifL_no]
    exact iAddRung_no W _ n n zs a r w h hn (.inl hq)
  · have hl := h.1
    have hn60 : n ≤ 60 := by have := (lad_iff.1 hq).2.1; omega
    by_cases hr : 0 ≤ a ∧ a ≤ (n : Int)
    · obtain ⟨k, rfl⟩ : ∃ k : Nat, a = (k : Int) := ⟨a.toNat, by omega⟩
      rw [addB_3 hq (by omega), Int.toNat_natCast]
      by_cases hk : n = k
      · subst hk
        exact iAddRung_full W g n zs r w h hn60 hq
      · exact iAddRung_some W g n n zs k r w h hn60 (Nat.le_refl _) hq (by omega) hk
    · rw [addB_2 (by omega), ifW_no, ifL_no]
      exact iAddRung_no W _ n n zs a r w h hn (.inr (by omega))
end Go.Proofs.Ytpkeafdleonalaa
