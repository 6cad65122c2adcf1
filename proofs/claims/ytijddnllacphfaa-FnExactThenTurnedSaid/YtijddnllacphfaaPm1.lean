/- Going down a pole, of the model. -/
import Derived.Test.YtijddnllacphfaaPl1
import Derived.Test.YtijddnllacphfaaMgB
import Derived.Test.YtijddnllacphfaaMgC
namespace Go.Proofs.Ytijddnllacphfaa
open Go Go.RowKit

def SameII (x y : Int) (w : World) (e : Ending) (w' : World) : Prop := e = .returned (.tuple #[.int .i64 x, .int .i64 y]) ∧ w = w'

theorem ov_1 {W s r : Int} (h : s = r) (h2 : pnext W r = 0) (hr : 0 ≤ r) : pstep W s r = 0 ∧ pwind W s r = 1 := by
  have e : r + 1 = W := by
    unfold pnext at h2
    split at h2
    · assumption
    · omega
  unfold pstep pwind
  rw [if_pos h, if_pos e, if_pos h]
  exact ⟨h2, rfl⟩
theorem ov_2 {W s r : Int} (h : s = r) (h2 : pnext W r ≠ 0) : pstep W s r = pnext W r ∧ pwind W s r = 0 := by
  have e : r + 1 ≠ W := fun e => h2 (by unfold pnext; rw [if_pos e])
  unfold pstep pwind
  rw [if_pos h, if_neg e]
  exact ⟨rfl, rfl⟩
theorem ov_3 {W s r : Int} (h : s ≠ r) (h1 : s = pnext W r) (h2 : pnext W r = 0) (hr : 0 ≤ r) : pstep W s r = r ∧ pwind W s r = -1 := by
  have e : r + 1 = W := by
    unfold pnext at h2
    split at h2
    · assumption
    · omega
  unfold pstep pwind
  rw [if_neg h, if_pos h1, if_pos e, if_neg h, if_pos (h1.trans h2)]
  exact ⟨rfl, rfl⟩
theorem ov_4 {W s r : Int} (h : s ≠ r) (h1 : s = pnext W r) (h2 : pnext W r ≠ 0) : pstep W s r = r ∧ pwind W s r = 0 := by
  have e : r + 1 ≠ W := fun e => h2 (by unfold pnext; rw [if_pos e])
  unfold pstep pwind
  rw [if_neg h, if_pos h1, if_neg e]
  exact ⟨rfl, rfl⟩

set_option maxHeartbeats 1000000 in
theorem poOver_any (W s r : Int) (w : World) (hW : 3 ≤ W ∧ W ≤ 8) (hr : 0 ≤ r ∧ r ≤ W - 1) :
    Calls Try.prog 85 #[.int .i64 W, .int .i64 s, .int .i64 r] w (SameII (pstep W s r) (pwind W s r) w) := by
  have em := next_mod hr
  have hn := pnext_le hr
  by_cases h1 : s = r
  · have e1 : (s == r) = true := beq_iff_eq.2 h1
    by_cases h2 : pnext W r = 0
    · obtain ⟨ea, eb⟩ := ov_1 h1 h2 hr.1
      rw [ea, eb]
      have e2 : (pnext W r == 0) = true := beq_iff_eq.2 h2
      clear ea eb h1 h2
      go_enter Try.func85, Try.ntmps85
      go_wp2
      go_ret2
      exact ⟨rfl, rfl⟩
    · obtain ⟨ea, eb⟩ := ov_2 h1 h2
      rw [ea, eb]
      have e2 : (pnext W r == 0) = false := beq_eq_false_iff_ne.2 h2
      clear ea eb h1 h2
      go_enter Try.func85, Try.ntmps85
      go_wp2
      go_ret2
      exact ⟨rfl, rfl⟩
  · have e1 : (s == r) = false := beq_eq_false_iff_ne.2 h1
    by_cases h3 : s = pnext W r
    · have e3 : (s == pnext W r) = true := beq_iff_eq.2 h3
      by_cases h2 : pnext W r = 0
      · obtain ⟨ea, eb⟩ := ov_3 h1 h3 h2 hr.1
        rw [ea, eb]
        have e2 : (pnext W r == 0) = true := beq_iff_eq.2 h2
        clear ea eb h1 h2 h3
        go_enter Try.func85, Try.ntmps85
        go_wp2
        go_ret2
        exact ⟨rfl, rfl⟩
      · obtain ⟨ea, eb⟩ := ov_4 h1 h3 h2
        rw [ea, eb]
        have e2 : (pnext W r == 0) = false := beq_eq_false_iff_ne.2 h2
        clear ea eb h1 h2 h3
        go_enter Try.func85, Try.ntmps85
        go_wp2
        go_ret2
        exact ⟨rfl, rfl⟩
    · have e3 : (s == pnext W r) = false := beq_eq_false_iff_ne.2 h3
      obtain ⟨ea, eb⟩ := step_no h1 h3
      rw [ea, eb]
      clear ea eb h1 h3
      go_enter Try.func85, Try.ntmps85
      go_wp2
      go_ret2
      exact ⟨rfl, rfl⟩

def FreshII (w : World) (n : Nat) (zs : List Int) (x : Int) (e : Ending) (w' : World) : Prop :=
  ∃ A c, e = .returned (.tuple #[.slice A n c, .int .i64 x]) ∧ OI w' w.heap.size A n c zs ∧ Below w.heap.size w w'

set_option maxRecDepth 100000 in
set_option maxHeartbeats 2000000 in
theorem poDown_any (W : Int) (A : Option Addr) (n c : Nat) (zs : List Int) (s : Int) (w : World) (h : RI w A n zs) (hw : PWires W zs s) :
    Calls Try.prog 74 #[.agg #[.int .i64 W, .slice A n c], .int .i64 s] w (FreshII w (n + 1) (pway W zs s) (pwd W zs s n)) := by
  have hzl := Lib.hid h.1
  have HW := Lib.hid hw
  have hn60 : n ≤ 60 := by have := hw.len; rw [h.1] at this; exact this
  have hW3 := hw.W3; have hW8 := hw.W8
  have H0 : Hid (RB w w.heap.size A n zs) := RB.of_ri h
  have HD : Hid ((pway W zs s).take 1 = [s]) := by
    show (pway W zs s).take 1 = [s]
    rw [pway_take _ _ _ _ (Nat.zero_le _)]; rfl
  clear hw h
  go_enter Try.func74, Try.ntmps74
  go_wp2
  have HX : Hid (BoxB (w.alloc (.cells #[.int .i64 W, .slice A n c] 45)) (w.heap.size + 1) w.heap.size W A n c zs) := by
    have h1 := BoxB.of (boxNew (W := W) (c := c) 45 H0.out.ri).out
    rwa [World.size_alloc] at h1
  go_loopw [1, 6, 7, 9, 10, 11, 17] (fun s1 v s7 _ _ _ i wr => ∃ (k : Nat) (A1 : Option Addr) (c1 : Nat), k ≤ n ∧ i = .int .i64 k ∧ s1 = .int .i64 (pat W zs s k) ∧ v = .slice A1 (k + 1) c1 ∧ s7 = .int .i64 (pwd W zs s k) ∧ OI wr (w.heap.size + 1) A1 (k + 1) c1 ((pway W zs s).take (k + 1)) ∧ Below (w.heap.size + 1) (w.alloc (.cells #[.int .i64 W, .slice A n c] 45)) wr) (fun _ _ _ _ _ _ i _ => n - (intOf i).toNat)
  case atStart =>
    refine ⟨0, _, _, Nat.zero_le _, rfl, rfl, rfl, rfl, ?_, (Below.refl _ _).alloc (by simp) _⟩
    rw [HD.out]
    have h1 := World.ownsRow_lit (base := w.heap.size + 1) (e := 3) (size := 1) (w.alloc (.cells #[.int .i64 W, .slice A n c] 45)) #[.int .i64 s] 1 (by simp) (by decide) rfl
    simp only [World.size_alloc] at h1
    exact ⟨rfl, h1⟩
  case round =>
    obtain ⟨k, A1, c1, hk, rfl, rfl, rfl, rfl, ho, hbl⟩ := hrel
    have HO := Lib.hid ho
    have HB := Lib.hid hbl
    have HBX : Hid (BoxB wr (w.heap.size + 1) w.heap.size W A n c zs) := HX.out.step hbl
    have a0 := HBX.out.c0; have a1 := HBX.out.c1
    have hsz := HB.out.size
    simp only [World.size_alloc] at hsz
    clear ho hbl
    by_cases hlt : k < n
    · obtain ⟨b, off, rfl, hbw, hc⟩ := HBX.out.rb.ri.cell hlt
      have hck := hc k hlt
      have g1 := HW.out.rg k (by rw [hzl.out]; exact hlt)
      have g3 := pwd_le W zs s k
      have g4 := pwind_le W (pat W zs s k) (gi zs k)
      have HV := Lib.hid (poOver_any W (pat W zs s k) (gi zs k) · ⟨hW3, hW8⟩ g1)
      have HT := Lib.hid (pway_take W zs s (k + 1) (by rw [hzl.out]; omega))
      have HS1 := Lib.hid (pat_succ W zs s k)
      have HS2 := Lib.hid (pwd_succ W zs s k)
      rw [← HS1.out] at HV
      obtain ⟨q, hq⟩ : ∃ q, q = pwind W (pat W zs s k) (gi zs k) := ⟨_, rfl⟩
      rw [← hq] at HV HS2 g4
      obtain ⟨u, hu⟩ : ∃ u, u = pwd W zs s k := ⟨_, rfl⟩
      rw [← hu] at HS2 g3 ⊢
      clear hc hq HS1 hu
      go_wp2_with (first
        | (go_at_call 85; refine (HV.out _).mono ?_; rintro e w' ⟨rfl, rfl⟩)
        | (at_builtin; refine wpList_append_int _ rfl _ _ rfl (w.heap.size + 1) A1 (k + 1) c1 _ (pat W zs s (k + 1)) wr.heap.size rfl rfl (HO.out.alloc _) (by simp) (by omega) (by have := HB.out.size; simp at this; simp; omega) ?_; intro A2 c2 w2 ho2 hg2))
      go_roundw
      case rel =>
        refine ⟨k + 1, A2, c2, by omega, by go_num, rfl, rfl, by rw [HS2.out], by rw [HT.out]; exact ho2, ?_⟩
        exact (HB.out.alloc hsz _).trans (ofMark (HO.out.alloc _) hg2 (Nat.le_refl _) (by simp; omega))
      case measure => simp [intOf]; omega
    · obtain rfl : k = n := by omega
      go_wp2
      go_ret2
      refine ⟨A1, c1, rfl, ?_, ((Below.refl _ _).alloc (Nat.le_refl _) _).trans (HB.out.mono (by omega))⟩
      have e : (pway W zs s).take (k + 1) = pway W zs s := List.take_of_length_le (by rw [pway_length, hzl.out]; omega)
      have := HO.out.mono (B' := w.heap.size) (by omega)
      rwa [e] at this
end Go.Proofs.Ytijddnllacphfaa
