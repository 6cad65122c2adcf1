/- Ways down: who goes over which rung, and who meets whom: mathematics of the law FnLaddersGoneDown. -/
import Derived.Test.YtgadfjfokgodgaaC1h
import Derived.Test.YtgadfjfokgodgaaC1i
import Derived.Test.YtgadfjfokgodgaaMgP
import Derived.Test.YtgadfjfokgodgaaMgE
import Derived.Test.YtgadfjfokgodgaaMgG
import Derived.Test.YtgadfjfokgodgaaO6
import Derived.Test.YtgadfjfokgodgaaBw1
namespace Go.Proofs.Ytgadfjfokgodgaa
open Go Go.RowKit

theorem over_injG {s t r : Int} (h : s ≠ t) : over s r ≠ over t r := by
  unfold over
  split <;> split <;> (try split) <;> (try split) <;> omega
theorem at_injG {zs : List Int} {s t : Int} (h : s ≠ t) : ∀ (k : Nat), k ≤ zs.length → at_ zs s k ≠ at_ zs t k
  | 0, _ => by rw [at_zero, at_zero]; exact h
  | k + 1, hk => by rw [at_succ _ _ _ (by omega), at_succ _ _ _ (by omega)]; exact over_injG (at_injG h k (by omega))
theorem over_at (s r : Int) : (s = r ∨ s = r + 1) ∧ s + over s r = 2 * r + 1 ∨ ¬ (s = r ∨ s = r + 1) ∧ over s r = s := by
  unfold over
  by_cases h1 : s = r
  · left; rw [if_pos h1]; exact ⟨.inl h1, by omega⟩
  · rw [if_neg h1]
    by_cases h2 : s = r + 1
    · left; rw [if_pos h2]; exact ⟨.inr h2, by omega⟩
    · right; rw [if_neg h2]; exact ⟨by omega, rfl⟩
theorem mem_used (zs : List Int) (s : Int) (i : Nat) : ∀ k, (i : Int) ∈ used zs s k ↔ i < k ∧ at_ zs s i ≠ at_ zs s (i + 1)
  | 0 => by simp [used]
  | k + 1 => by
    simp only [used, List.mem_append]
    rw [mem_used zs s i k]
    by_cases e : at_ zs s k = at_ zs s (k + 1)
    · rw [if_pos e]
      constructor
      · rintro (⟨h1, h2⟩ | h)
        · exact ⟨by omega, h2⟩
        · cases h
      · rintro ⟨h1, h2⟩
        by_cases hi : i = k
        · subst hi; exact absurd e h2
        · exact .inl ⟨by omega, h2⟩
    · rw [if_neg e]
      constructor
      · rintro (⟨h1, h2⟩ | h)
        · exact ⟨by omega, h2⟩
        · obtain rfl : i = k := by simp at h; omega
          exact ⟨by omega, e⟩
      · rintro ⟨h1, h2⟩
        by_cases hi : i = k
        · right; simp [hi]
        · exact .inl ⟨by omega, h2⟩
/-- what the law asks of one rung -/
theorem way_step {zs : List Int} {s : Int} {k : Nat} (hk : k < zs.length) :
    ((at_ zs s k = gi zs k ∨ at_ zs s k = gi zs k + 1) ↔ (k : Int) ∈ used zs s zs.length) ∧
    ((at_ zs s k = gi zs k ∨ at_ zs s k = gi zs k + 1) → at_ zs s k + at_ zs s (k + 1) = 2 * gi zs k + 1) ∧
    (¬ (at_ zs s k = gi zs k ∨ at_ zs s k = gi zs k + 1) → at_ zs s k = at_ zs s (k + 1)) := by
  rw [mem_used, at_succ _ _ _ hk]
  rcases over_at (at_ zs s k) (gi zs k) with ⟨h1, h2⟩ | ⟨h1, h2⟩
  · refine ⟨⟨fun _ => ⟨hk, by omega⟩, fun _ => h1⟩, fun _ => h2, fun h => absurd h1 h⟩
  · refine ⟨⟨fun h => absurd h h1, fun h => absurd h2.symm h.2⟩, fun h => absurd h h1, fun _ => h2.symm⟩

/-- how often a meets those of 0 .. m - 1 but itself, in the first k rungs -/
def meetSum (zs : List Int) (a : Int) (k : Nat) : Nat → Int
  | 0 => 0
  | m + 1 => meetSum zs a k m + if (m : Int) = a then 0 else meets zs a (m : Int) k
theorem meetSum_le (zs : List Int) (a : Int) (k : Nat) : ∀ m, 0 ≤ meetSum zs a k m ∧ meetSum zs a k m ≤ k * m
  | 0 => by simp [meetSum]
  | m + 1 => by
    have h1 := meetSum_le zs a k m
    have h2 := meets_le zs a (m : Int) k
    simp only [meetSum]
    have e : (k : Int) * ((m + 1 : Nat) : Int) = k * m + k := by rw [show ((m + 1 : Nat) : Int) = (m : Int) + 1 by omega, Int.mul_add, Int.mul_one]
    rw [e]
    split <;> omega
/-- the one who is met at rung k, if any -/
theorem meetSum_step {zs : List Int} {a : Int} {k : Nat} (hk : k < zs.length) : ∀ m, meetSum zs a (k + 1) m = meetSum zs a k m + (if ∃ b : Nat, b < m ∧ (b : Int) ≠ a ∧ at_ zs a (k + 1) = at_ zs (b : Int) k ∧ at_ zs (b : Int) (k + 1) = at_ zs a k then 1 else 0)
  | 0 => by simp [meetSum]
  | m + 1 => by
    simp only [meetSum]
    rw [meetSum_step hk m]
    by_cases hm : (m : Int) = a
    · have hLR : (∃ b : Nat, b < m + 1 ∧ (b : Int) ≠ a ∧ at_ zs a (k + 1) = at_ zs (b : Int) k ∧ at_ zs (b : Int) (k + 1) = at_ zs a k) ↔ (∃ b : Nat, b < m ∧ (b : Int) ≠ a ∧ at_ zs a (k + 1) = at_ zs (b : Int) k ∧ at_ zs (b : Int) (k + 1) = at_ zs a k) := by
        constructor
        · rintro ⟨b, hb, hne, r⟩
          have : b ≠ m := fun e => hne (by rw [e]; exact hm)
          exact ⟨b, by omega, hne, r⟩
        · rintro ⟨b, hb, r⟩
          exact ⟨b, by omega, r⟩
      simp only [hLR, if_pos hm]
      omega
    · simp only [if_neg hm, meets]
      by_cases h2 : at_ zs a (k + 1) = at_ zs (m : Int) k ∧ at_ zs (m : Int) (k + 1) = at_ zs a k
      · have hL : ¬ ∃ b : Nat, b < m ∧ (b : Int) ≠ a ∧ at_ zs a (k + 1) = at_ zs (b : Int) k ∧ at_ zs (b : Int) (k + 1) = at_ zs a k := by
          rintro ⟨b, hb, hne, r⟩
          refine at_injG (s := (b : Int)) (t := (m : Int)) (zs := zs) (by omega) k (by omega) ?_
          rw [← r.1, ← h2.1]
        have hR : ∃ b : Nat, b < m + 1 ∧ (b : Int) ≠ a ∧ at_ zs a (k + 1) = at_ zs (b : Int) k ∧ at_ zs (b : Int) (k + 1) = at_ zs a k := ⟨m, by omega, hm, h2⟩
        rw [if_neg hL, if_pos hR, if_pos h2]
        omega
      · have hLR : (∃ b : Nat, b < m + 1 ∧ (b : Int) ≠ a ∧ at_ zs a (k + 1) = at_ zs (b : Int) k ∧ at_ zs (b : Int) (k + 1) = at_ zs a k) ↔ (∃ b : Nat, b < m ∧ (b : Int) ≠ a ∧ at_ zs a (k + 1) = at_ zs (b : Int) k ∧ at_ zs (b : Int) (k + 1) = at_ zs a k) := by
          constructor
          · rintro ⟨b, hb, hne, r⟩
            have : b ≠ m := fun e => by subst e; exact h2 r
            exact ⟨b, by omega, hne, r⟩
          · rintro ⟨b, hb, r⟩
            exact ⟨b, by omega, r⟩
        simp only [hLR, if_neg h2]
        omega
theorem over_over (s r : Int) : over (over s r) r = s := by
  unfold over
  by_cases h1 : s = r
  · rw [if_pos h1, if_neg (by omega), if_pos rfl, h1]
  · rw [if_neg h1]
    by_cases h2 : s = r + 1
    · rw [if_pos h2, if_pos rfl, h2]
    · rw [if_neg h2, if_neg h1, if_neg h2]
/-- at each depth somebody is on each wire -/
theorem at_onto {W : Nat} {zs : List Int} (hz : ∀ j, j < zs.length → 0 ≤ gi zs j ∧ gi zs j ≤ (W : Int) - 2) : ∀ (k : Nat), k ≤ zs.length → ∀ x : Int, 0 ≤ x ∧ x ≤ (W : Int) - 1 → ∃ b : Nat, b < W ∧ at_ zs (b : Int) k = x
  | 0, _, x, hx => ⟨x.toNat, by omega, by rw [at_zero]; omega⟩
  | k + 1, hk, x, hx => by
    have hr := hz k (by omega)
    obtain ⟨b, hb, e⟩ := at_onto hz k (by omega) (over x (gi zs k)) (over_le x (gi zs k) hx hr)
    refine ⟨b, hb, ?_⟩
    rw [at_succ _ _ _ (by omega), e, over_over]
/-- one meets as many as the rungs that one goes over -/
theorem meetSum_used {W : Nat} {zs : List Int} (hz : ∀ j, j < zs.length → 0 ≤ gi zs j ∧ gi zs j ≤ (W : Int) - 2) {a : Int} (ha : 0 ≤ a ∧ a ≤ (W : Int) - 1) : ∀ k, k ≤ zs.length → meetSum zs a k W = ((used zs a k).length : Int)
  | 0, _ => by
    have : ∀ m, meetSum zs a 0 m = 0 := fun m => by
      induction m with
      | zero => rfl
      | succ m ih => simp only [meetSum, ih, meets]; split <;> rfl
    rw [this]; rfl
  | k + 1, hk => by
    have hkz : k < zs.length := by omega
    rw [meetSum_step hkz, meetSum_used hz ha k (by omega)]
    simp only [used, List.length_append]
    have ht := at_le (W := (W : Int)) hz ha k (by omega)
    have hr := hz k hkz
    rw [at_succ _ _ _ hkz]
    rcases over_at (at_ zs a k) (gi zs k) with ⟨h1, h2⟩ | ⟨h1, h2⟩
    · rw [if_neg (show ¬ (at_ zs a k = over (at_ zs a k) (gi zs k)) by omega)]
      obtain ⟨b, hb, e⟩ := at_onto hz k (by omega) (over (at_ zs a k) (gi zs k)) (over_le _ _ ht hr)
      rw [if_pos ⟨b, hb, fun e2 => by rw [e2] at e; omega, e.symm, by
        rw [at_succ _ _ _ hkz, e, over_over]⟩]
      simp
    · rw [h2, if_pos rfl, if_neg (fun ⟨b, hb, hne, e1, e2⟩ => at_injG (s := (b : Int)) (t := a) (zs := zs) hne k (by omega) e1.symm)]
      simp
theorem meets_symm (zs : List Int) (a b : Int) : ∀ k, meets zs a b k = meets zs b a k
  | 0 => rfl
  | k + 1 => by
    simp only [meets]
    rw [meets_symm zs a b k]
    congr 1
    by_cases h : at_ zs a (k + 1) = at_ zs b k ∧ at_ zs b (k + 1) = at_ zs a k
    · rw [if_pos h, if_pos ⟨h.2, h.1⟩]
    · rw [if_neg h, if_neg (fun h2 => h ⟨h2.2, h2.1⟩)]

/-- one ladder below another: results one after the other -/
theorem end_below (zs ys : List Int) (s : Int) : endOf (zs ++ ys) s = endOf ys (endOf zs s) := by
  unfold endOf at_
  rw [List.take_length, List.take_length, List.take_length, List.foldl_append]
theorem res_ordG {N : Nat} {zs : List Int} (h : lad (N : Int) zs = true) : ord (res zs N) = true := by
  have h1 := lad_iff.1 h
  refine ord_iff.2 ⟨by rw [res_length]; omega, by rw [res_length]; omega, fun x hx => ?_, nodup_gi.2 fun i j hij hj => ?_⟩
  · obtain ⟨j, hj, rfl⟩ := mem_gi.1 hx
    rw [res_length] at hj
    rw [gi_res _ _ _ hj, res_length]
    have := at_le (W := (N : Int)) (zs := zs) (s := (j : Int)) (fun j hj => lad_at h hj) (by omega) zs.length (Nat.le_refl _)
    unfold endOf
    omega
  · rw [res_length] at hj
    rw [gi_res _ _ _ (by omega), gi_res _ _ _ hj]
    exact at_injG (by omega) _ (Nat.le_refl _)
theorem ord_resN {W : Int} {zs : List Int} (h : lad W zs = true) : ord (resN W zs) = true := by
  have h1 := lad_iff.1 h
  obtain ⟨N, rfl⟩ : ∃ N : Nat, W = N := ⟨W.toNat, by omega⟩
  rw [resN_yes h, Int.toNat_natCast]
  exact res_ordG h
theorem then_below {W : Int} {zs ys : List Int} (h1 : lad W zs = true) (h2 : lad W ys = true) (h3 : lad W (zs ++ ys) = true) :
    thenB (resN W zs) (resN W ys) = true ∧ thenN (resN W zs) (resN W ys) = resN W (zs ++ ys) := by
  have o1 := ord_resN h1
  have o2 := ord_resN h2
  have hl := lad_iff.1 h1
  obtain ⟨N, rfl⟩ : ∃ N : Nat, W = N := ⟨W.toNat, by omega⟩
  have hb : thenB (resN (N : Int) zs) (resN (N : Int) ys) = true := by
    unfold thenB
    rw [o1, o2, resN_yes h1, resN_yes h2, res_length, res_length]
    simp
  refine ⟨hb, ?_⟩
  rw [thenN_yes hb, resN_yes h1, resN_yes h2, resN_yes h3, Int.toNat_natCast]
  refine gi_ext (by rw [thenL_length, res_length, res_length]) fun j hj => ?_
  rw [thenL_length, res_length] at hj
  rw [gi_thenL _ _ _ (by rw [res_length]; exact hj), gi_res _ _ _ hj, gi_res _ _ _ hj, end_below]
  have := at_le (W := (N : Int)) (zs := zs) (s := (j : Int)) (fun j hj => lad_at h1 hj) (by omega) zs.length (Nat.le_refl _)
  have h9 : 0 ≤ endOf zs (j : Int) ∧ endOf zs (j : Int) ≤ (N : Int) - 1 := this
  rw [gi_res _ _ _ (by omega)]
  congr 1
  omega
theorem bw_iff {W V : Int} {zs ys : List Int} : bwB W zs V ys = true ↔ lad W zs = true ∧ lad V ys = true ∧ W = V ∧ lad W (zs ++ ys) = true := by
  unfold bwB
  simp only [Bool.and_eq_true, decide_eq_true_eq]
end Go.Proofs.Ytgadfjfokgodgaa
