/- Games of rungs, the mathematics: everybody at home, the rungs that are left, the outlook of a set of rungs. -/
import Derived.Test.YtiapbmgpjloafaaC1f
namespace Go.Proofs.Ytiapbmgpjloafaa
open Go Go.RowKit

/-- everybody is at home -/
def homeB (zs : List Int) (N : Nat) : Bool := (List.range N).all fun (i : Nat) => decide (endOf zs (i : Int) = (i : Int))
theorem homeB_iff {zs : List Int} {N : Nat} : homeB zs N = true ↔ ∀ i : Nat, i < N → endOf zs (i : Int) = (i : Int) := by
  unfold homeB
  rw [List.all_eq_true]
  exact ⟨fun h i hi => of_decide_eq_true (h i (List.mem_range.2 hi)), fun h i hi => decide_eq_true (h i (List.mem_range.1 hi))⟩
theorem homeB_no {zs : List Int} {N i : Nat} (hi : i < N) (h : endOf zs (i : Int) ≠ (i : Int)) : homeB zs N = false := by
  rcases e : homeB zs N with _ | _
  · rfl
  · exact absurd (homeB_iff.1 e i hi) h

/-- the rungs of a set, of the first k -/
def leftK (zs : List Int) (S : Nat) : Nat → List Int
  | 0 => []
  | k + 1 => if S.testBit k = true then leftK zs S k ++ [gi zs k] else leftK zs S k
def leftL (zs : List Int) (S : Nat) : List Int := leftK zs S zs.length
/-- their indices -/
def indK (S : Nat) : Nat → List Int
  | 0 => []
  | k + 1 => if S.testBit k = true then indK S k ++ [(k : Int)] else indK S k
theorem leftK_yes {zs : List Int} {S k : Nat} (h : S.testBit k = true) : leftK zs S (k + 1) = leftK zs S k ++ [gi zs k] := by simp only [leftK]; rw [if_pos h]
theorem leftK_no {zs : List Int} {S k : Nat} (h : S.testBit k = false) : leftK zs S (k + 1) = leftK zs S k := by simp only [leftK]; rw [if_neg (by rw [h]; decide)]
theorem indK_yes {S k : Nat} (h : S.testBit k = true) : indK S (k + 1) = indK S k ++ [(k : Int)] := by simp only [indK]; rw [if_pos h]
theorem indK_no {S k : Nat} (h : S.testBit k = false) : indK S (k + 1) = indK S k := by simp only [indK]; rw [if_neg (by rw [h]; decide)]
theorem leftK_len (zs : List Int) (S : Nat) : ∀ k, (leftK zs S k).length ≤ k
  | 0 => Nat.le_refl _
  | k + 1 => by have := leftK_len zs S k; simp only [leftK]; split <;> simp <;> omega
theorem indK_len (zs : List Int) (S : Nat) : ∀ k, (indK S k).length = (leftK zs S k).length
  | 0 => rfl
  | k + 1 => by have := indK_len zs S k; simp only [leftK, indK]; split <;> simp [this]
theorem indK_le (S : Nat) : ∀ k, (indK S k).length ≤ k := fun k => by rw [indK_len []]; exact leftK_len [] S k
theorem indK_mem {S : Nat} {x : Int} : ∀ {k : Nat}, x ∈ indK S k ↔ ∃ i : Nat, i < k ∧ S.testBit i = true ∧ x = (i : Int)
  | 0 => by simp [indK]
  | k + 1 => by
    have ih := @indK_mem S x k
    rcases h : S.testBit k with _ | _
    · rw [indK_no h, ih]
      constructor
      · rintro ⟨i, h1, h2, h3⟩; exact ⟨i, by omega, h2, h3⟩
      · rintro ⟨i, h1, h2, h3⟩
        refine ⟨i, ?_, h2, h3⟩
        rcases Nat.lt_or_ge i k with h4 | h4
        · exact h4
        · obtain rfl : i = k := by omega
          rw [h] at h2; cases h2
    · rw [indK_yes h, List.mem_append, ih]
      constructor
      · rintro (⟨i, h1, h2, h3⟩ | h1)
        · exact ⟨i, by omega, h2, h3⟩
        · exact ⟨k, by omega, h, by simpa using h1⟩
      · rintro ⟨i, h1, h2, h3⟩
        rcases Nat.lt_or_ge i k with h4 | h4
        · exact .inl ⟨i, h4, h2, h3⟩
        · obtain rfl : i = k := by omega
          exact .inr (by simp [h3])
theorem leftK_ind (zs : List Int) (S : Nat) : ∀ k, leftK zs S k = (indK S k).map (fun x => gi zs x.toNat)
  | 0 => rfl
  | k + 1 => by have := leftK_ind zs S k; simp only [leftK, indK]; split <;> simp [this]
theorem leftK_in {zs : List Int} {S : Nat} {W : Int} (h : ∀ j, j < zs.length → 0 ≤ gi zs j ∧ gi zs j ≤ W - 2) {k : Nat} (hk : k ≤ zs.length) : ∀ j, j < (leftK zs S k).length → 0 ≤ gi (leftK zs S k) j ∧ gi (leftK zs S k) j ≤ W - 2 := by
  intro j hj
  have hm : gi (leftK zs S k) j ∈ leftK zs S k := by rw [gi_lt hj]; exact List.getElem_mem hj
  rw [leftK_ind] at hm
  obtain ⟨x, hx, e⟩ := List.mem_map.1 hm
  obtain ⟨i, h1, _, h3⟩ := indK_mem.1 hx
  rw [← leftK_ind] at e
  rw [← e, h3, Int.toNat_natCast]
  exact h i (by omega)
theorem leftL_lad {W : Int} {zs : List Int} (h : lad W zs = true) (S : Nat) : lad W (leftL zs S) = true := by
  have h1 := lad_iff.1 h
  refine lad_iff.2 ⟨h1.1, Nat.le_trans (leftK_len zs S _) h1.2.1, allIn_true fun j hj => inB_iff.2 ?_⟩
  exact leftK_in (fun j hj => lad_at h hj) (Nat.le_refl _) j hj
/-- a full set leaves all -/
theorem leftK_full (zs : List Int) : ∀ k, k ≤ zs.length → leftK zs (2 ^ zs.length - 1) k = zs.take k
  | 0, _ => by simp [leftK]
  | k + 1, h => by
    rw [leftK_yes (by rw [Nat.testBit_two_pow_sub_one]; exact decide_eq_true (by omega)), leftK_full zs k (by omega), List.take_succ_eq_append_getElem (by omega), gi_lt (by omega)]
theorem leftL_full (zs : List Int) : leftL zs (2 ^ zs.length - 1) = zs := by unfold leftL; rw [leftK_full zs _ (Nat.le_refl _)]; simp

/-- everybody is at home where the rungs of a set are left -/
def homeQ (zs : List Int) (N S : Nat) : Bool := homeB (leftL zs S) N
theorem at_nil (s : Int) : endOf [] s = s := rfl
theorem homeQ_zero (zs : List Int) (N : Nat) : homeQ zs N 0 = true := by
  have h : ∀ k, leftK zs 0 k = [] := by
    intro k
    induction k with
    | zero => rfl
    | succ k ih => rw [leftK_no (by simp), ih]
  unfold homeQ leftL
  rw [h, homeB_iff]
  intro i _; rfl

/-- a ladder of the taking game -/
def tkB (W : Int) (zs : List Int) : Bool := lad W zs && (decide (zs.length ≤ 12) && !homeB zs W.toNat)
theorem tkB_iff {W : Int} {zs : List Int} : tkB W zs = true ↔ lad W zs = true ∧ zs.length ≤ 12 ∧ homeB zs W.toNat = false := by
  unfold tkB; rw [Bool.and_eq_true, Bool.and_eq_true, decide_eq_true_iff, Bool.not_eq_true']
theorem tkB_no1 {W : Int} {zs : List Int} (h : lad W zs = false) : tkB W zs = false := by unfold tkB; rw [h]; rfl
theorem tkB_no2 {W : Int} {zs : List Int} (h : ¬ zs.length ≤ 12) : tkB W zs = false := by unfold tkB; rw [decide_eq_false h]; simp
theorem tkB_yes {W : Int} {zs : List Int} (h1 : lad W zs = true) (h2 : zs.length ≤ 12) : tkB W zs = !homeB zs W.toNat := by unfold tkB; rw [h1, decide_eq_true h2]; rfl

/-- two exchanged -/
def swp (st : List Int) (r : Nat) : List Int := (st.set r (gi st (r + 1))).set (r + 1) (gi st r)
theorem swp_length (st : List Int) (r : Nat) : (swp st r).length = st.length := by simp [swp]
theorem gi_swp {st : List Int} {r : Nat} (h : r + 1 < st.length) (j : Nat) : gi (swp st r) j = if j = r + 1 then gi st r else if j = r then gi st (r + 1) else gi st j := by
  unfold swp
  rw [gi_set _ _ _ _ (by simpa using h), gi_set _ _ _ _ (by omega)]
/-- who stands where behind the first k rungs -/
def stand (zs : List Int) : Nat → List Int
  | 0 => marks 0 8
  | k + 1 => swp (stand zs k) (gi zs k).toNat
theorem stand_length (zs : List Int) : ∀ k, (stand zs k).length = 8
  | 0 => rfl
  | k + 1 => by simp only [stand]; rw [swp_length, stand_length zs k]
theorem stand_at {zs : List Int} {W : Int} (hW : W ≤ 8) (hz : ∀ j, j < zs.length → 0 ≤ gi zs j ∧ gi zs j ≤ W - 2) {s : Nat} (hs : s < 8) : ∀ k, k ≤ zs.length →
    (0 ≤ at_ zs (s : Int) k ∧ at_ zs (s : Int) k ≤ 7) ∧ gi (stand zs k) (at_ zs (s : Int) k).toNat = (s : Int)
  | 0, _ => by
    rw [at_zero, Int.toNat_natCast]
    refine ⟨by omega, ?_⟩
    simp only [stand]
    rw [gi_marks _ _ _ hs]; omega
  | k + 1, h => by
    obtain ⟨h1, h2⟩ := stand_at hW hz hs k (by omega)
    have h3 := hz k (by omega)
    rw [at_succ _ _ _ (by omega)]
    have h4 := over_le (at_ zs (s : Int) k) (gi zs k) (W := 8) ⟨h1.1, by omega⟩ ⟨h3.1, by omega⟩
    refine ⟨by omega, ?_⟩
    simp only [stand]
    rw [gi_swp (by rw [stand_length]; omega)]
    refine Eq.trans ?_ h2
    unfold over
    by_cases e1 : at_ zs (s : Int) k = gi zs k
    · rw [if_pos e1, if_pos (by omega), e1]
    · rw [if_neg e1]
      by_cases e2 : at_ zs (s : Int) k = gi zs k + 1
      · rw [if_pos e2, if_neg (by omega), if_pos rfl]
        congr 1; omega
      · rw [if_neg e2, if_neg (by omega), if_neg (by omega)]
theorem over_far {W s r : Int} (hs : W ≤ s) (hr : r ≤ W - 2) : over s r = s := by unfold over; rw [if_neg (by omega), if_neg (by omega)]
theorem at_far {zs : List Int} {W : Int} (hz : ∀ j, j < zs.length → 0 ≤ gi zs j ∧ gi zs j ≤ W - 2) {s : Int} (hs : W ≤ s) : ∀ k, k ≤ zs.length → at_ zs s k = s
  | 0, _ => at_zero _ _
  | k + 1, h => by rw [at_succ _ _ _ (by omega), at_far hz hs k (by omega)]; exact over_far hs (hz k (by omega)).2
/-- everybody is at home just where all stand as at first -/
theorem stand_home {zs : List Int} {W : Int} (h : lad W zs = true) : decide (stand zs zs.length = marks 0 8) = homeB zs W.toNat := by
  have hW := (lad_iff.1 h).1
  have hz : ∀ j, j < zs.length → 0 ≤ gi zs j ∧ gi zs j ≤ W - 2 := fun j hj => lad_at h hj
  have hA := fun s (hs : s < 8) => stand_at hW.2 hz hs zs.length (Nat.le_refl _)
  rcases e : homeB zs W.toNat with _ | _
  · rw [decide_eq_false_iff_not]
    intro hst
    have : homeB zs W.toNat = true := homeB_iff.2 fun i hi => by
      have h1 := hA i (by omega)
      rw [hst, gi_marks _ _ _ (by omega)] at h1
      unfold endOf; omega
    rw [e] at this; cases this
  · rw [decide_eq_true_iff]
    apply gi_ext (by rw [stand_length]; rfl)
    intro j hj
    rw [stand_length] at hj
    have h1 := hA j hj
    have h2 : at_ zs (j : Int) zs.length = (j : Int) := by
      by_cases hjw : (j : Int) < W
      · exact homeB_iff.1 e j (by omega)
      · exact at_far hz (by omega) _ (Nat.le_refl _)
    rw [h2, Int.toNat_natCast] at h1
    rw [h1.2, gi_marks _ _ _ hj]; omega
end Go.Proofs.Ytiapbmgpjloafaa
