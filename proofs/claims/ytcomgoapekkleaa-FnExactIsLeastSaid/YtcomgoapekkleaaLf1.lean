/- The first least ladder of a list: at each step the first descent is exchanged; a weighted sum that grows at each step bounds the steps. -/
import Derived.Test.YtcomgoapekkleaaWords
namespace Go.Proofs.Ytcomgoapekkleaa
open Go Go.RowKit

/-- a descent at i -/
def dsc (zs : List Int) (i : Nat) : Prop := i + 1 < zs.length ∧ gi zs (i + 1) < gi zs i
/-- the first descent, if there is one -/
def fdsc (zs : List Int) : Nat → Option Nat
  | 0 => none
  | k + 1 => match fdsc zs k with
    | some i => some i
    | none => if gi zs (k + 1) < gi zs k then some k else none
def exch (zs : List Int) (i : Nat) : List Int := (zs.set i (gi zs (i + 1))).set (i + 1) (gi zs i)
/-- the steps, at most f of them -/
def firstF : Nat → List Int → List Int
  | 0, _ => []
  | f + 1, zs => match fdsc zs (zs.length - 1) with
    | none => []
    | some i => (i : Int) :: firstF f (exch zs i)
/-- the weighted sum -/
def wsum (zs : List Int) : Nat → Int
  | 0 => 0
  | k + 1 => wsum zs k + k * gi zs k
def firstL (zs : List Int) : List Int := firstF 600 zs

theorem exch_length (zs : List Int) (i : Nat) : (exch zs i).length = zs.length := by simp [exch]
theorem gi_exch {zs : List Int} {i : Nat} (h : i + 1 < zs.length) (j : Nat) : gi (exch zs i) j = if j = i then gi zs (i + 1) else if j = i + 1 then gi zs i else gi zs j := by
  unfold exch
  rw [gi_set _ _ _ _ (by simp; omega), gi_set _ _ _ _ (by omega)]
  by_cases h1 : j = i
  · subst h1; simp
  · by_cases h2 : j = i + 1
    · subst h2; simp
    · simp [h1, h2]
theorem wsum_same {zs ys : List Int} : ∀ (k : Nat), (∀ j, j < k → gi ys j = gi zs j) → wsum ys k = wsum zs k
  | 0, _ => rfl
  | k + 1, h => by simp only [wsum]; rw [wsum_same k (fun j hj => h j (by omega)), h k (by omega)]
theorem wsum_exch {zs : List Int} {i : Nat} (h : i + 1 < zs.length) : ∀ (k : Nat), i + 2 ≤ k → wsum (exch zs i) k = wsum zs k + (gi zs i - gi zs (i + 1)) := by
  intro k hk
  induction k with
  | zero => omega
  | succ k ih =>
    simp only [wsum]
    by_cases e : k = i + 1
    · subst e
      simp only [wsum]
      rw [wsum_same (zs := zs) (ys := exch zs i) i (fun j hj => by rw [gi_exch h]; rw [if_neg (by omega), if_neg (by omega)])]
      rw [gi_exch h i, gi_exch h (i + 1), if_pos rfl, if_neg (by omega), if_pos rfl]
      have e1 : ((i + 1 : Nat) : Int) = (i : Int) + 1 := by omega
      rw [e1, Int.add_mul, Int.add_mul]
      omega
    · rw [ih (by omega), gi_exch h k, if_neg (by omega), if_neg (by omega)]
      omega
theorem fdsc_some {zs : List Int} {i : Nat} : ∀ (k : Nat), fdsc zs k = some i → i < k ∧ gi zs (i + 1) < gi zs i ∧ ∀ j, j < i → ¬ gi zs (j + 1) < gi zs j := by
  intro k
  induction k with
  | zero => intro h; simp [fdsc] at h
  | succ k ih =>
    intro h
    unfold fdsc at h
    cases hq : fdsc zs k with
    | some x => rw [hq] at h; cases h; obtain ⟨a, b, c⟩ := ih hq; exact ⟨by omega, b, c⟩
    | none =>
      rw [hq] at h
      simp only at h
      split at h
      · rename_i hlt
        cases h
        refine ⟨by omega, hlt, fun j hj hd => ?_⟩
        have hn : ∀ (m : Nat), fdsc zs m = none → ∀ j, j < m → ¬ gi zs (j + 1) < gi zs j := by
          intro m
          induction m with
          | zero => intro _ j hj; omega
          | succ m im =>
            intro hm j hj
            unfold fdsc at hm
            cases hr : fdsc zs m with
            | some x => rw [hr] at hm; cases hm
            | none =>
              rw [hr] at hm
              simp only at hm
              split at hm
              · cases hm
              · rename_i hnl
                by_cases e : j = m
                · subst e; exact hnl
                · exact im hr j (by omega)
        exact hn _ hq j hj hd
      · cases h
theorem fdsc_none {zs : List Int} : ∀ (m : Nat), fdsc zs m = none → ∀ j, j < m → ¬ gi zs (j + 1) < gi zs j := by
  intro m
  induction m with
  | zero => intro _ j hj; omega
  | succ m im =>
    intro hm j hj
    unfold fdsc at hm
    cases hr : fdsc zs m with
    | some x => rw [hr] at hm; cases hm
    | none =>
      rw [hr] at hm
      simp only at hm
      split at hm
      · cases hm
      · rename_i hnl
        by_cases e : j = m
        · subst e; exact hnl
        · exact im hr j (by omega)
/-- entries within bounds -/
def Inn8 (zs : List Int) : Prop := zs.length ≤ 8 ∧ ∀ j, j < zs.length → 0 ≤ gi zs j ∧ gi zs j ≤ 8
theorem Inn8.exch {zs : List Int} (h : Inn8 zs) {i : Nat} (hi : i + 1 < zs.length) : Inn8 (exch zs i) := by
  refine ⟨by rw [exch_length]; exact h.1, fun j hj => ?_⟩
  rw [exch_length] at hj
  rw [gi_exch hi]
  split
  · exact h.2 _ (by omega)
  · split
    · exact h.2 _ (by omega)
    · exact h.2 _ hj
theorem wsum_le {zs : List Int} (h : Inn8 zs) : ∀ (k : Nat), k ≤ zs.length → wsum zs k ≤ 64 * (k : Int)
  | 0, _ => by simp [wsum]
  | k + 1, hk => by
    have h1 := wsum_le h k (by omega)
    have h2 := h.2 k (by omega)
    have h3 : (k : Int) * gi zs k ≤ 8 * 8 := Int.mul_le_mul (by have := h.1; omega) h2.2 h2.1 (by omega)
    simp only [wsum]
    omega
theorem wsum_nonneg {zs : List Int} (h : Inn8 zs) : ∀ (k : Nat), k ≤ zs.length → 0 ≤ wsum zs k
  | 0, _ => by simp [wsum]
  | k + 1, hk => by
    have h1 := wsum_nonneg h k (by omega)
    have h2 := h.2 k (by omega)
    have h3 : 0 ≤ (k : Int) * gi zs k := Int.mul_nonneg (by omega) h2.1
    simp only [wsum]
    omega
/-- how far the steps have come: f steps are enough for what is left -/
structure FRel (zs out cur : List Int) (f : Nat) : Prop where
  inn : Inn8 cur
  len : cur.length = zs.length
  eq : out ++ firstF f cur = firstL zs
  lo : 512 ≤ wsum cur cur.length + f
  cnt : out.length + f = 600
theorem FRel.start {zs : List Int} (h : Inn8 zs) : FRel zs [] zs 600 :=
  ⟨h, rfl, rfl, by have := wsum_nonneg h _ (Nat.le_refl _); omega, rfl⟩
theorem FRel.stop {zs out cur : List Int} {f : Nat} (h : FRel zs out cur f) (hd : fdsc cur (cur.length - 1) = none) : out = firstL zs := by
  rw [← h.eq]
  cases f with
  | zero => simp [firstF]
  | succ f => simp only [firstF, hd, List.append_nil]
theorem FRel.step {zs out cur : List Int} {f i : Nat} (h : FRel zs out cur f) (hd : fdsc cur (cur.length - 1) = some i) : ∃ g, f = g + 1 ∧ i + 1 < cur.length ∧ FRel zs (out ++ [(i : Int)]) (exch cur i) g := by
  obtain ⟨h1, h2, _⟩ := fdsc_some _ hd
  have hi : i + 1 < cur.length := by omega
  have hw := wsum_exch hi cur.length (by omega)
  have hi8 := h.inn.exch hi
  have hle := wsum_le hi8 _ (Nat.le_refl _)
  rw [exch_length] at hle
  have hl8 := h.inn.1
  have hlo := h.lo
  have hc := h.cnt
  cases f with
  | zero => exfalso; omega
  | succ g =>
    refine ⟨g, rfl, hi, hi8, by rw [exch_length]; exact h.len, ?_, ?_, by simp; omega⟩
    · rw [← h.eq]
      simp only [firstF, hd, List.append_assoc, List.cons_append, List.nil_append]
    · rw [exch_length, hw]; omega
theorem firstF_len : ∀ (f : Nat) (zs : List Int), (firstF f zs).length ≤ f
  | 0, _ => Nat.le_refl _
  | f + 1, zs => by
    unfold firstF
    split
    · simp
    · simp; exact firstF_len f _
theorem firstL_len (zs : List Int) : (firstL zs).length ≤ 600 := firstF_len _ _
theorem fdsc_mono {zs : List Int} {k i : Nat} (h : fdsc zs k = some i) : ∀ (j : Nat), fdsc zs (k + j) = some i
  | 0 => h
  | j + 1 => by
    have := fdsc_mono h j
    rw [← Nat.add_assoc]
    simp [fdsc, this]
theorem fdsc_to {zs : List Int} {k i m : Nat} (h : fdsc zs k = some i) (hm : k ≤ m) : fdsc zs m = some i := by
  have := fdsc_mono h (m - k)
  rwa [show k + (m - k) = m by omega] at this
theorem fdsc_yes {zs : List Int} {k : Nat} (h : fdsc zs k = none) (hd : gi zs (k + 1) < gi zs k) : fdsc zs (k + 1) = some k := by simp [fdsc, h, hd]
theorem fdsc_no {zs : List Int} {k : Nat} (h : fdsc zs k = none) (hd : ¬ gi zs (k + 1) < gi zs k) : fdsc zs (k + 1) = none := by simp [fdsc, h, hd]
/-- the first descent below k as the model tells it -/
def atV (zs : List Int) (k : Nat) : Int := match fdsc zs k with
  | none => -1
  | some i => (i : Int)
theorem atV_none {zs : List Int} {k : Nat} (h : fdsc zs k = none) : atV zs k = -1 := by simp [atV, h]
theorem atV_some {zs : List Int} {k i : Nat} (h : fdsc zs k = some i) : atV zs k = (i : Int) := by simp [atV, h]
end Go.Proofs.Ytcomgoapekkleaa
