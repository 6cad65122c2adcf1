/- The inversions of a list, as the model counts them. The code of an order, and the order of a code: mathematics. The first least ladder of a list: at each step the first descent is exchanged; a weighted sum that grows at each step bounds the steps. The ways down from an order to the rising one, and how many they are. -/
import Derived.Test.YtgeeifjbfceogaaGreatDoorMgA
namespace Go.Proofs.YtgeeifjbfceogaaGreatDoor
open Go Go.RowKit

/-- the pairs with first place i whose second place is one of the m places behind i -/
def rowP (zs : List Int) (i : Nat) : Nat → List (List Int)
  | 0 => []
  | m + 1 => rowP zs i m ++ (if gi zs (i + 1 + m) < gi zs i then [[(i : Int), ((i + 1 + m : Nat) : Int)]] else [])
/-- the pairs with first places below k -/
def invK (zs : List Int) : Nat → List (List Int)
  | 0 => []
  | k + 1 => invK zs k ++ rowP zs k (zs.length - (k + 1))
def invs (zs : List Int) : List (List Int) := invK zs zs.length
theorem rowP_yes {zs : List Int} {i m : Nat} (h : gi zs (i + 1 + m) < gi zs i) : rowP zs i (m + 1) = rowP zs i m ++ [[(i : Int), ((i + 1 + m : Nat) : Int)]] := by simp only [rowP]; rw [if_pos h]
theorem rowP_no {zs : List Int} {i m : Nat} (h : ¬ gi zs (i + 1 + m) < gi zs i) : rowP zs i (m + 1) = rowP zs i m := by simp only [rowP]; rw [if_neg h, List.append_nil]
theorem rowP_len (zs : List Int) (i : Nat) : ∀ m, (rowP zs i m).length ≤ m
  | 0 => Nat.le_refl _
  | m + 1 => by
    have := rowP_len zs i m
    simp only [rowP, List.length_append]
    split <;> simp <;> omega
theorem invK_len (zs : List Int) : ∀ k, (invK zs k).length ≤ k * zs.length
  | 0 => by simp [invK]
  | k + 1 => by
    have := invK_len zs k
    have := rowP_len zs k (zs.length - (k + 1))
    simp only [invK, List.length_append]
    rw [Nat.add_mul]
    omega
theorem rowP_two {zs : List Int} {i : Nat} {x : List Int} : ∀ m, x ∈ rowP zs i m → x.length = 2
  | 0, h => by simp [rowP] at h
  | m + 1, h => by
    simp only [rowP, List.mem_append] at h
    rcases h with h | h
    · exact rowP_two m h
    · split at h
      · simp at h; subst h; rfl
      · simp at h
theorem invK_two {zs : List Int} {x : List Int} : ∀ k, x ∈ invK zs k → x.length = 2
  | 0, h => by simp [invK] at h
  | k + 1, h => by
    simp only [invK, List.mem_append] at h
    rcases h with h | h
    · exact invK_two k h
    · exact rowP_two _ h
theorem invs_len (zs : List Int) : (invs zs).length ≤ zs.length * zs.length := invK_len _ _
/-- the pairs with first place k whose second place is below p -/
def rowQ (zs : List Int) (k p : Nat) : List (List Int) := rowP zs k (p - (k + 1))
theorem rowQ_start (zs : List Int) (k : Nat) : rowQ zs k (k + 1) = [] := by simp [rowQ, rowP]
theorem rowQ_yes {zs : List Int} {k p : Nat} (h : k + 1 ≤ p) (hlt : gi zs p < gi zs k) : rowQ zs k (p + 1) = rowQ zs k p ++ [[(k : Int), (p : Int)]] := by
  have e : p + 1 - (k + 1) = p - (k + 1) + 1 := by omega
  have e2 : k + 1 + (p - (k + 1)) = p := by omega
  unfold rowQ
  rw [e, rowP_yes (by rw [e2]; exact hlt), e2]
theorem rowQ_no {zs : List Int} {k p : Nat} (h : k + 1 ≤ p) (hlt : ¬ gi zs p < gi zs k) : rowQ zs k (p + 1) = rowQ zs k p := by
  have e : p + 1 - (k + 1) = p - (k + 1) + 1 := by omega
  have e2 : k + 1 + (p - (k + 1)) = p := by omega
  unfold rowQ
  rw [e, rowP_no (by rw [e2]; exact hlt)]
theorem invK_row (zs : List Int) (k : Nat) : invK zs (k + 1) = invK zs k ++ rowQ zs k zs.length := rfl
theorem invQ_len {zs : List Int} {k p : Nat} (hk : k ≤ 8) (hp : p ≤ 9) (h8 : zs.length ≤ 8) : (invK zs k ++ rowQ zs k p).length ≤ 100 := by
  have h1 := invK_len zs k
  have h2 := rowP_len zs k (p - (k + 1))
  have h3 : k * zs.length ≤ 8 * 8 := Nat.mul_le_mul hk h8
  simp only [List.length_append, rowQ]
  omega
end Go.Proofs.YtgeeifjbfceogaaGreatDoor
namespace Go.Proofs.YtgeeifjbfceogaaGreatDoor
open Go Go.RowKit

/-- how many of the m places behind i have less -/
def cntB (zs : List Int) (i : Nat) : Nat → Nat
  | 0 => 0
  | m + 1 => cntB zs i m + (if gi zs (i + 1 + m) < gi zs i then 1 else 0)
theorem cntB_le (zs : List Int) (i : Nat) : ∀ m, cntB zs i m ≤ m
  | 0 => Nat.le_refl _
  | m + 1 => by have := cntB_le zs i m; simp only [cntB]; split <;> omega
theorem cntB_yes {zs : List Int} {i m : Nat} (h : gi zs (i + 1 + m) < gi zs i) : cntB zs i (m + 1) = cntB zs i m + 1 := by simp only [cntB]; rw [if_pos h]
theorem cntB_no {zs : List Int} {i m : Nat} (h : ¬ gi zs (i + 1 + m) < gi zs i) : cntB zs i (m + 1) = cntB zs i m := by simp only [cntB]; rw [if_neg h, Nat.add_zero]
theorem cntB_rowP (zs : List Int) (i : Nat) : ∀ m, (rowP zs i m).length = cntB zs i m
  | 0 => rfl
  | m + 1 => by simp only [rowP, cntB, List.length_append]; rw [cntB_rowP zs i m]; split <;> simp
/-- the code of the first k places -/
def codeK (zs : List Int) : Nat → List Int
  | 0 => []
  | k + 1 => codeK zs k ++ [(cntB zs k (zs.length - (k + 1)) : Int)]
theorem codeK_len (zs : List Int) : ∀ k, (codeK zs k).length = k
  | 0 => rfl
  | k + 1 => by simp [codeK, codeK_len zs k]
def codeL (zs : List Int) : List Int := codeK zs zs.length
/-- how many inversions the first k places have -/
def invN (zs : List Int) : Nat → Nat
  | 0 => 0
  | k + 1 => invN zs k + cntB zs k (zs.length - (k + 1))
theorem invN_len (zs : List Int) : ∀ k, (invK zs k).length = invN zs k
  | 0 => rfl
  | k + 1 => by simp only [invK, invN, List.length_append]; rw [invN_len zs k, cntB_rowP]
/-- the first k places that have more than the next -/
def dscK (zs : List Int) : Nat → List Int
  | 0 => []
  | k + 1 => dscK zs k ++ (if gi zs (k + 1) < gi zs k then [(k : Int)] else [])
theorem dscK_len (zs : List Int) : ∀ k, (dscK zs k).length ≤ k
  | 0 => Nat.le_refl _
  | k + 1 => by have := dscK_len zs k; simp only [dscK, List.length_append]; split <;> simp <;> omega
def dscL (zs : List Int) : List Int := dscK zs (zs.length - 1)
/-- the order of a code, out of the places that are left; none where there is none -/
def orderC : List Int → List Int → Option (List Int)
  | _, [] => some []
  | left, x :: xs => if 0 ≤ x ∧ x < left.length then (orderC (left.eraseIdx x.toNat) xs).map fun r => gi left x.toNat :: r else none
def upto (n : Nat) : List Int := (List.range n).map fun (k : Nat) => (k : Int)
theorem upto_len (n : Nat) : (upto n).length = n := by simp [upto]
theorem upto_succ (n : Nat) : upto (n + 1) = upto n ++ [(n : Int)] := by simp [upto, List.range_succ]
def orderL (xs : List Int) : Option (List Int) := orderC (upto xs.length) xs
theorem orderC_len : ∀ (xs left r : List Int), orderC left xs = some r → r.length = xs.length
  | [], _, r, h => by simp only [orderC] at h; cases h; rfl
  | x :: xs, left, r, h => by
    simp only [orderC] at h
    split at h
    · obtain ⟨r2, hr2, rfl⟩ := Option.map_eq_some_iff.1 h
      simp [orderC_len xs _ _ hr2]
    · cases h
end Go.Proofs.YtgeeifjbfceogaaGreatDoor
namespace Go.Proofs.YtgeeifjbfceogaaGreatDoor
open Go Go.RowKit

/-- a descent at i -/
def dsc (zs : List Int) (i : Nat) : Prop := i + 1 < zs.length ∧ gi zs (i + 1) < gi zs i
/-- the first descent, if there is one -/
def fdsc (zs : List Int) : Nat → Option Nat
  | 0 => none
  | k + 1 => match fdsc zs k with
    | some i => some i
    | none => if gi zs (k + 1) < gi zs k then some k else none
def exch (zs : List Int) (i : Nat) : List Int := (zs.set i (gi zs (i + 1))).set (i + 1) (gi zs i)
/-- the steps, at most f of them -/
def firstF : Nat → List Int → List Int
  | 0, _ => []
  | f + 1, zs => match fdsc zs (zs.length - 1) with
    | none => []
    | some i => (i : Int) :: firstF f (exch zs i)
/-- the weighted sum -/
def wsum (zs : List Int) : Nat → Int
  | 0 => 0
  | k + 1 => wsum zs k + k * gi zs k
def firstL (zs : List Int) : List Int := firstF 600 zs

theorem exch_length (zs : List Int) (i : Nat) : (exch zs i).length = zs.length := by simp [exch]
theorem gi_exch {zs : List Int} {i : Nat} (h : i + 1 < zs.length) (j : Nat) : gi (exch zs i) j = if j = i then gi zs (i + 1) else if j = i + 1 then gi zs i else gi zs j := by
  unfold exch
  rw [gi_set _ _ _ _ (by simp; omega), gi_set _ _ _ _ (by omega)]
  by_cases h1 : j = i
  · subst h1; simp
  · by_cases h2 : j = i + 1
    · subst h2; simp
    · simp [h1, h2]
theorem wsum_same {zs ys : List Int} : ∀ (k : Nat), (∀ j, j < k → gi ys j = gi zs j) → wsum ys k = wsum zs k
  | 0, _ => rfl
  | k + 1, h => by simp only [wsum]; rw [wsum_same k (fun j hj => h j (by omega)), h k (by omega)]
theorem wsum_exch {zs : List Int} {i : Nat} (h : i + 1 < zs.length) : ∀ (k : Nat), i + 2 ≤ k → wsum (exch zs i) k = wsum zs k + (gi zs i - gi zs (i + 1)) := by
  intro k hk
  induction k with
  | zero => omega
  | succ k ih =>
    simp only [wsum]
    by_cases e : k = i + 1
    · subst e
      simp only [wsum]
      rw [wsum_same (zs := zs) (ys := exch zs i) i (fun j hj => by rw [gi_exch h]; rw [if_neg (by omega), if_neg (by omega)])]
      rw [gi_exch h i, gi_exch h (i + 1), if_pos rfl, if_neg (by omega), if_pos rfl]
      have e1 : ((i + 1 : Nat) : Int) = (i : Int) + 1 := by omega
      rw [e1, Int.add_mul, Int.add_mul]
      omega
    · rw [ih (by omega), gi_exch h k, if_neg (by omega), if_neg (by omega)]
      omega
theorem fdsc_some {zs : List Int} {i : Nat} : ∀ (k : Nat), fdsc zs k = some i → i < k ∧ gi zs (i + 1) < gi zs i ∧ ∀ j, j < i → ¬ gi zs (j + 1) < gi zs j := by
  intro k
  induction k with
  | zero => intro h; simp [fdsc] at h
  | succ k ih =>
    intro h
    unfold fdsc at h
    cases hq : fdsc zs k with
    | some x => rw [hq] at h; cases h; obtain ⟨a, b, c⟩ := ih hq; exact ⟨by omega, b, c⟩
    | none =>
      rw [hq] at h
      simp only at h
      split at h
      · rename_i hlt
        cases h
        refine ⟨by omega, hlt, fun j hj hd => ?_⟩
        have hn : ∀ (m : Nat), fdsc zs m = none → ∀ j, j < m → ¬ gi zs (j + 1) < gi zs j := by
          intro m
          induction m with
          | zero => intro _ j hj; omega
          | succ m im =>
            intro hm j hj
            unfold fdsc at hm
            cases hr : fdsc zs m with
            | some x => rw [hr] at hm; cases hm
            | none =>
              rw [hr] at hm
              simp only at hm
              split at hm
              · cases hm
              · rename_i hnl
                by_cases e : j = m
                · subst e; exact hnl
                · exact im hr j (by omega)
        exact hn _ hq j hj hd
      · cases h
theorem fdsc_none {zs : List Int} : ∀ (m : Nat), fdsc zs m = none → ∀ j, j < m → ¬ gi zs (j + 1) < gi zs j := by
  intro m
  induction m with
  | zero => intro _ j hj; omega
  | succ m im =>
    intro hm j hj
    unfold fdsc at hm
    cases hr : fdsc zs m with
    | some x => rw [hr] at hm; cases hm
    | none =>
      rw [hr] at hm
      simp only at hm
      split at hm
      · cases hm
      · rename_i hnl
        by_cases e : j = m
        · subst e; exact hnl
        · exact im hr j (by omega)
/-- entries within bounds -/
def Inn8 (zs : List Int) : Prop := zs.length ≤ 8 ∧ ∀ j, j < zs.length → 0 ≤ gi zs j ∧ gi zs j ≤ 8
theorem Inn8.exch {zs : List Int} (h : Inn8 zs) {i : Nat} (hi : i + 1 < zs.length) : Inn8 (exch zs i) := by
  refine ⟨by rw [exch_length]; exact h.1, fun j hj => ?_⟩
  rw [exch_length] at hj
  rw [gi_exch hi]
  split
  · exact h.2 _ (by omega)
  · split
    · exact h.2 _ (by omega)
    · exact h.2 _ hj
theorem wsum_le {zs : List Int} (h : Inn8 zs) : ∀ (k : Nat), k ≤ zs.length → wsum zs k ≤ 64 * (k : Int)
  | 0, _ => by simp [wsum]
  | k + 1, hk => by
    have h1 := wsum_le h k (by omega)
    have h2 := h.2 k (by omega)
    have h3 : (k : Int) * gi zs k ≤ 8 * 8 := Int.mul_le_mul (by have := h.1; omega) h2.2 h2.1 (by omega)
    simp only [wsum]
    omega
theorem wsum_nonneg {zs : List Int} (h : Inn8 zs) : ∀ (k : Nat), k ≤ zs.length → 0 ≤ wsum zs k
  | 0, _ => by simp [wsum]
  | k + 1, hk => by
    have h1 := wsum_nonneg h k (by omega)
    have h2 := h.2 k (by omega)
    have h3 : 0 ≤ (k : Int) * gi zs k := Int.mul_nonneg (by omega) h2.1
    simp only [wsum]
    omega
/-- how far the steps have come: f steps are enough for what is left -/
structure FRel (zs out cur : List Int) (f : Nat) : Prop where
  inn : Inn8 cur
  len : cur.length = zs.length
  eq : out ++ firstF f cur = firstL zs
  lo : 512 ≤ wsum cur cur.length + f
  cnt : out.length + f = 600
theorem FRel.start {zs : List Int} (h : Inn8 zs) : FRel zs [] zs 600 :=
  ⟨h, rfl, rfl, by have := wsum_nonneg h _ (Nat.le_refl _); omega, rfl⟩
theorem FRel.stop {zs out cur : List Int} {f : Nat} (h : FRel zs out cur f) (hd : fdsc cur (cur.length - 1) = none) : out = firstL zs := by
  rw [← h.eq]
  cases f with
  | zero => simp [firstF]
  | succ f => simp only [firstF, hd, List.append_nil]
theorem FRel.step {zs out cur : List Int} {f i : Nat} (h : FRel zs out cur f) (hd : fdsc cur (cur.length - 1) = some i) : ∃ g, f = g + 1 ∧ i + 1 < cur.length ∧ FRel zs (out ++ [(i : Int)]) (exch cur i) g := by
  obtain ⟨h1, h2, _⟩ := fdsc_some _ hd
  have hi : i + 1 < cur.length := by omega
  have hw := wsum_exch hi cur.length (by omega)
  have hi8 := h.inn.exch hi
  have hle := wsum_le hi8 _ (Nat.le_refl _)
  rw [exch_length] at hle
  have hl8 := h.inn.1
  have hlo := h.lo
  have hc := h.cnt
  cases f with
  | zero => exfalso; omega
  | succ g =>
    refine ⟨g, rfl, hi, hi8, by rw [exch_length]; exact h.len, ?_, ?_, by simp; omega⟩
    · rw [← h.eq]
      simp only [firstF, hd, List.append_assoc, List.cons_append, List.nil_append]
    · rw [exch_length, hw]; omega
theorem firstF_len : ∀ (f : Nat) (zs : List Int), (firstF f zs).length ≤ f
  | 0, _ => Nat.le_refl _
  | f + 1, zs => by
    unfold firstF
    split
    · simp
    · simp; exact firstF_len f _
theorem firstL_len (zs : List Int) : (firstL zs).length ≤ 600 := firstF_len _ _
theorem fdsc_mono {zs : List Int} {k i : Nat} (h : fdsc zs k = some i) : ∀ (j : Nat), fdsc zs (k + j) = some i
  | 0 => h
  | j + 1 => by
    have := fdsc_mono h j
    rw [← Nat.add_assoc]
    simp [fdsc, this]
theorem fdsc_to {zs : List Int} {k i m : Nat} (h : fdsc zs k = some i) (hm : k ≤ m) : fdsc zs m = some i := by
  have := fdsc_mono h (m - k)
  rwa [show k + (m - k) = m by omega] at this
theorem fdsc_yes {zs : List Int} {k : Nat} (h : fdsc zs k = none) (hd : gi zs (k + 1) < gi zs k) : fdsc zs (k + 1) = some k := by simp [fdsc, h, hd]
theorem fdsc_no {zs : List Int} {k : Nat} (h : fdsc zs k = none) (hd : ¬ gi zs (k + 1) < gi zs k) : fdsc zs (k + 1) = none := by simp [fdsc, h, hd]
/-- the first descent below k as the model tells it -/
def atV (zs : List Int) (k : Nat) : Int := match fdsc zs k with
  | none => -1
  | some i => (i : Int)
theorem atV_none {zs : List Int} {k : Nat} (h : fdsc zs k = none) : atV zs k = -1 := by simp [atV, h]
theorem atV_some {zs : List Int} {k i : Nat} (h : fdsc zs k = some i) : atV zs k = (i : Int) := by simp [atV, h]
end Go.Proofs.YtgeeifjbfceogaaGreatDoor
namespace Go.Proofs.YtgeeifjbfceogaaGreatDoor
open Go

def np : Nat → List Int → Nat
  | 0, _ => 1
  | k + 1, zs => ((dscL zs).map fun d => np k (exch zs d.toNat)).sum

theorem mem_dscK {zs : List Int} {d : Int} : ∀ k, d ∈ dscK zs k → ∃ i : Nat, d = (i : Int) ∧ i < k ∧ gi zs (i + 1) < gi zs i
  | 0, h => by simp [dscK] at h
  | k + 1, h => by
    simp only [dscK, List.mem_append] at h
    rcases h with h | h
    · obtain ⟨i, h1, h2, h3⟩ := mem_dscK k h
      exact ⟨i, h1, by omega, h3⟩
    · by_cases hk : gi zs (k + 1) < gi zs k
      · rw [if_pos hk] at h
        exact ⟨k, by simpa using h, by omega, hk⟩
      · rw [if_neg hk] at h; cases h
theorem mem_dscL {zs : List Int} {d : Int} (h : d ∈ dscL zs) : ∃ i : Nat, d = (i : Int) ∧ i + 1 < zs.length ∧ gi zs (i + 1) < gi zs i := by
  obtain ⟨i, h1, h2, h3⟩ := mem_dscK _ h
  exact ⟨i, h1, by omega, h3⟩
theorem dscK_mem {zs : List Int} {i : Nat} (hd : gi zs (i + 1) < gi zs i) : ∀ k, i < k → (i : Int) ∈ dscK zs k
  | 0, h => by omega
  | k + 1, h => by
    simp only [dscK, List.mem_append]
    by_cases e : i = k
    · subst e; right; rw [if_pos hd]; simp
    · left; exact dscK_mem hd k (by omega)
theorem dscL_mem {zs : List Int} {i : Nat} (hi : i + 1 < zs.length) (hd : gi zs (i + 1) < gi zs i) : (i : Int) ∈ dscL zs := dscK_mem hd _ (by omega)

/-- How many pairs stand the wrong way round. -/
def lessN (x : Int) (ys : List Int) : Nat := ys.countP fun y => decide (y < x)
def ninv : List Int → Nat
  | [] => 0
  | x :: xs => lessN x xs + ninv xs

theorem exch_zero (x y : Int) (b : List Int) : exch (x :: y :: b) 0 = y :: x :: b := by simp [exch, gi]
theorem exch_succ (z : Int) (zs : List Int) (i : Nat) : exch (z :: zs) (i + 1) = z :: exch zs i := by simp [exch, gi]
theorem exch_perm : ∀ (zs : List Int) (i : Nat), i + 1 < zs.length → List.Perm (exch zs i) zs
  | [], i, h => by simp at h
  | [x], i, h => by simp at h
  | x :: y :: b, 0, _ => by rw [exch_zero]; exact List.Perm.swap _ _ _
  | x :: y :: b, i + 1, h => by rw [exch_succ]; exact (exch_perm (y :: b) i (by simpa using h)).cons _
theorem lessN_perm {x : Int} {a b : List Int} (h : List.Perm a b) : lessN x a = lessN x b := h.countP_eq _
theorem ninv_exch : ∀ (zs : List Int) (i : Nat), i + 1 < zs.length → gi zs (i + 1) < gi zs i → ninv zs = ninv (exch zs i) + 1
  | [], i, h, _ => by simp at h
  | [x], i, h, _ => by simp at h
  | x :: y :: b, 0, _, hd => by
    have hd : y < x := by simpa [gi] using hd
    have h2 : ¬ x < y := by omega
    rw [exch_zero]
    simp only [ninv, lessN, List.countP_cons, hd, h2, decide_true, decide_false, if_true]
    simp
    omega
  | x :: y :: b, i + 1, h, hd => by
    have hi : i + 1 < (y :: b).length := by simpa using h
    have := ninv_exch (y :: b) i hi (by simpa [gi] using hd)
    rw [exch_succ]
    simp only [ninv] at this ⊢
    rw [lessN_perm (exch_perm (y :: b) i hi)]
    omega
theorem lessN_zero {x : Int} {ys : List Int} (h : ∀ y ∈ ys, ¬ y < x) : lessN x ys = 0 := by
  unfold lessN
  rw [List.countP_eq_zero]
  intro y hy
  simp
  have := h y hy
  omega
theorem ninv_rising : ∀ (zs : List Int), zs.Pairwise (· ≤ ·) → ninv zs = 0
  | [], _ => rfl
  | x :: xs, h => by
    rw [List.pairwise_cons] at h
    simp only [ninv]
    rw [ninv_rising xs h.2, lessN_zero (fun y hy => by have := h.1 y hy; omega)]
theorem rising_of_steps : ∀ (zs : List Int), (∀ i, i + 1 < zs.length → gi zs i ≤ gi zs (i + 1)) → zs.Pairwise (· ≤ ·)
  | [], _ => List.Pairwise.nil
  | [x], _ => by simp
  | x :: y :: b, h => by
    have ih := rising_of_steps (y :: b) (fun i hi => by have := h (i + 1) (by simpa using hi); simpa [gi] using this)
    rw [List.pairwise_cons]
    refine ⟨fun z hz => ?_, ih⟩
    have h0 : x ≤ y := by have := h 0 (by simp); simpa [gi] using this
    rcases List.mem_cons.1 hz with rfl | hz
    · exact h0
    · have := (List.pairwise_cons.1 ih).1 z hz
      omega
theorem exists_desc {zs : List Int} (h : 0 < ninv zs) : ∃ i, i + 1 < zs.length ∧ gi zs (i + 1) < gi zs i := by
  apply Classical.byContradiction
  intro hn
  have := ninv_rising zs (rising_of_steps zs (fun i hi => by
    apply Classical.byContradiction
    intro hc
    exact hn ⟨i, hi, by omega⟩))
  omega
theorem dscL_nil {zs : List Int} (h : ninv zs = 0) : dscL zs = [] := by
  rcases hd : dscL zs with _ | ⟨d, r⟩
  · rfl
  · obtain ⟨i, _, h2, h3⟩ := mem_dscL (zs := zs) (d := d) (by rw [hd]; simp)
    have := ninv_exch zs i h2 h3
    omega
theorem dscL_ne {zs : List Int} (h : 0 < ninv zs) : dscL zs ≠ [] := by
  obtain ⟨i, h1, h2⟩ := exists_desc h
  intro e
  have := dscL_mem h1 h2
  rw [e] at this
  cases this
theorem sum_zero : ∀ (l : List Int) (f : Int → Nat), (∀ d ∈ l, f d = 0) → (l.map f).sum = 0
  | [], _, _ => rfl
  | x :: xs, f, h => by
    simp only [List.map_cons, List.sum_cons]
    rw [h x (by simp), sum_zero xs f (fun d hd => h d (by simp [hd]))]
theorem np_zero : ∀ (k : Nat) (zs : List Int), ninv zs < k → np k zs = 0
  | 0, _, h => by omega
  | k + 1, zs, h => by
    simp only [np]
    refine sum_zero _ _ fun d hd => ?_
    obtain ⟨i, rfl, h2, h3⟩ := mem_dscL hd
    have := ninv_exch zs i h2 h3
    exact np_zero k _ (by simp; omega)
theorem sum_mem_le : ∀ (l : List Int) (f : Int → Nat) (d : Int), d ∈ l → f d ≤ (l.map f).sum
  | [], _, _, h => by cases h
  | x :: xs, f, d, h => by
    simp only [List.map_cons, List.sum_cons]
    rcases List.mem_cons.1 h with rfl | h
    · omega
    · have := sum_mem_le xs f d h
      omega
theorem np_pos : ∀ (k : Nat) (zs : List Int), k ≤ ninv zs → 0 < np k zs
  | 0, _, _ => by simp [np]
  | k + 1, zs, h => by
    obtain ⟨i, h1, h2⟩ := exists_desc (zs := zs) (by omega)
    have h3 := ninv_exch zs i h1 h2
    have h4 := np_pos k (exch zs i) (by omega)
    have h5 := sum_mem_le (dscL zs) (fun d => np k (exch zs d.toNat)) i (dscL_mem h1 h2)
    simp only [np]
    simp only [Int.toNat_natCast] at h5
    omega
theorem sum_le : ∀ (l : List Int) (f : Int → Nat) (c : Nat), (∀ d ∈ l, f d ≤ c) → (l.map f).sum ≤ l.length * c
  | [], _, _, _ => by simp
  | x :: xs, f, c, h => by
    simp only [List.map_cons, List.sum_cons, List.length_cons]
    have h1 := h x (by simp)
    have h2 := sum_le xs f c (fun d hd => h d (by simp [hd]))
    rw [Nat.add_mul]
    omega
theorem np_le : ∀ (k : Nat) (zs : List Int) (m : Nat), zs.length ≤ m + 1 → np k zs ≤ m ^ k
  | 0, _, _, _ => by simp [np]
  | k + 1, zs, m, h => by
    simp only [np]
    have h1 := sum_le (dscL zs) (fun d => np k (exch zs d.toNat)) (m ^ k) (fun d _ => np_le k _ m (by rw [exch_length]; exact h))
    have h2 : (dscL zs).length ≤ m := by have := dscK_len zs (zs.length - 1); unfold dscL; omega
    rw [Nat.pow_succ, Nat.mul_comm]
    exact Nat.le_trans h1 (Nat.mul_le_mul_right _ h2)
theorem lessN_le (x : Int) (ys : List Int) : lessN x ys ≤ ys.length := List.countP_le_length
theorem ninv_le : ∀ (zs : List Int), 2 * ninv zs ≤ zs.length * (zs.length - 1)
  | [] => by simp [ninv]
  | x :: xs => by
    have h1 := ninv_le xs
    have h2 := lessN_le x xs
    simp only [ninv, List.length_cons, Nat.add_sub_cancel]
    rcases xs with _ | ⟨y, ys⟩
    · simp at *; omega
    · simp only [List.length_cons, Nat.add_sub_cancel] at *
      generalize ys.length = n at *
      have : (n + 1 + 1) * (n + 1) = (n + 1) * n + 2 * (n + 1) := by rw [Nat.add_mul, Nat.mul_comm (n+1) n]; simp [Nat.mul_add, Nat.add_mul]; omega
      omega
theorem ninv_six {zs : List Int} (h : zs.length ≤ 6) : ninv zs ≤ 15 := by
  have h1 := ninv_le zs
  have : zs.length * (zs.length - 1) ≤ 6 * 5 := Nat.mul_le_mul h (by omega)
  omega
/-- Numbers small enough for the machine's integers. -/
theorem np_small (k : Nat) {zs : List Int} (h : zs.length ≤ 6) : np k zs ≤ 30517578125 := by
  by_cases hk : k ≤ 15
  · have h1 := np_le k zs 5 (by omega)
    have h2 : 5 ^ k ≤ 5 ^ 15 := Nat.pow_le_pow_right (by omega) hk
    have h3 : (5 : Nat) ^ 15 = 30517578125 := by decide
    omega
  · have := ninv_six h
    rw [np_zero k zs (by omega)]
    omega
/-- How many least ladders there are. -/
def cnt (zs : List Int) : Nat := np (ninv zs) zs
theorem cnt_sorted {zs : List Int} (h : ninv zs = 0) : cnt zs = 1 := by unfold cnt; rw [h]; rfl
theorem sum_congr : ∀ (l : List Int) (f g : Int → Nat), (∀ d ∈ l, f d = g d) → (l.map f).sum = (l.map g).sum
  | [], _, _, _ => rfl
  | x :: xs, f, g, h => by
    simp only [List.map_cons, List.sum_cons]
    rw [h x (by simp), sum_congr xs f g (fun d hd => h d (by simp [hd]))]
theorem cnt_step {zs : List Int} (h : 0 < ninv zs) : cnt zs = ((dscL zs).map fun d => cnt (exch zs d.toNat)).sum := by
  unfold cnt
  obtain ⟨k, hk⟩ : ∃ k, ninv zs = k + 1 := ⟨ninv zs - 1, by omega⟩
  rw [hk]
  simp only [np]
  refine sum_congr _ _ _ fun d hd => ?_
  obtain ⟨i, rfl, h2, h3⟩ := mem_dscL hd
  have := ninv_exch zs i h2 h3
  simp only [Int.toNat_natCast]
  rw [show ninv (exch zs i) = k by omega]
/-- With how many lists of nought, one, .. rungs the least ladders begin. -/
def begs (zs : List Int) : List Int := (List.range (ninv zs + 1)).map fun (k : Nat) => (np k zs : Int)
theorem begs_len (zs : List Int) : (begs zs).length = ninv zs + 1 := by simp [begs]
end Go.Proofs.YtgeeifjbfceogaaGreatDoor
