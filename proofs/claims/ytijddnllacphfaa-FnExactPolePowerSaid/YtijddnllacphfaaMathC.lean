/- Cycles of an order. Nothing of the program is said here. -/
import Derived.Test.YtijddnllacphfaaMgG
import Derived.Test.YtijddnllacphfaaMgF
namespace Go.Proofs.Ytijddnllacphfaa
open Go

/-- where one is after i steps -/
def pos (zs : List Int) (a : Nat) : Nat → Nat
  | 0 => a
  | i + 1 => (gi zs (pos zs a i)).toNat
/-- what is marked after i steps -/
def upds (s : Nat → Bool) (zs : List Int) (a : Nat) : Nat → Nat → Bool
  | 0, j => s j
  | i + 1, j => if j = pos zs a i then true else upds s zs a i j
/-- the first i numbers that one goes over -/
def cyc (zs : List Int) (a i : Nat) : List Int := (List.range i).map fun (t : Nat) => (pos zs a t : Int)
theorem cyc_length (zs : List Int) (a i : Nat) : (cyc zs a i).length = i := by simp [cyc]
theorem cyc_succ (zs : List Int) (a i : Nat) : cyc zs a (i + 1) = cyc zs a i ++ [(pos zs a i : Int)] := by simp [cyc, List.range_succ]
/-- one stops at the first number that is marked -/
def Stop (s : Nat → Bool) (zs : List Int) (a L : Nat) : Prop := upds s zs a L (pos zs a L) = true ∧ ∀ i, i < L → upds s zs a i (pos zs a i) = false
theorem Stop.unique {s : Nat → Bool} {zs : List Int} {a L M : Nat} (h : Stop s zs a L) (g : Stop s zs a M) : L = M := by
  rcases Nat.lt_trichotomy L M with h1 | h1 | h1
  · have := g.2 L h1; rw [h.1] at this; cases this
  · exact h1
  · have := h.2 M h1; rw [g.1] at this; cases this

/-- how many of the first n are not marked -/
def cnt (s : Nat → Bool) : Nat → Nat
  | 0 => 0
  | n + 1 => cnt s n + if s n = true then 0 else 1
theorem cnt_le (s : Nat → Bool) (n : Nat) : cnt s n ≤ n := by
  induction n with
  | zero => simp [cnt]
  | succ n ih => simp only [cnt]; split <;> omega
theorem cnt_congr {s t : Nat → Bool} {n : Nat} (h : ∀ j, j < n → s j = t j) : cnt s n = cnt t n := by
  induction n with
  | zero => rfl
  | succ n ih => simp only [cnt]; rw [ih (fun j hj => h j (by omega)), h n (by omega)]
theorem cnt_upd {s : Nat → Bool} {n a : Nat} (ha : a < n) (hs : s a = false) : cnt (fun j => if j = a then true else s j) n + 1 = cnt s n := by
  induction n with
  | zero => omega
  | succ n ih =>
    simp only [cnt]
    by_cases e : a = n
    · subst e
      rw [cnt_congr (t := s) (fun j hj => by rw [if_neg (by omega)])]
      simp [hs]
    · have := ih (by omega)
      have e2 : (if n = a then true else s n) = s n := if_neg (fun h => e h.symm)
      simp only [e2]
      omega
theorem cnt_zero {s : Nat → Bool} {n : Nat} (h : ∀ j, j < n → s j = true) : cnt s n = 0 := by
  induction n with
  | zero => rfl
  | succ n ih => simp only [cnt]; rw [ih (fun j hj => h j (by omega)), if_pos (h n (by omega))]

/-- all numbers lie below the length -/
def Inn (zs : List Int) : Prop := ∀ j, j < zs.length → 0 ≤ gi zs j ∧ gi zs j < zs.length
theorem pos_lt {zs : List Int} (h : Inn zs) {a : Nat} (ha : a < zs.length) (i : Nat) : pos zs a i < zs.length := by
  induction i with
  | zero => exact ha
  | succ i ih => simp only [pos]; have := h _ ih; omega
theorem cnt_upds {s : Nat → Bool} {zs : List Int} (h : Inn zs) {a : Nat} (ha : a < zs.length) (i : Nat) (hf : ∀ t, t < i → upds s zs a t (pos zs a t) = false) : cnt (upds s zs a i) zs.length + i = cnt s zs.length := by
  induction i with
  | zero => rfl
  | succ i ih =>
    have h1 := ih (fun t ht => hf t (by omega))
    have h2 := cnt_upd (s := upds s zs a i) (pos_lt h ha i) (hf i (by omega))
    have h3 : cnt (upds s zs a (i + 1)) zs.length = cnt (fun j => if j = pos zs a i then true else upds s zs a i j) zs.length := rfl
    omega

/-- when one stops -/
def clen (s : Nat → Bool) (zs : List Int) (a : Nat) : Nat := ((List.range 20).find? fun i => upds s zs a i (pos zs a i)).getD 0
theorem clen_stop {s : Nat → Bool} {zs : List Int} (h : Inn zs) (h8 : zs.length ≤ 8) {a : Nat} (ha : a < zs.length) : Stop s zs a (clen s zs a) ∧ clen s zs a ≤ 8 := by
  have hc := cnt_le s zs.length
  cases hf : (List.range 20).find? fun i => upds s zs a i (pos zs a i) with
  | none =>
    exfalso
    rw [List.find?_eq_none] at hf
    have := cnt_upds (s := s) h ha 20 (fun t ht => by have := hf t (by simp; omega); simpa using this)
    omega
  | some L =>
    have e : clen s zs a = L := by unfold clen; rw [hf]; rfl
    rw [List.find?_range_eq_some] at hf
    obtain ⟨h1, h2, h3⟩ := hf
    have hfi : ∀ i, i < L → upds s zs a i (pos zs a i) = false := fun i hi => by have := h3 i hi; simpa using this
    rw [e]
    refine ⟨⟨h1, hfi⟩, ?_⟩
    have := cnt_upds (s := s) h ha L hfi
    omega

/-- what is marked when the first k numbers have been begun with -/
def seenK (zs : List Int) : Nat → Nat → Bool
  | 0 => fun _ => false
  | k + 1 => upds (seenK zs k) zs k (clen (seenK zs k) zs k)
def cycK (zs : List Int) : Nat → List (List Int)
  | 0 => []
  | k + 1 => if clen (seenK zs k) zs k = 0 then cycK zs k else cycK zs k ++ [cyc zs k (clen (seenK zs k) zs k)]
def cycles (zs : List Int) : List (List Int) := cycK zs zs.length

theorem upds_mono {s : Nat → Bool} {zs : List Int} {a : Nat} (i : Nat) {j : Nat} (h : s j = true) : upds s zs a i j = true := by
  induction i with
  | zero => exact h
  | succ i ih => simp only [upds]; split
                 · rfl
                 · exact ih
theorem upds_head {s : Nat → Bool} {zs : List Int} {a : Nat} {i : Nat} (hi : 0 < i) : upds s zs a i a = true := by
  induction i with
  | zero => omega
  | succ i ih =>
    simp only [upds]
    split
    · rfl
    · rename_i h
      rcases Nat.eq_zero_or_pos i with h0 | h0
      · subst h0; exact absurd rfl h
      · exact ih h0
theorem seen_all {zs : List Int} (h : Inn zs) (h8 : zs.length ≤ 8) : ∀ k, k ≤ zs.length → ∀ j, j < k → seenK zs k j = true := by
  intro k
  induction k with
  | zero => intro _ j hj; omega
  | succ k ih =>
    intro hk j hj
    simp only [seenK]
    by_cases e : j = k
    · subst e
      rcases Nat.eq_zero_or_pos (clen (seenK zs j) zs j) with h0 | h0
      · have := (clen_stop (s := seenK zs j) h h8 (show j < zs.length by omega)).1.1
        rw [h0] at this ⊢
        exact this
      · exact upds_head h0
    · exact upds_mono _ (ih (by omega) j (by omega))

/-- how long all the parts are -/
def sumL : List (List Int) → Nat
  | [] => 0
  | z :: r => z.length + sumL r
theorem sumL_append (xs ys : List (List Int)) : sumL (xs ++ ys) = sumL xs + sumL ys := by
  induction xs with
  | nil => simp [sumL]
  | cons x xs ih => simp only [List.cons_append, sumL, ih]; omega
theorem sumL_take {zss : List (List Int)} {j : Nat} (h : j < zss.length) : sumL (zss.take (j + 1)) = sumL (zss.take j) + (gz zss j).length := by
  rw [List.take_succ_eq_append_getElem h, sumL_append]
  simp [sumL, gz, List.getD, h]
theorem tot_take {zss : List (List Int)} : ∀ j, j ≤ zss.length → tot zss j = sumL (zss.take j) := by
  intro j
  induction j with
  | zero => intro _; simp [tot, sumL]
  | succ j ih => intro hj; rw [sumL_take (by omega)]; simp only [tot]; rw [ih (by omega)]
theorem tot_all (zss : List (List Int)) : tot zss zss.length = sumL zss := by rw [tot_take _ (Nat.le_refl _), List.take_length]
theorem cycK_sum {zs : List Int} (h : Inn zs) (h8 : zs.length ≤ 8) : ∀ k, k ≤ zs.length → sumL (cycK zs k) + cnt (seenK zs k) zs.length = zs.length ∧ (cycK zs k).length ≤ k := by
  intro k
  induction k with
  | zero =>
    intro _
    refine ⟨?_, Nat.le_refl _⟩
    have : ∀ n, cnt (fun _ => false) n = n := by
      intro n
      induction n with
      | zero => rfl
      | succ n ih => simp only [cnt]; rw [ih]; simp
    simp [cycK, sumL, seenK, this]
  | succ k ih =>
    intro hk
    obtain ⟨h1, h2⟩ := ih (by omega)
    obtain ⟨hst, _⟩ := clen_stop (s := seenK zs k) h h8 (show k < zs.length by omega)
    have h3 := cnt_upds (s := seenK zs k) h (show k < zs.length by omega) _ hst.2
    simp only [cycK, seenK]
    split
    · rename_i h0
      rw [h0] at h3 ⊢
      simp only [upds] at h3 ⊢
      exact ⟨h1, by omega⟩
    · rw [sumL_append]
      simp only [sumL, cyc_length, List.length_append, List.length_cons, List.length_nil]
      omega
theorem cycles_sum {zs : List Int} (h : Inn zs) (h8 : zs.length ≤ 8) : sumL (cycles zs) = zs.length ∧ (cycles zs).length ≤ zs.length := by
  obtain ⟨h1, h2⟩ := cycK_sum h h8 _ (Nat.le_refl zs.length)
  rw [cnt_zero (seen_all h h8 _ (Nat.le_refl _))] at h1
  exact ⟨h1, h2⟩
theorem gz_le_sum (zss : List (List Int)) (j : Nat) : (gz zss j).length ≤ sumL zss := by
  induction zss generalizing j with
  | nil => simp [gz]
  | cons z r ih =>
    cases j with
    | zero => simp [gz, sumL]
    | succ j => have := ih j; simp only [sumL]; have e : gz (z :: r) (j + 1) = gz r j := by simp [gz]
                rw [e]; omega

/-- a sign that turns at each part of even length -/
def sg (zss : List (List Int)) : Nat → Int
  | 0 => 1
  | j + 1 => if ((gz zss j).length : Int) % 2 = 0 then - sg zss j else sg zss j
theorem sg_par (zss : List (List Int)) (j : Nat) : sg zss j = if ((tot zss j : Int) - (j : Int)) % 2 = 0 then 1 else -1 := by
  induction j with
  | zero => rfl
  | succ j ih =>
    have ht : (tot zss (j + 1) : Int) = (tot zss j : Int) + ((gz zss j).length : Int) := by simp [tot]
    have hj : ((j + 1 : Nat) : Int) = (j : Int) + 1 := by omega
    rw [ht, hj]
    simp only [sg]
    rw [ih]
    by_cases h1 : ((gz zss j).length : Int) % 2 = 0 <;> by_cases h2 : ((tot zss j : Int) - (j : Int)) % 2 = 0
    · rw [if_pos h1, if_pos h2, if_neg (by omega)]
    · rw [if_pos h1, if_neg h2, if_pos (by omega)]; rfl
    · rw [if_neg h1, if_pos h2, if_pos (by omega)]
    · rw [if_neg h1, if_neg h2, if_neg (by omega)]
end Go.Proofs.Ytijddnllacphfaa
