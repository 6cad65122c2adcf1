/- Where a ladder falls into parts: the mathematics. -/
import Derived.Test.YtmlkccihpkpjfaaMr5
import Derived.Test.YtmlkccihpkpjfaaMgF
namespace Go.Proofs.Ytmlkccihpkpjfaa
open Go Go.RowKit

/-- the rungs from a on and below b, among the first k -/
def ptR (zs : List Int) (a b : Int) : Nat → List Int
  | 0 => []
  | k + 1 => if a ≤ gi zs k ∧ gi zs k < b then ptR zs a b k ++ [gi zs k] else ptR zs a b k
theorem ptR_yes {zs : List Int} {a b : Int} {k : Nat} (h1 : a ≤ gi zs k) (h2 : gi zs k < b) : ptR zs a b (k + 1) = ptR zs a b k ++ [gi zs k] := by simp only [ptR]; rw [if_pos ⟨h1, h2⟩]
theorem ptR_no {zs : List Int} {a b : Int} {k : Nat} (h : ¬ (a ≤ gi zs k ∧ gi zs k < b)) : ptR zs a b (k + 1) = ptR zs a b k := by simp only [ptR]; rw [if_neg h]
theorem ptR_len (zs : List Int) (a b : Int) (k : Nat) : (ptR zs a b k).length ≤ k := by
  induction k with
  | zero => simp [ptR]
  | succ k ih => simp only [ptR]; split <;> (try simp) <;> omega
theorem ptR_mem (zs : List Int) (a b : Int) (k : Nat) : ∀ r ∈ ptR zs a b k, a ≤ r ∧ r < b := by
  induction k with
  | zero => simp [ptR]
  | succ k ih =>
    intro r hr
    simp only [ptR] at hr
    split at hr
    · rename_i hc
      rw [List.mem_append] at hr
      rcases hr with hr | hr
      · exact ih r hr
      · rw [List.mem_singleton] at hr; rw [hr]; exact hc
    · exact ih r hr
theorem ptR_cut {zs : List Int} {a b : Int} (k : Nat) (h : ∀ j, j < k → gi zs j ≠ b) : ptR zs a (b + 1) k = ptR zs a b k := by
  induction k with
  | zero => rfl
  | succ k ih =>
    have := h k (by omega)
    simp only [ptR]
    rw [ih (fun j hj => h j (by omega))]
    by_cases c : a ≤ gi zs k ∧ gi zs k < b
    · rw [if_pos c, if_pos (by omega)]
    · rw [if_neg c, if_neg (by omega)]
/-- .. moved to the left -/
def ptS (zs : List Int) (a b : Int) (k : Nat) : List Int := shL (ptR zs a b k) (-a)
theorem ptS_yes {zs : List Int} {a b : Int} {k : Nat} (h1 : a ≤ gi zs k) (h2 : gi zs k < b) : ptS zs a b (k + 1) = ptS zs a b k ++ [gi zs k - a] := by
  unfold ptS; rw [ptR_yes h1 h2]; simp [shL, Int.sub_eq_add_neg]
theorem ptS_no {zs : List Int} {a b : Int} {k : Nat} (h : ¬ (a ≤ gi zs k ∧ gi zs k < b)) : ptS zs a b (k + 1) = ptS zs a b k := by unfold ptS; rw [ptR_no h]
theorem ptS_len (zs : List Int) (a b : Int) (k : Nat) : (ptS zs a b k).length ≤ k := by unfold ptS; rw [shL_len]; exact ptR_len _ _ _ _
theorem ptR_gi (zs : List Int) (a b : Int) (k j : Nat) (h : j < (ptR zs a b k).length) : a ≤ gi (ptR zs a b k) j ∧ gi (ptR zs a b k) j < b := by
  rw [gi_lt h]; exact ptR_mem _ _ _ _ _ (List.getElem_mem h)

/-- whether it ends at wire p + 1 -/
def cutB (zs : List Int) (N p : Nat) : Bool := decide (N ≤ p + 1) || !hasM zs (p : Int)
def spF (zs : List Int) (N : Nat) : Nat → Nat
  | 0 => 0
  | p + 1 => if cutB zs N p = true then p + 1 else spF zs N p
def spW (zs : List Int) (N : Nat) : Nat → List Int
  | 0 => []
  | p + 1 => if cutB zs N p = true ∧ spF zs N p < p then spW zs N p ++ [(p : Int) + 1 - (spF zs N p : Int)] else spW zs N p
def spZ (zs : List Int) (N : Nat) : Nat → List (List Int)
  | 0 => []
  | p + 1 => if cutB zs N p = true ∧ spF zs N p < p then spZ zs N p ++ [ptS zs (spF zs N p : Int) (p : Int) zs.length] else spZ zs N p
theorem spF_le (zs : List Int) (N p : Nat) : spF zs N p ≤ p := by
  induction p with
  | zero => simp [spF]
  | succ p ih => simp only [spF]; split <;> omega
theorem spF_yes {zs : List Int} {N p : Nat} (h : cutB zs N p = true) : spF zs N (p + 1) = p + 1 := by simp only [spF]; rw [if_pos h]
theorem spF_no {zs : List Int} {N p : Nat} (h : cutB zs N p = false) : spF zs N (p + 1) = spF zs N p := by simp only [spF]; rw [if_neg (by rw [h]; decide)]
theorem spW_yes {zs : List Int} {N p : Nat} (h : cutB zs N p = true) (h2 : spF zs N p < p) : spW zs N (p + 1) = spW zs N p ++ [(p : Int) + 1 - (spF zs N p : Int)] := by simp only [spW]; rw [if_pos ⟨h, h2⟩]
theorem spZ_yes {zs : List Int} {N p : Nat} (h : cutB zs N p = true) (h2 : spF zs N p < p) : spZ zs N (p + 1) = spZ zs N p ++ [ptS zs (spF zs N p : Int) (p : Int) zs.length] := by simp only [spZ]; rw [if_pos ⟨h, h2⟩]
theorem spW_no {zs : List Int} {N p : Nat} (h : ¬ (cutB zs N p = true ∧ spF zs N p < p)) : spW zs N (p + 1) = spW zs N p := by simp only [spW]; rw [if_neg h]
theorem spZ_no {zs : List Int} {N p : Nat} (h : ¬ (cutB zs N p = true ∧ spF zs N p < p)) : spZ zs N (p + 1) = spZ zs N p := by simp only [spZ]; rw [if_neg h]
theorem spL_eq (zs : List Int) (N p : Nat) : (spW zs N p).length = (spZ zs N p).length := by
  induction p with
  | zero => rfl
  | succ p ih => simp only [spW, spZ]; split <;> simp [ih]
theorem spZ_len (zs : List Int) (N p : Nat) : (spZ zs N p).length ≤ p := by
  induction p with
  | zero => simp [spZ]
  | succ p ih => simp only [spZ]; split <;> (try simp) <;> omega
theorem spZ_mem (zs : List Int) (N p : Nat) : ∀ q ∈ spZ zs N p, q.length ≤ zs.length := by
  induction p with
  | zero => simp [spZ]
  | succ p ih =>
    intro q hq
    simp only [spZ] at hq
    split at hq
    · rw [List.mem_append] at hq
      rcases hq with hq | hq
      · exact ih q hq
      · rw [List.mem_singleton] at hq; rw [hq]; exact ptS_len _ _ _ _
    · exact ih q hq
/-- no rung goes over the end of a part -/
theorem cut_ne {W : Int} {zs : List Int} (h : lad W zs = true) {p : Nat} (hc : cutB zs W.toNat p = true) : ∀ j, j < zs.length → gi zs j ≠ (p : Int) := by
  intro j hj e
  have hW := (lad_iff.1 h).1
  have hz := lad_at h hj
  unfold cutB at hc
  rw [Bool.or_eq_true] at hc
  rcases hc with hc | hc
  · rw [decide_eq_true_eq] at hc; omega
  · rw [conYes hj e] at hc; exact absurd hc (by decide)
theorem lad_part {W : Int} {zs : List Int} (h : lad W zs = true) {f p : Nat} (hp : (p : Int) < W) : lad ((p : Int) + 1 - (f : Int)) (ptS zs (f : Int) (p : Int) zs.length) = decide (f < p) := by
  have hW := (lad_iff.1 h).1
  by_cases hf : f < p
  · rw [decide_eq_true hf, lad_iff]
    have hl := ptS_len zs (f : Int) (p : Int) zs.length
    have h60 := (lad_iff.1 h).2.1
    refine ⟨by omega, by omega, allIn_true ?_⟩
    intro j hj
    have hj2 : j < (ptR zs (f : Int) (p : Int) zs.length).length := by unfold ptS at hj; rw [shL_len] at hj; exact hj
    have := ptR_gi zs (f : Int) (p : Int) zs.length j hj2
    unfold ptS
    rw [gi_shL _ _ _ hj2]
    exact inB_true (by omega)
  · rw [decide_eq_false hf, ← Bool.not_eq_true]
    intro e
    have := (lad_iff.1 e).1
    omega
/-- what it answers -/
def slW (W : Int) (zs : List Int) : List Int := if lad W zs = true then spW zs W.toNat W.toNat else []
def slZ (W : Int) (zs : List Int) : List (List Int) := if lad W zs = true then spZ zs W.toNat W.toNat else []
theorem slW_yes {W : Int} {zs : List Int} (h : lad W zs = true) : slW W zs = spW zs W.toNat W.toNat := by unfold slW; rw [if_pos h]
theorem slZ_yes {W : Int} {zs : List Int} (h : lad W zs = true) : slZ W zs = spZ zs W.toNat W.toNat := by unfold slZ; rw [if_pos h]
theorem slW_no {W : Int} {zs : List Int} (h : lad W zs = false) : slW W zs = [] := by unfold slW; rw [h]; rfl
theorem slZ_no {W : Int} {zs : List Int} (h : lad W zs = false) : slZ W zs = [] := by unfold slZ; rw [h]; rfl
theorem slZ_le (W : Int) (zs : List Int) : (slZ W zs).length ≤ 8 ∧ ∀ j, (gz (slZ W zs) j).length ≤ 60 := by
  unfold slZ
  split
  · rename_i h
    have h1 := (lad_iff.1 h).1
    have h2 := (lad_iff.1 h).2.1
    have := spZ_len zs W.toNat W.toNat
    refine ⟨by omega, fun j => ?_⟩
    by_cases hj : j < (spZ zs W.toNat W.toNat).length
    · have e : gz (spZ zs W.toNat W.toNat) j = (spZ zs W.toNat W.toNat)[j] := by simp [gz, List.getD, hj]
      rw [e]
      exact Nat.le_trans (spZ_mem zs _ _ _ (List.getElem_mem hj)) h2
    · have : gz (spZ zs W.toNat W.toNat) j = [] := by
        unfold gz
        rw [List.getD_eq_getElem?_getD, List.getElem?_eq_none (by omega)]; rfl
      rw [this]; simp
  · exact ⟨by simp, fun j => by simp [gz]⟩
theorem tot_le60 (zss : List (List Int)) (h : ∀ j, (gz zss j).length ≤ 60) : ∀ k, tot zss k ≤ 60 * k
  | 0 => by simp [tot]
  | k + 1 => by have := tot_le60 zss h k; have := h k; simp only [tot]; omega
theorem slZ_len (W : Int) (zs : List Int) : (slZ W zs).length ≤ 1048576 := Nat.le_trans (slZ_le W zs).1 (by decide)
theorem slZ_row (W : Int) (zs : List Int) : ∀ j, (gz (slZ W zs) j).length ≤ 1048576 := fun j => Nat.le_trans ((slZ_le W zs).2 j) (by decide)
theorem slZ_tot (W : Int) (zs : List Int) : tot (slZ W zs) (slZ W zs).length ≤ 100000000 := by
  have h1 := slZ_le W zs
  have := tot_le60 _ h1.2 (slZ W zs).length
  omega
end Go.Proofs.Ytmlkccihpkpjfaa
