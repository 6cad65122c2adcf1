/- Lists of numbers in their order; what slides make of a list; a strictly rising list is told by its members. -/
import Derived.Test.YthalcjgpjagcoaaMgA
namespace Go.Proofs.Ythalcjgpjagcoaa
open Go Go.RowKit

/-- a list comes before another -/
def lexl : List Int → List Int → Bool
  | [], [] => false
  | [], _ :: _ => true
  | _ :: _, [] => false
  | a :: atl, b :: bs => if a = b then lexl atl bs else decide (a < b)
theorem lexl_irrefl : ∀ (a : List Int), lexl a a = false
  | [] => rfl
  | a :: atl => by simp only [lexl, if_true]; exact lexl_irrefl atl
theorem lexl_trans : ∀ (a b c : List Int), lexl a b = true → lexl b c = true → lexl a c = true
  | [], [], _, h, _ => by simp [lexl] at h
  | [], _ :: _, [], _, h => by simp [lexl] at h
  | [], _ :: _, _ :: _, _, _ => rfl
  | _ :: _, [], _, h, _ => by simp [lexl] at h
  | _ :: _, _ :: _, [], _, h => by simp [lexl] at h
  | a :: atl, b :: bs, c :: cs, h, g => by
    simp only [lexl] at h g ⊢
    by_cases e1 : a = b
    · subst e1
      rw [if_pos rfl] at h
      by_cases e2 : a = c
      · subst e2
        rw [if_pos rfl] at g ⊢
        exact lexl_trans atl bs cs h g
      · rw [if_neg e2] at g ⊢; exact g
    · rw [if_neg e1, decide_eq_true_eq] at h
      by_cases e2 : b = c
      · subst e2
        rw [if_neg e1, decide_eq_true_eq]; exact h
      · rw [if_neg e2, decide_eq_true_eq] at g
        rw [if_neg (by omega), decide_eq_true_eq]; omega
theorem lexl_tri : ∀ (a b : List Int), lexl a b = false → lexl b a = false → a = b
  | [], [], _, _ => rfl
  | [], _ :: _, h, _ => by simp [lexl] at h
  | _ :: _, [], _, h => by simp [lexl] at h
  | a :: atl, b :: bs, h, g => by
    simp only [lexl] at h g
    by_cases e : a = b
    · subst e
      rw [if_pos rfl] at h g
      rw [lexl_tri atl bs h g]
    · rw [if_neg e, decide_eq_false_iff_not] at h
      rw [if_neg (Ne.symm e), decide_eq_false_iff_not] at g
      omega
theorem lexl_asymm {a b : List Int} (h : lexl a b = true) : lexl b a = false := by
  cases hq : lexl b a with
  | false => rfl
  | true => have := lexl_trans a b a h hq; rw [lexl_irrefl] at this; cases this

/-- strictly rising -/
def Rising (xs : List (List Int)) : Prop := xs.Pairwise fun a b => lexl a b = true
theorem rising_unique : ∀ (xs ys : List (List Int)), Rising xs → Rising ys → (∀ z, z ∈ xs ↔ z ∈ ys) → xs = ys
  | [], [], _, _, _ => rfl
  | [], y :: ys, _, _, h => by have := (h y).2 (by simp); simp at this
  | x :: xs, [], _, _, h => by have := (h x).1 (by simp); simp at this
  | x :: xs, y :: ys, hx, hy, h => by
    obtain ⟨hx1, hx2⟩ := List.pairwise_cons.1 hx
    obtain ⟨hy1, hy2⟩ := List.pairwise_cons.1 hy
    have e : x = y := by
      rcases List.mem_cons.1 ((h x).1 (by simp)) with e | e
      · exact e
      · rcases List.mem_cons.1 ((h y).2 (by simp)) with e2 | e2
        · exact e2.symm
        · have a1 := hx1 y e2
          have a2 := hy1 x e
          rw [lexl_asymm a1] at a2; cases a2
    subst e
    congr 1
    refine rising_unique xs ys hx2 hy2 fun z => ⟨fun hz => ?_, fun hz => ?_⟩
    · rcases List.mem_cons.1 ((h z).1 (List.mem_cons_of_mem _ hz)) with e | e
      · subst e; have := hx1 z hz; rw [lexl_irrefl] at this; cases this
      · exact e
    · rcases List.mem_cons.1 ((h z).2 (List.mem_cons_of_mem _ hz)) with e | e
      · subst e; have := hy1 z hz; rw [lexl_irrefl] at this; cases this
      · exact e

/-- sliding at k -/
def slid (zs : List Int) (k : Nat) : List Int := (zs.set k (gi zs (k + 1))).set (k + 1) (gi zs k)
def maySlide (zs : List Int) (k : Nat) : Prop := k + 1 < zs.length ∧ (2 ≤ gi zs k - gi zs (k + 1) ∨ 2 ≤ gi zs (k + 1) - gi zs k)
instance (zs : List Int) (k : Nat) : Decidable (maySlide zs k) := by unfold maySlide; infer_instance
/-- what slides make of a list -/
inductive Reach (zs : List Int) : List Int → Prop
  | here : Reach zs zs
  | step {ys : List Int} {k : Nat} (h : Reach zs ys) (hk : maySlide ys k) : Reach zs (slid ys k)
theorem slid_length (zs : List Int) (k : Nat) : (slid zs k).length = zs.length := by simp [slid]
theorem gi_slid {zs : List Int} {i : Nat} (h : i + 1 < zs.length) (j : Nat) : gi (slid zs i) j = if j = i then gi zs (i + 1) else if j = i + 1 then gi zs i else gi zs j := by
  unfold slid
  rw [gi_set _ _ _ _ (by simp; omega), gi_set _ _ _ _ (by omega)]
  by_cases h1 : j = i
  · subst h1; simp
  · by_cases h2 : j = i + 1
    · subst h2; simp
    · simp [h1, h2]
theorem Reach.length {zs ys : List Int} (h : Reach zs ys) : ys.length = zs.length := by
  induction h with
  | here => rfl
  | step _ _ ih => rw [slid_length]; exact ih
theorem slid_slid {zs : List Int} {k : Nat} (h : k + 1 < zs.length) : slid (slid zs k) k = zs := by
  refine gi_ext (by rw [slid_length, slid_length]) fun j _ => ?_
  rw [gi_slid (by rw [slid_length]; exact h), gi_slid h, gi_slid h, gi_slid h]
  by_cases h1 : j = k
  · subst h1; simp
  · by_cases h2 : j = k + 1
    · subst h2; simp
    · simp [h1, h2]
theorem maySlide_back {zs : List Int} {k : Nat} (h : maySlide zs k) : maySlide (slid zs k) k := by
  refine ⟨by rw [slid_length]; exact h.1, ?_⟩
  rw [gi_slid h.1, gi_slid h.1, if_pos rfl, if_neg (by omega), if_pos rfl]
  exact h.2.symm
theorem Reach.trans {zs ys xs : List Int} (h : Reach zs ys) (g : Reach ys xs) : Reach zs xs := by
  induction g with
  | here => exact h
  | step _ hk ih => exact ih.step hk
theorem Reach.symm {zs ys : List Int} (h : Reach zs ys) : Reach ys zs := by
  induction h with
  | here => exact .here
  | step _ hk ih =>
    rename_i x k _
    have h1 : Reach (slid x k) x := by
      have := Reach.step (Reach.here (zs := slid x k)) (maySlide_back hk)
      rwa [slid_slid hk.1] at this
    exact h1.trans ih
/-- a list of lists that holds the start, holds only what slides make, and is closed under sliding, holds just what slides make -/
theorem reach_iff {zs : List Int} {S : List (List Int)} (h0 : zs ∈ S) (h1 : ∀ x, x ∈ S → Reach zs x) (h2 : ∀ x k, x ∈ S → maySlide x k → slid x k ∈ S) (x : List Int) : x ∈ S ↔ Reach zs x := by
  refine ⟨h1 x, fun h => ?_⟩
  induction h with
  | here => exact h0
  | step _ hk ih => exact h2 _ _ ih hk
end Go.Proofs.Ythalcjgpjagcoaa
