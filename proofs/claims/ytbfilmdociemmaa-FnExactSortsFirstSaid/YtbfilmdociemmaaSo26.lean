/- Noughts and ones, sorted: the mathematics that SortsFirst asks. -/
import Derived.Test.YtbfilmdociemmaaSo25
import Derived.Test.YtbfilmdociemmaaMathO
namespace Go.Proofs.Ytbfilmdociemmaa
open Go Go.RowKit

theorem onK_ps (v : List Int) : ∀ j, onK v j = ps v j
  | 0 => rfl
  | j + 1 => by simp only [onK, ps]; rw [onK_ps v j]
/-- the sum of a list -/
def totL : List Int → Int
  | [] => 0
  | x :: v => x + totL v
theorem totL_perm {u v : List Int} (h : List.Perm u v) : totL u = totL v := by
  induction h with
  | nil => rfl
  | cons x _ ih => simp only [totL]; omega
  | swap x y l => simp only [totL]; omega
  | trans _ _ h1 h2 => omega
theorem ps_cons (x : Int) (v : List Int) : ∀ j, ps (x :: v) (j + 1) = x + ps v j
  | 0 => by show ps (x :: v) 0 + gi (x :: v) 0 = x + ps v 0; simp only [ps]; show (0 : Int) + x = x + 0; omega
  | j + 1 => by
    show ps (x :: v) (j + 1) + gi (x :: v) (j + 1) = x + (ps v j + gi v j)
    rw [ps_cons x v j]
    have e : gi (x :: v) (j + 1) = gi v j := rfl
    omega
theorem ps_tot : ∀ v : List Int, ps v v.length = totL v
  | [] => rfl
  | x :: v => by rw [List.length_cons, ps_cons, ps_tot v]; rfl
theorem srt_bits {v : List Int} (h : isBits v) : isBits (srt v) := by
  intro j hj
  have hm : gi (srt v) j ∈ v := (srt_perm v).mem_iff.1 (by rw [gi_lt hj]; exact List.getElem_mem hj)
  obtain ⟨i, hi, e⟩ := mem_gi.1 hm
  rw [← e]
  exact h i hi
theorem srt_srtB (v : List Int) : srtB (srt v) = true := by
  rw [srtB_iff]
  intro i hi
  have h := List.pairwise_iff_getElem.1 (srt_le v) i (i + 1) (by omega) hi (by omega)
  rw [gi_lt (by omega), gi_lt hi]
  simpa using h
theorem srt_gi {v : List Int} (h : isBits v) {i : Nat} (hi : i < v.length) : decide (gi (srt v) i = 1) = decide ((v.length : Int) - onK v v.length ≤ (i : Int)) := by
  have hl := srt_length v
  have h1 := ps_sorted (srt_bits h) (srt_srtB v) i (by omega)
  have h2 := ps_sorted (srt_bits h) (srt_srtB v) (i + 1) (by omega)
  have h3 := srt_bits h i (by omega)
  have h4 : ps (srt v) (srt v).length = ps v v.length := by rw [ps_tot, ps_tot, totL_perm (srt_perm v)]
  have h5 : ps (srt v) (i + 1) = ps (srt v) i + gi (srt v) i := rfl
  rw [onK_ps, decide_eq_decide]
  rw [h4, hl] at h1 h2
  omega
theorem gi_takeK {v : List Int} {k i : Nat} (h : i < k) : gi (v.take k) i = gi v i := by
  simp [gi, List.getD, h]
/-- the first k numbers come out as the sorted ones: so asks the model, one number after the other -/
theorem sf_test {N : Nat} {zs : List Int} {k : Nat} {v : List Int} (hv : isBits v) (hl : v.length = N) (hk : k ≤ N) (hz : rungsIn zs N) : decide ((runS zs v).take k = (srt v).take k) = firB N zs k v := by
  subst hl
  have hr : isBits (runS zs v) := by rw [← runK_all]; exact isBits_runK hz hv _ (Nat.le_refl _)
  have hrl := runS_length zs v
  have hsl := srt_length v
  by_cases h : ∀ i, i < k → gi (runS zs v) i = gi (srt v) i
  · rw [decide_eq_true (gi_ext (by simp; omega) (fun j hj => by
      have hjk : j < k := by simp at hj; omega
      rw [gi_takeK hjk, gi_takeK hjk]; exact h j hjk))]
    exact (firB_yes (fun i hi => by rw [h i hi]; exact srt_gi hv (by omega))).symm
  · obtain ⟨i, hi, hne⟩ : ∃ i, i < k ∧ gi (runS zs v) i ≠ gi (srt v) i := by
      apply Classical.byContradiction
      intro hno
      exact h (fun i hi => Classical.byContradiction fun e => hno ⟨i, hi, e⟩)
    rw [decide_eq_false (fun e => hne (by rw [← gi_takeK (v := runS zs v) hi, e, gi_takeK hi]))]
    refine (firB_no hi (fun e => hne ?_)).symm
    rw [← srt_gi hv (by omega), decide_eq_decide] at e
    have h1 := hr i (by omega)
    have h2 := srt_bits hv i (by omega)
    omega
end Go.Proofs.Ytbfilmdociemmaa
