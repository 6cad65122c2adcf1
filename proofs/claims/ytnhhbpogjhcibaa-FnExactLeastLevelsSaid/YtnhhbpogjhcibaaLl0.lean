/- LeastLevels: the levels, as a list. -/
import Derived.Test.YtnhhbpogjhcibaaLc2
import Derived.Test.YtnhhbpogjhcibaaLd6
namespace Go.Proofs.Ytnhhbpogjhcibaa
open Go Go.RowKit

/-- of so few levels the first ones -/
noncomputable def llL (n : Nat) : Nat → List Int → List (List Int)
  | 0, _ => []
  | m + 1, p => gz (LV n) (fstI n p) :: llL n m (top p (gz (LV n) (fstI n p)))
theorem llL_len (n : Nat) : ∀ m p, (llL n m p).length = m
  | 0, _ => rfl
  | m + 1, p => by simp only [llL, List.length_cons, llL_len n m]
theorem llL_row {n : Nat} (h2 : 2 ≤ n) (h6 : n ≤ 6) : ∀ m p, OKp n p → dep n p = m → ∀ l ∈ llL n m p, l ∈ LV n
  | 0, _, _, _, l, h => by simp [llL] at h
  | m + 1, p, hp, hd, l, h => by
    have hlt := fstI_lt h2 h6 hp (by omega)
    have hm : gz (LV n) (fstI n p) ∈ LV n := mem_gz.2 ⟨_, hlt, rfl⟩
    simp only [llL, List.mem_cons] at h
    rcases h with rfl | h
    · exact hm
    · have h1 := dep_top h2 h6 hp hm
      have h3 := fstI_at hlt
      exact llL_row h2 h6 m _ (top_ok _ hp (LV_mem hm)) (by omega) l h
/-- the next order -/
theorem ll_next {n : Nat} (h2 : 2 ≤ n) (h6 : n ≤ 6) {m : Nat} {p : List Int} (hp : OKp n p) (hd : dep n p = m + 1) :
    fstI n p < (LV n).length ∧ OKp n (top p (gz (LV n) (fstI n p))) ∧ dep n (top p (gz (LV n) (fstI n p))) = m ∧ gz (LV n) (fstI n p) ≠ [] := by
  have hlt := fstI_lt h2 h6 hp (by omega)
  have hm : gz (LV n) (fstI n p) ∈ LV n := mem_gz.2 ⟨_, hlt, rfl⟩
  have h1 := dep_top h2 h6 hp hm
  have h3 := fstI_at hlt
  refine ⟨hlt, top_ok _ hp (LV_mem hm), by omega, fun e => ?_⟩
  rw [e, top_nil] at h3
  omega
/-- whether a level is the one -/
theorem ll_is {n : Nat} (h2 : 2 ≤ n) (h6 : n ≤ 6) {m : Nat} {p : List Int} (hp : OKp n p) (hd : dep n p = m + 1) {j : Nat} (hj : j ≤ fstI n p) :
    dep n (top p (gz (LV n) j)) = m ↔ j = fstI n p := by
  obtain ⟨hlt, _, h3, _⟩ := ll_next h2 h6 hp hd
  constructor
  · intro h
    rcases Nat.lt_or_ge j (fstI n p) with h4 | h4
    · have := fstI_before h4; omega
    · omega
  · rintro rfl; exact h3
noncomputable def levL (p : List Int) : List (List Int) := if mdB p = true then llL p.length (dep p.length p) p else []
theorem levL_yes {p : List Int} (h : mdB p = true) : levL p = llL p.length (dep p.length p) p := by unfold levL; rw [if_pos h]
theorem levL_no {p : List Int} (h : mdB p = false) : levL p = [] := by unfold levL; rw [h]; rfl
theorem levL_facts (p : List Int) : (levL p).length ≤ 15 ∧ ∀ l ∈ levL p, l.length ≤ 6 := by
  rcases h : mdB p with _ | _
  · rw [levL_no h]; simp
  · rw [levL_yes h]
    have hm := mdB_iff.1 h
    have hok : OKp p.length p := ⟨hm.1, rfl⟩
    have h1 := dep_few (by omega) (by omega) hok
    have h3 := ninv_six (zs := p) (by omega)
    refine ⟨by rw [llL_len]; omega, fun l hl => ?_⟩
    have := lvK_row p.length p.length 0 l (llL_row (by omega) (by omega) _ p hok rfl l hl)
    omega
theorem gz_small {L : List (List Int)} {b : Nat} (h : ∀ l ∈ L, l.length ≤ b) (j : Nat) : (gz L j).length ≤ b := by
  by_cases hj : j < L.length
  · exact h _ (mem_gz.2 ⟨j, hj, rfl⟩)
  · simp [gz, List.getD, List.getElem?_eq_none (Nat.le_of_not_lt hj)]
theorem tot_small {L : List (List Int)} {b : Nat} (h : ∀ l ∈ L, l.length ≤ b) : ∀ k, tot L k ≤ k * b
  | 0 => by simp [tot]
  | k + 1 => by
    have h1 := tot_small h k
    have h2 := gz_small h k
    simp only [tot, Nat.succ_mul]
    omega
theorem levL_len (p : List Int) : (levL p).length ≤ 1048576 := by have := (levL_facts p).1; omega
theorem levL_row (p : List Int) (j : Nat) : (gz (levL p) j).length ≤ 1048576 := by have := gz_small (levL_facts p).2 j; omega
theorem levL_tot (p : List Int) : tot (levL p) (levL p).length ≤ 1000000000 := by
  have h1 := tot_small (levL_facts p).2 (levL p).length
  have h2 := (levL_facts p).1
  have : (levL p).length * 6 ≤ 15 * 6 := Nat.mul_le_mul_right _ h2
  omega
end Go.Proofs.Ytnhhbpogjhcibaa
