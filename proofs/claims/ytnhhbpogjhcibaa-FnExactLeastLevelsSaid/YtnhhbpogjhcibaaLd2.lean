/- All orders by their ranks. -/
import Derived.Test.YtnhhbpogjhcibaaLd0
namespace Go.Proofs.Ytnhhbpogjhcibaa
open Go Go.RowKit

def ranksOk (n : Nat) (L : List (List Int)) : Bool := decide (L.map rk = List.range L.length) && (decide (L.length ≤ 720) && (decide (0 < L.length) && decide (rk (upto n) = 0)))
theorem ranksAll {n : Nat} (h2 : 2 ≤ n) (h6 : n ≤ 6) : ranksOk n (ordsK n n) = true := by
  match n, h2, h6 with
  | 2, _, _ => decide +kernel
  | 3, _, _ => decide +kernel
  | 4, _, _ => decide +kernel
  | 5, _, _ => decide +kernel
  | 6, _, _ => decide +kernel
theorem ranks6 {n : Nat} (h2 : 2 ≤ n) (h6 : n ≤ 6) : (ordsK n n).map rk = List.range (ordsK n n).length := by
  have := ranksAll h2 h6
  unfold ranksOk at this
  simp only [Bool.and_eq_true, decide_eq_true_eq] at this
  exact this.1
theorem ords_len6 {n : Nat} (h2 : 2 ≤ n) (h6 : n ≤ 6) : (ordsK n n).length ≤ 720 ∧ 0 < (ordsK n n).length := by
  have := ranksAll h2 h6
  unfold ranksOk at this
  simp only [Bool.and_eq_true, decide_eq_true_eq] at this
  exact ⟨this.2.1, this.2.2.1⟩
theorem rk_home6 {n : Nat} (h2 : 2 ≤ n) (h6 : n ≤ 6) : rk (upto n) = 0 := by
  have := ranksAll h2 h6
  unfold ranksOk at this
  simp only [Bool.and_eq_true, decide_eq_true_eq] at this
  exact this.2.2.2
theorem rk_gz6 {n : Nat} (h2 : 2 ≤ n) (h6 : n ≤ 6) {i : Nat} (hi : i < (ordsK n n).length) : rk (gz (ordsK n n) i) = i := by
  have h := congrArg (fun l => l[i]?) (ranks6 h2 h6)
  simp only [List.getElem?_map, List.getElem?_range hi] at h
  have e : (ordsK n n)[i]? = some (gz (ordsK n n) i) := by simp [gz, List.getD, hi]
  rw [e] at h
  simpa using h
theorem gz_rk6 {n : Nat} (h2 : 2 ≤ n) (h6 : n ≤ 6) {q : List Int} (hq : OKp n q) : rk q < (ordsK n n).length ∧ gz (ordsK n n) (rk q) = q := by
  have hm := ((ordsK_all (n := n) (by omega) (by omega)).mem q).2 hq
  obtain ⟨i, hi, rfl⟩ := mem_gz.1 hm
  rw [rk_gz6 h2 h6 hi]
  exact ⟨hi, rfl⟩
theorem rk_inj6 {n : Nat} (h2 : 2 ≤ n) (h6 : n ≤ 6) {p q : List Int} (hp : OKp n p) (hq : OKp n q) (h : rk p = rk q) : p = q := by
  rw [← (gz_rk6 h2 h6 hp).2, ← (gz_rk6 h2 h6 hq).2, h]
end Go.Proofs.Ytnhhbpogjhcibaa
