/- Least poles: what is left below a rung at the top. -/
import Derived.Test.YtpkdeoehfnnchaaLp4
namespace Go.Proofs.Ytpkdeoehfnnchaa
open Go Go.RowKit

/-- the ends and the winds below a rung r at the top; x is the next wire -/
def topE (zs : List Int) (r x : Nat) : List Int := (zs.set r (gi zs x)).set x (gi zs r)
/-- w: what the one who starts at r has wound already -/
def topW (us : List Int) (r x : Nat) (w : Int) : List Int := (us.set r (gi us x + w)).set x (gi us r - w)
theorem topE_len (zs : List Int) (r x : Nat) : (topE zs r x).length = zs.length := by simp [topE]
theorem topW_len (us : List Int) (r x : Nat) (w : Int) : (topW us r x w).length = us.length := by simp [topW]
theorem gi_topE {zs : List Int} {r x : Nat} (hr : r < zs.length) (hx : x < zs.length) (i : Nat) : gi (topE zs r x) i = gi zs (xch r x i) := by
  unfold topE xch
  rw [gi_set _ _ _ _ (by rw [List.length_set]; exact hx), gi_set _ _ _ _ hr]
  by_cases h1 : i = x
  · subst h1
    rw [if_pos rfl]
    by_cases h2 : i = r
    · subst h2; rw [if_pos rfl]
    · rw [if_neg h2, if_pos rfl]
  · rw [if_neg h1]
    by_cases h2 : i = r
    · rw [if_pos h2, if_pos h2]
    · rw [if_neg h2, if_neg h2, if_neg h1]
theorem gi_topW {us : List Int} {r x : Nat} (hr : r < us.length) (hx : x < us.length) (hne : r ≠ x) (w : Int) (i : Nat) : gi (topW us r x w) i = gi us (xch r x i) + (if i = r then w else if i = x then -w else 0) := by
  unfold topW xch
  rw [gi_set _ _ _ _ (by rw [List.length_set]; exact hx), gi_set _ _ _ _ hr]
  by_cases h1 : i = x
  · subst h1
    rw [if_pos rfl, if_neg (fun e => hne e.symm), if_pos rfl, if_neg (fun e => hne e.symm), if_pos rfl]; omega
  · rw [if_neg h1]
    by_cases h2 : i = r
    · rw [if_pos h2, if_pos h2, if_pos h2]
    · rw [if_neg h2, if_neg h2, if_neg h1, if_neg h2, if_neg h1]; omega
theorem topW_sum {us : List Int} {r x : Nat} (hr : r < us.length) (hx : x < us.length) (hne : r ≠ x) (w : Int) : (topW us r x w).sum = us.sum := by
  unfold topW
  rw [sum_set _ _ _ (by rw [List.length_set]; exact hx), sum_set _ _ _ hr, gi_set _ _ _ _ hr, if_neg (fun e => hne e.symm)]
  omega
theorem xch_lt {n a b i : Nat} (ha : a < n) (hb : b < n) (hi : i < n) : xch a b i < n := by
  unfold xch
  by_cases h1 : i = a
  · rw [if_pos h1]; exact hb
  · rw [if_neg h1]
    by_cases h2 : i = b
    · rw [if_pos h2]; exact ha
    · rw [if_neg h2]; exact hi
theorem xch_inj {a b i j : Nat} (h : xch a b i = xch a b j) : i = j := by
  have e : ∀ k, xch a b (xch a b k) = k := fun k => by
    by_cases h1 : k = a
    · subst h1; rw [xch_l, xch_r]
    · by_cases h2 : k = b
      · subst h2; rw [xch_r, xch_l]
      · rw [xch_o h1 h2, xch_o h1 h2]
  rw [← e i, h, e j]
theorem ord_top {zs : List Int} (h : ord zs = true) {r x : Nat} (hr : r < zs.length) (hx : x < zs.length) : ord (topE zs r x) = true := by
  obtain ⟨h1, h2, h3, h4⟩ := ord_iff.1 h
  refine ord_iff.2 ⟨by rw [topE_len]; exact h1, by rw [topE_len]; exact h2, ?_, nodup_gi.2 ?_⟩
  · intro v hv
    obtain ⟨i, hi, rfl⟩ := mem_gi.1 hv
    rw [topE_len] at hi ⊢
    rw [gi_topE hr hx]
    exact h3 _ (mem_gi.2 ⟨_, xch_lt hr hx hi, rfl⟩)
  · intro i j hij hj
    rw [topE_len] at hj
    rw [gi_topE hr hx, gi_topE hr hx]
    have a1 := xch_lt hr hx (show i < zs.length by omega); have a2 := xch_lt hr hx hj
    have hne : xch r x i ≠ xch r x j := fun e => by have := xch_inj e; omega
    rcases Nat.lt_or_ge (xch r x i) (xch r x j) with h5 | h5
    · exact nodup_gi.1 h4 _ _ h5 a2
    · exact fun e => nodup_gi.1 h4 _ _ (by omega) a1 e.symm
end Go.Proofs.Ytpkdeoehfnnchaa
