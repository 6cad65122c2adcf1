/- The contracts of BackOrder, of the program and of its model. -/
import Derived.Test.YtgadfjfokgodgaaMgG
import Derived.Test.YtgadfjfokgodgaaMgD
import Derived.Test.YtgadfjfokgodgaaMgC
namespace Go.Proofs.Ytgadfjfokgodgaa
open Go Go.RowKit

/-- what the first k places have left at j -/
def backAt (zs : List Int) : Nat → Nat → Int
  | 0, _ => 0
  | k + 1, j => if gi zs k = (j : Int) then (k : Int) else backAt zs k j
def back (zs : List Int) : List Int := (List.range zs.length).map fun (j : Nat) => backAt zs zs.length j
theorem back_length (zs : List Int) : (back zs).length = zs.length := by simp [back]
theorem gi_back (zs : List Int) (j : Nat) (h : j < zs.length) : gi (back zs) j = backAt zs zs.length j := by
  rw [gi_lt (by rw [back_length]; exact h)]; simp [back]
def backN (zs : List Int) : List Int := if ord zs = true then back zs else []
theorem backN_yes {zs : List Int} (h : ord zs = true) : backN zs = back zs := by unfold backN; rw [if_pos h]
theorem backN_no {zs : List Int} (h : ord zs = false) : backN zs = [] := by unfold backN; rw [h]; rfl
theorem backN_len (zs : List Int) : (backN zs).length ≤ 1000 := by
  rcases h : ord zs with _ | _
  · rw [backN_no h]; simp
  · rw [backN_yes h, back_length]
    have := (ord_iff.1 h).2.1
    omega
theorem ord_at {zs : List Int} (h : ord zs = true) {j : Nat} (hj : j < zs.length) : 0 ≤ gi zs j ∧ gi zs j < zs.length := (ord_iff.1 h).2.2.1 _ (mem_gi.2 ⟨j, hj, rfl⟩)

end Go.Proofs.Ytgadfjfokgodgaa
