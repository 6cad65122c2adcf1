/- The contracts of ThenOrder, of the program and of its model. -/
import Derived.Test.YtgadfjfokgodgaaO5
import Derived.Test.YtgadfjfokgodgaaMgD
import Derived.Test.YtgadfjfokgodgaaCln
namespace Go.Proofs.Ytgadfjfokgodgaa
open Go Go.RowKit

/-- zs and then ys -/
def thenL (zs ys : List Int) : List Int := zs.map fun x => gi ys x.toNat
theorem thenL_length (zs ys : List Int) : (thenL zs ys).length = zs.length := by simp [thenL]
theorem gi_thenL (zs ys : List Int) (j : Nat) (h : j < zs.length) : gi (thenL zs ys) j = gi ys (gi zs j).toNat := by
  rw [gi_lt (by rw [thenL_length]; exact h), gi_lt h]; simp [thenL]
theorem thenL_take (zs ys : List Int) (k : Nat) (h : k < zs.length) : (thenL zs ys).take (k + 1) = (thenL zs ys).take k ++ [gi ys (gi zs k).toNat] := by
  have hl := thenL_length zs ys
  rw [List.take_succ_eq_append_getElem (by omega), ← gi_lt, gi_thenL _ _ _ h]
def thenB (zs ys : List Int) : Bool := ord zs && (ord ys && decide (zs.length = ys.length))
def thenN (zs ys : List Int) : List Int := if thenB zs ys = true then thenL zs ys else []
theorem thenN_yes {zs ys : List Int} (h : thenB zs ys = true) : thenN zs ys = thenL zs ys := by unfold thenN; rw [if_pos h]
theorem thenN_no {zs ys : List Int} (h : thenB zs ys = false) : thenN zs ys = [] := by unfold thenN; rw [h]; rfl
theorem thenB_1 {zs ys : List Int} (h : ord zs = false) : thenB zs ys = false := by simp [thenB, h]
theorem thenB_2 {zs ys : List Int} (h : ord ys = false) : thenB zs ys = false := by simp [thenB, h]
theorem thenB_3 {zs ys : List Int} (h : zs.length ≠ ys.length) : thenB zs ys = false := by simp [thenB, h]
theorem thenB_4 {zs ys : List Int} (h1 : ord zs = true) (h2 : ord ys = true) (h3 : zs.length = ys.length) : thenB zs ys = true := by simp [thenB, h1, h2, h3]
theorem thenN_len (zs ys : List Int) : (thenN zs ys).length ≤ 1000 := by
  rcases h : thenB zs ys with _ | _
  · rw [thenN_no h]; simp
  · rw [thenN_yes h, thenL_length]
    simp only [thenB, Bool.and_eq_true] at h
    have := (ord_iff.1 h.1).2.1
    omega

end Go.Proofs.Ytgadfjfokgodgaa
