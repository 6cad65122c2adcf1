/- PlaceOf, of both. -/
import Derived.Test.YtpkdeoehfnnchaaTl1
import Derived.Test.YtpkdeoehfnnchaaTm2
namespace Go.Proofs.Ytpkdeoehfnnchaa
open Go Go.RowKit
def pfB (zs us : List Int) (i : Int) : Bool := trn zs us && inB i (-1000) 1000
def pfN (zs us : List Int) (i : Int) : Int := if pfB zs us i = true then plc zs us i else 0
theorem pfB_1 {zs us : List Int} {i : Int} (h : trn zs us = false) : pfB zs us i = false := by unfold pfB; rw [h]; rfl
theorem pfB_2 {zs us : List Int} {i : Int} (h : trn zs us = true) : pfB zs us i = inB i (-1000) 1000 := by unfold pfB; rw [h]; rfl
theorem pfN_no {zs us : List Int} {i : Int} (h : pfB zs us i = false) : pfN zs us i = 0 := by unfold pfN; rw [h]; rfl
theorem pfN_yes {zs us : List Int} {i : Int} (h : pfB zs us i = true) : pfN zs us i = plc zs us i := by unfold pfN; rw [if_pos h]

end Go.Proofs.Ytpkdeoehfnnchaa
