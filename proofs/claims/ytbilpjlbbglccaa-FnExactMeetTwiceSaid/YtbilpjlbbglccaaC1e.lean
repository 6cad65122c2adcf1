/- EndOf and WayDown for every argument. -/
import Derived.Test.YtbilpjlbbglccaaC1d
namespace Go.Proofs.Ytbilpjlbbglccaa
open Go Go.RowKit

def endN (W : Int) (zs : List Int) (s : Int) : Int := if wire W zs s = true then endOf zs s else 0
theorem endN_yes {W : Int} {zs : List Int} {s : Int} (h : wire W zs s = true) : endN W zs s = endOf zs s := by unfold endN; rw [if_pos h]
theorem endN_no {W : Int} {zs : List Int} {s : Int} (h : wire W zs s = false) : endN W zs s = 0 := by unfold endN; rw [h]; rfl
def wayN (W : Int) (zs : List Int) (s : Int) : List Int := if wire W zs s = true then down zs s else []
theorem wayN_yes {W : Int} {zs : List Int} {s : Int} (h : wire W zs s = true) : wayN W zs s = down zs s := by unfold wayN; rw [if_pos h]
theorem wayN_no {W : Int} {zs : List Int} {s : Int} (h : wire W zs s = false) : wayN W zs s = [] := by unfold wayN; rw [h]; rfl

theorem wayN_len (W : Int) (zs : List Int) (s : Int) : (wayN W zs s).length ≤ 1000 := by
  rcases h : wire W zs s with _ | _
  · rw [wayN_no h]; simp
  · rw [wayN_yes h, down_length]
    have := (lad_iff.1 (wire_iff.1 h).1).2.1
    omega

end Go.Proofs.Ytbilpjlbbglccaa
