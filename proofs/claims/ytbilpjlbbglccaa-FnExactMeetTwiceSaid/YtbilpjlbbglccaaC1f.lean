/- The contracts of ResultOf, of the program and of its model. -/
import Derived.Test.YtbilpjlbbglccaaC1e
import Derived.Test.YtbilpjlbbglccaaSt
namespace Go.Proofs.Ytbilpjlbbglccaa
open Go Go.RowKit

/-- the result of rungs on so many wires -/
def res (zs : List Int) (N : Nat) : List Int := (List.range N).map fun (i : Nat) => endOf zs (i : Int)
theorem res_length (zs : List Int) (N : Nat) : (res zs N).length = N := by simp [res]
theorem gi_res (zs : List Int) (N i : Nat) (h : i < N) : gi (res zs N) i = endOf zs (i : Int) := by
  rw [gi_lt (by rw [res_length]; exact h)]; simp [res]
theorem res_take (zs : List Int) (N k : Nat) (h : k < N) : (res zs N).take (k + 1) = (res zs N).take k ++ [endOf zs (k : Int)] := by
  have hl := res_length zs N
  rw [List.take_succ_eq_append_getElem (by omega), ← gi_lt, gi_res _ _ _ h]
theorem Wires.wire {W : Int} {zs : List Int} (h : lad W zs = true) {i : Nat} (hi : (i : Int) < W) : Wires zs (i : Int) :=
  ⟨W, by have := (lad_iff.1 h).1; omega, fun _ hj => lad_at h hj, by omega, by omega⟩

def resN (W : Int) (zs : List Int) : List Int := if lad W zs = true then res zs W.toNat else []
theorem resN_yes {W : Int} {zs : List Int} (h : lad W zs = true) : resN W zs = res zs W.toNat := by unfold resN; rw [if_pos h]
theorem resN_no {W : Int} {zs : List Int} (h : lad W zs = false) : resN W zs = [] := by unfold resN; rw [h]; rfl
theorem resN_len (W : Int) (zs : List Int) : (resN W zs).length ≤ 1000 := by
  rcases h : lad W zs with _ | _
  · rw [resN_no h]; simp
  · rw [resN_yes h, res_length]
    have := (lad_iff.1 h).1
    omega

end Go.Proofs.Ytbilpjlbbglccaa
