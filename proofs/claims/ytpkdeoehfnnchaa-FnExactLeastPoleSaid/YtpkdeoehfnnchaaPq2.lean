/- The places at which one is around a pole, of the program. -/
import Derived.Test.YtpkdeoehfnnchaaPq1
import Derived.Test.YtpkdeoehfnnchaaMgC
import Derived.Test.YtpkdeoehfnnchaaUl1
import Derived.Deep.RegionHeld3
namespace Go.Proofs.Ytpkdeoehfnnchaa
open Go Go.RowKit

/-- the first k places, two numbers each -/
def plF (W : Int) (zs : List Int) (s : Int) (k : Nat) : List Int := (List.range k).flatMap fun i => [pat W zs s i, pwd W zs s i]
theorem plF_succ (W : Int) (zs : List Int) (s : Int) (k : Nat) : plF W zs s (k + 1) = plF W zs s k ++ [pat W zs s k, pwd W zs s k] := by
  unfold plF; rw [List.range_succ, List.flatMap_append]; simp
theorem plF_length (W : Int) (zs : List Int) (s : Int) : ∀ k, (plF W zs s k).length = k * 2
  | 0 => rfl
  | k + 1 => by rw [plF_succ, List.length_append, plF_length W zs s k]; simp; omega
theorem gi_plF (W : Int) (zs : List Int) (s : Int) : ∀ {n k : Nat}, k < n → gi (plF W zs s n) (k * 2) = pat W zs s k ∧ gi (plF W zs s n) (k * 2 + 1) = pwd W zs s k
  | 0, k, h => absurd h (by omega)
  | n + 1, k, h => by
    rw [plF_succ]
    have hl := plF_length W zs s n
    by_cases e : k = n
    · subst e
      unfold gi
      simp only [List.getD_eq_getElem?_getD]
      rw [List.getElem?_append_right (by omega), List.getElem?_append_right (by omega), hl]
      simp
    · have h1 := gi_plF W zs s (n := n) (k := k) (by omega)
      unfold gi at h1 ⊢
      simp only [List.getD_eq_getElem?_getD] at h1 ⊢
      rw [List.getElem?_append_left (by omega), List.getElem?_append_left (by omega)]
      exact h1

theorem OPq.setBelow {w : World} {B : Nat} {A : Option Addr} {n c : Nat} {F : List Int} (h : OPq w B A n c F) {p : Addr} (hp : p.block < B) (u : Value) : OPq (w.setCell p u) B A n c F :=
  ⟨h.1, ownsRow_setCell_below h.2 hp u⟩

def FreshPq (w : World) (n : Nat) (F : List Int) (e : Ending) (w' : World) : Prop :=
  ∃ A c, e = .returned (.slice A n c) ∧ OPq w' w.heap.size A n c F ∧ Below w.heap.size w w'

end Go.Proofs.Ytpkdeoehfnnchaa
