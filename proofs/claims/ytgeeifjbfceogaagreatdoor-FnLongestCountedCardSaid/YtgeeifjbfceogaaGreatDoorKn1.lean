/- Least ladders of the longest order, counted layer by layer; the formula's number. (No program.) -/
import Derived.Test.YtgeeifjbfceogaaGreatDoorCb5
import Derived.Test.YtgeeifjbfceogaaGreatDoorLg1
import Derived.KernelRfl
namespace Go.Proofs.YtgeeifjbfceogaaGreatDoor
open Go Go.RowKit

/-- a list counted in -/
def insQ (q : List Int) (c : Nat) : List (List Int × Nat) → List (List Int × Nat)
  | [] => [(q, c)]
  | (p, d) :: r => if p = q then (p, d + c) :: r else (p, d) :: insQ q c r
def kidsQ (q : List Int) (c : Nat) (L : List (List Int × Nat)) : Nat → List (List Int × Nat)
  | 0 => L
  | i + 1 => if gi q (i + 1) < gi q i then insQ (exch q i) c (kidsQ q c L i) else kidsQ q c L i
def layerQ : List (List Int × Nat) → List (List Int × Nat)
  | [] => []
  | (q, c) :: r => kidsQ q c (layerQ r) (q.length - 1)
def layersQ : Nat → List (List Int × Nat) → List (List Int × Nat)
  | 0, L => L
  | k + 1, L => layersQ k (layerQ L)
/-- what they weigh -/
def wgt (k : Nat) : List (List Int × Nat) → Nat
  | [] => 0
  | (q, c) :: r => c * np k q + wgt k r
def sndS : List (List Int × Nat) → Nat
  | [] => 0
  | (_, c) :: r => c + sndS r
theorem wgt_ins (k : Nat) (q : List Int) (c : Nat) : ∀ L, wgt k (insQ q c L) = wgt k L + c * np k q
  | [] => by simp [insQ, wgt]
  | (p, d) :: r => by
    simp only [insQ]
    by_cases h : p = q
    · rw [if_pos h]; subst h; simp only [wgt]; rw [Nat.add_mul]; omega
    · rw [if_neg h]; simp only [wgt]; rw [wgt_ins k q c r]; omega
theorem wgt_kids (k : Nat) (q : List Int) (c : Nat) (L : List (List Int × Nat)) : ∀ m, wgt k (kidsQ q c L m) = wgt k L + c * rs m (fun i => if gi q (i + 1) < gi q i then np k (exch q i) else 0)
  | 0 => by simp [kidsQ, rs]
  | m + 1 => by
    have ih := wgt_kids k q c L m
    rw [rs_succ, Nat.mul_add]
    simp only [kidsQ]
    by_cases h : gi q (m + 1) < gi q m
    · rw [if_pos h, if_pos h, wgt_ins, ih]; omega
    · rw [if_neg h, if_neg h, ih]; omega
theorem wgt_layer (k : Nat) : ∀ L, wgt k (layerQ L) = wgt (k + 1) L
  | [] => rfl
  | (q, c) :: r => by
    simp only [layerQ, wgt]
    rw [wgt_kids, wgt_layer k r, np_rs]; omega
theorem wgt_layers : ∀ (k : Nat) (L : List (List Int × Nat)), wgt k L = sndS (layersQ k L)
  | 0, [] => rfl
  | 0, (q, c) :: r => by
    have h := wgt_layers 0 r
    simp only [layersQ, wgt, sndS] at h ⊢
    rw [h]; simp [np]
  | k + 1, L => by
    simp only [layersQ]
    rw [← wgt_layer, wgt_layers k]
theorem np_layers (k : Nat) (q : List Int) : np k q = sndS (layersQ k [(q, 1)]) := by
  rw [← wgt_layers]; simp [wgt]
theorem top_lgf {n : Nat} (h1 : 2 ≤ n) (h6 : n ≤ 6) : cnt (topO n) = lgf n := by
  unfold cnt
  rw [np_layers]
  rcases six_cases h1 h6 with rfl | rfl | rfl | rfl | rfl
  · decide +kernel
  · decide +kernel
  · decide +kernel
  · decide +kernel
  · decide +kernel
end Go.Proofs.YtgeeifjbfceogaaGreatDoor
