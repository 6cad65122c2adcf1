/- All moves of a list, in their order: mathematics; and a kind's hand on a list. -/
import Derived.Test.YtnogmbhcphglkaaDoorMm4
import Derived.Test.YtnogmbhcphglkaaDoorTwa
namespace Go.Proofs.YtnogmbhcphglkaaDoor
open Go Go.RowKit

def mvOk (zs : List Int) (k a : Nat) : Bool := (mvO zs (kb k) a).isSome
/-- the texts of the moves of kind k at the first j rungs -/
def mvJ (zs : List Int) (k : Nat) : Nat → List (List UInt8)
  | 0 => []
  | j + 1 => mvJ zs k j ++ if mvOk zs k j = true then [kb k :: numT (j : Int)] else []
/-- the texts of the moves of the first k kinds -/
def mvK (zs : List Int) (n : Nat) : Nat → List (List UInt8)
  | 0 => []
  | k + 1 => mvK zs n k ++ mvJ zs k n
theorem mvJ_len (zs : List Int) (k : Nat) : ∀ j, (mvJ zs k j).length ≤ j
  | 0 => Nat.le_refl _
  | j + 1 => by
    unfold mvJ
    rw [List.length_append]
    have := mvJ_len zs k j
    split <;> simp <;> omega
theorem mvK_len (zs : List Int) (n : Nat) : ∀ k, (mvK zs n k).length ≤ n * k
  | 0 => Nat.le_refl _
  | k + 1 => by
    unfold mvK
    rw [List.length_append]
    have h1 := mvK_len zs n k
    have h2 := mvJ_len zs k n
    have : n * (k + 1) = n * k + n := Nat.mul_succ n k
    omega
theorem mvJ_yes {zs : List Int} {k j : Nat} (h : mvOk zs k j = true) : mvJ zs k (j + 1) = mvJ zs k j ++ [kb k :: numT (j : Int)] := by
  show mvJ zs k j ++ _ = _
  rw [if_pos h]
theorem mvJ_no {zs : List Int} {k j : Nat} (h : mvOk zs k j = false) : mvJ zs k (j + 1) = mvJ zs k j := by
  show mvJ zs k j ++ _ = _
  rw [if_neg (by rw [h]; simp), List.append_nil]
theorem some_if {b : Bool} {L : List Int} : (if b = true then some L else none).isSome = b := by cases b <;> rfl

theorem made_any (k : Nat) (hk : k < 3) (n c : Nat) (zs : List Int) (a : Nat) (hn : n ≤ 60) (hnc : n ≤ c) {W : Int} (hq : lad W zs = true) :
    ∃ (m : Nat) (ys : List Int), ∀ (A : Option Addr) (w : World), RI w A n zs → Calls Tryd.prog (kf k) #[.slice A n c, .int .i64 (a : Int)] w (FreshIB w m ys (mvOk zs k a)) := by
  obtain rfl | rfl | rfl : k = 0 ∨ k = 1 ∨ k = 2 := by omega
  · refine ⟨(ifL (sldOk zs a) (sldL zs (a : Int).toNat)).length, ifL (sldOk zs a) (sldL zs (a : Int).toNat), fun A w h => ?_⟩
    have e : mvOk zs 0 a = sldOk zs a := some_if
    rw [e]
    exact slide_any A n c zs a w h (by omega) hnc (lad_small hq)
  · refine ⟨(ifL (flpOk zs a) (flpL zs (a : Int).toNat)).length, ifL (flpOk zs a) (flpL zs (a : Int).toNat), fun A w h => ?_⟩
    have e : mvOk zs 1 a = flpOk zs a := some_if
    rw [e]
    exact flip_any A n c zs a w h (by omega) hnc (lad_small hq)
  · refine ⟨(ifL (drpOk zs a) (drpL zs (a : Int).toNat)).length, ifL (drpOk zs a) (drpL zs (a : Int).toNat), fun A w h => ?_⟩
    have e : mvOk zs 2 a = drpOk zs a := some_if
    rw [e]
    exact drop_any A n c zs a w h (by omega) hnc (lad_small hq)
/-- a new row of texts of the call's own, and a bool -/
def FreshTB (w : World) (m : Nat) (ts : List (List UInt8)) (q : Bool) (e : Ending) (w' : World) : Prop :=
  ∃ A c, e = .returned (.tuple #[.slice A m c, .bool q]) ∧ OT w' w.heap.size A m c ts ∧ Below w.heap.size w w'
end Go.Proofs.YtnogmbhcphglkaaDoor
