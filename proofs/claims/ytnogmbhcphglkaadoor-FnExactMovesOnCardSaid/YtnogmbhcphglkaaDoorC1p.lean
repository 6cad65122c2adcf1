/- The contract of AddRung, of the program. -/
import Derived.Test.YtnogmbhcphglkaaDoorC1m
import Derived.Deep.RegionHeld3
namespace Go.Proofs.YtnogmbhcphglkaaDoor
open Go Go.RowKit

def addL (zs : List Int) (k : Nat) (r : Int) : List Int := zs.take k ++ (r :: zs.drop k)
def addB (W : Int) (zs : List Int) (a r : Int) : Bool := lad W zs && (inB a 0 zs.length && lad W (addL zs a.toNat r))
theorem ladderOf_any (W : Int) (PP : Option Addr) (k kc : Nat) (PA : Nat → Option Addr) (PN PC : Nat → Nat) (PZ : Nat → List Int) (w : World) (h : Parts w PP k PA PN PC PZ) (hk : k ≤ 1000000) (zs : List Int) (hz : cat PZ k = zs) (ht : zs.length ≤ 1000000) :
    Calls Tryd.prog 54 #[.int .i64 W, .slice PP k kc] w (FreshLB w (ifW (lad W zs) W) (ifL (lad W zs) zs).length (ifL (lad W zs) zs) (lad W zs)) := by
  subst hz
  rcases hq : lad W (cat PZ k) with _ | _
  · rw [ifW_no, ifL_no]; exact ladderOf_no W PP k kc PA PN PC PZ w h hk ht hq
  · rw [ifW_yes, ifL_yes]; exact ladderOf_yes W PP k kc PA PN PC PZ w h hk ht hq

/-- the end of a slice reads as the end of its list -/
theorem RI.drop {w : World} {b off n : Nat} {zs : List Int} (h : RI w (some ⟨b, off, none⟩) n zs) {k : Nat} (hk : k ≤ n) : RI w (some ⟨b, off + k, none⟩) (n - k) (zs.drop k) := by
  refine ⟨by rw [List.length_drop, h.1], fun h0 => ?_⟩
  obtain ⟨b', off', e, hb, hc⟩ := h.2 (by omega)
  injection e with e; injection e with e1 e2 e3
  subst e1 e2
  refine ⟨b, off + k, rfl, hb, fun j hj => ?_⟩
  rw [show off + k + j = off + (k + j) by omega, hc (k + j) (by omega), gi_lt (by rw [h.1]; omega), gi_lt (by rw [List.length_drop, h.1]; omega)]
  simp
theorem RI.empty (w : World) (A : Option Addr) : RI w A 0 [] := ⟨rfl, fun h => absurd h (by omega)⟩

theorem farSet2 {w5 : World} {b b' o : Nat} {u v x : Value} (h : w5.cell? ⟨b, o, none⟩ = some x) (hne : b ≠ b') : ((w5.setCell ⟨b', 0, none⟩ u).setCell ⟨b', 1, none⟩ v).cell? ⟨b, o, none⟩ = some x := by
  rw [World.cell?_setCell_other _ _ _ _ (by simp <;> omega), World.cell?_setCell_other _ _ _ _ (by simp <;> omega)]; exact h
def sel3 {α : Type} (a b c : α) : Nat → α
  | 0 => a
  | 1 => b
  | _ => c
theorem RI.single' (w : World) (z : Int) : RI (w.alloc (.cells #[.int .i64 z] 3)) (some ⟨w.heap.size, 0, none⟩) 1 [z] :=
  ⟨rfl, fun _ => ⟨w.heap.size, 0, rfl, by simp, fun j hj => by obtain rfl : j = 0 := by omega
                                                               simp [gi]⟩⟩
theorem Parts.three {w : World} {A1 A2 A3 : Option Addr} {n1 c1 n2 c2 n3 c3 : Nat} {z1 z2 z3 : List Int} (h1 : RI w A1 n1 z1) (h2 : RI w A2 n2 z2) (h3 : RI w A3 n3 z3) :
    Parts (w.alloc (.cells #[.slice A1 n1 c1, .slice A2 n2 c2, .slice A3 n3 c3] 22)) (some ⟨w.heap.size, 0, none⟩) 3 (sel3 A1 A2 A3) (sel3 n1 n2 n3) (sel3 c1 c2 c3) (sel3 z1 z2 z3) := by
  refine ⟨fun _ => ⟨w.heap.size, 0, rfl, by simp, fun j hj => ?_⟩, fun j hj => ?_⟩
  · match j, hj with
    | 0, _ => simp [sel3]
    | 1, _ => simp [sel3]
    | 2, _ => simp [sel3]
  · match j, hj with
    | 0, _ => exact h1.alloc _
    | 1, _ => exact h2.alloc _
    | 2, _ => exact h3.alloc _
theorem Parts.drew {w : World} {PP : Option Addr} {k : Nat} {PA : Nat → Option Addr} {PN PC : Nat → Nat} {PZ : Nat → List Int} (h : Parts w PP k PA PN PC PZ) : Parts w.drew PP k PA PN PC PZ := h
theorem cat_three (z1 z2 z3 : List Int) : cat (sel3 z1 z2 z3) 3 = z1 ++ (z2 ++ z3) := by simp [cat, sel3]
/-- where the end of a slice begins -/
theorem RI.drop' {w : World} {g n k : Nat} {zs : List Int} (h : RI w (some ⟨g, 0, none⟩) n zs) (hk : k ≤ n) : RI w (some ⟨g, k, none⟩) (n - k) (zs.drop k) := by
  have := h.drop hk
  rwa [Nat.zero_add] at this

end Go.Proofs.YtnogmbhcphglkaaDoor
