/- Draws of numbers: among a few. -/
import Derived.Test.YtgeeifjbfceogaaGreatDoorCu3
namespace Go.Proofs.YtgeeifjbfceogaaGreatDoor
open Go Go.RowKit

theorem rowL (w : World) (zs : List Int) : RI (w.alloc (.cells (I zs).toArray 3)) (some ⟨w.heap.size, 0, none⟩) zs.length zs := by
  have e := heap_alloc_new w (.cells (I zs).toArray 3)
  have hl : w.heap.size < (w.alloc (.cells (I zs).toArray 3)).heap.size := by simp
  obtain ⟨w', hw'⟩ : ∃ w', w' = w.alloc (.cells (I zs).toArray 3) := ⟨_, rfl⟩
  rw [← hw'] at e hl ⊢
  refine ⟨rfl, fun _ => ⟨w.heap.size, 0, rfl, hl, fun j hj => ?_⟩⟩
  have h2 : (I zs)[j]? = some (.int .i64 (gi zs j)) := by
    unfold I
    rw [List.getElem?_map, List.getElem?_eq_getElem hj, gi_lt hj]
    rfl
  simp [World.cell?, e, h2]
theorem belCurG {w w0 w1 : World} {b : Nat} (h0 : Below w.heap.size w w0) (hb : w.heap.size ≤ b) (hg : w0.grownBy w1 (some b)) : Below w.heap.size w w1 :=
  h0.trans ⟨hg.os, hg.tape, hg.output, hg.size, fun i hi => hg.block i (Nat.lt_of_lt_of_le hi h0.size) (fun e => by injection e with e; omega)⟩
def DrawnB2 (w : World) (b : Nat) (A : Option Addr) (n c : Nat) (bs : List Int) (k : Nat) (e : Ending) (w' : World) : Prop :=
  ∃ q : Bool, e = .returned (.bool q) ∧ Cur w' b A n c bs k ∧ w.grownBy w' (some b)

/-- a number -/
def FreshN (w : World) (e : Ending) (w' : World) : Prop :=
  ∃ v : Int, e = .returned (.int .i64 v) ∧ -9223372036854775808 ≤ v ∧ v ≤ 9223372036854775807 ∧ Below w.heap.size w w'

set_option maxRecDepth 100000 in
set_option maxHeartbeats 1000000 in
theorem drawCountAllLeast_any (A : Option Addr) (n c : Nat) (bs : List Int) (w : World) (h : BI w A n bs) (hn : n ≤ 1048576) : Calls Tryz.prog 65 #[.slice A n c] w (FreshN w) := by
  have HC := Lib.hid (Cur.new w A n c bs 92 h)
  have HV : Hid (∀ i, i < 10 → -1 ≤ gi [2, 3, 4, 5, 4, 5, 6, 1, 7, -1] i ∧ gi [2, 3, 4, 5, 4, 5, 6, 1, 7, -1] i ≤ 7) := by show ∀ i, _; decide
  clear h
  go_enter Tryz.func65, Tryz.ntmps65
  go_wp2_with fail
  have HR := Lib.hid (rowL (w.alloc (.cells #[.slice A n c, .int .i64 0, .int .u64 0] 92)) [2, 3, 4, 5, 4, 5, 6, 1, 7, -1])
  simp only [World.size_alloc] at HR
  refine (among_any w.heap.size A n c bs 0 (some ⟨w.heap.size + 1, 0, none⟩) 10 10 [2, 3, 4, 5, 4, 5, 6, 1, 7, -1] _ (HC.out.below (allocBel _ _)) hn (by omega) HR.out (by omega) (by omega) (by simp [blk])).mono ?_
  rintro e w1 ⟨i, rfl, hi, hc, hg⟩
  have hv := HV.out i hi
  obtain ⟨x, hx⟩ : ∃ x, x = gi [2, 3, 4, 5, 4, 5, 6, 1, 7, -1] i := ⟨_, rfl⟩
  rw [← hx] at hv ⊢
  have HB := Lib.hid (belCurG ((allocBel w _).trans ((allocBel _ _).mono (by simp))) (Nat.le_refl _) hg)
  clear hc hg hx hi HV HR HC
  go_wp2
  go_ret
  exact ⟨x, rfl, by omega, by omega, HB.out⟩

set_option maxHeartbeats 400000 in
theorem drawCountByLength_any (A : Option Addr) (n c : Nat) (bs : List Int) (w : World) (h : BI w A n bs) (hn : n ≤ 1048576) : Calls Tryz.prog 38 #[.slice A n c] w (FreshN w) := by
  have HD := Lib.hid (drawCountAllLeast_any A n c bs w h hn)
  clear h
  go_enter Tryz.func38, Tryz.ntmps38
  go_wp2_with fail
  refine HD.out.mono ?_
  rintro e w1 ⟨v, rfl, lo, hi, hb⟩
  have HB := Lib.hid hb
  clear hb
  go_wp2
  go_ret
  exact ⟨v, rfl, lo, hi, HB.out⟩
end Go.Proofs.YtgeeifjbfceogaaGreatDoor
