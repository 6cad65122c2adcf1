/- Draws of numbers: among a few. -/
import Derived.Test.YtbgkhehopldilaaCu3
namespace Go.Proofs.Ytbgkhehopldilaa
open Go Go.RowKit

theorem rowL (w : World) (zs : List Int) : RI (w.alloc (.cells (I zs).toArray 3)) (some ⟨w.heap.size, 0, none⟩) zs.length zs := by
  have e := heap_alloc_new w (.cells (I zs).toArray 3)
  have hl : w.heap.size < (w.alloc (.cells (I zs).toArray 3)).heap.size := by simp
  obtain ⟨w', hw'⟩ : ∃ w', w' = w.alloc (.cells (I zs).toArray 3) := ⟨_, rfl⟩
  rw [← hw'] at e hl ⊢
  refine ⟨rfl, fun _ => ⟨w.heap.size, 0, rfl, hl, fun j hj => ?_⟩⟩
  have h2 : (I zs)[j]? = some (.int .i64 (gi zs j)) := by
    unfold I
    rw [List.getElem?_map, List.getElem?_eq_getElem hj, gi_lt hj]
    rfl
  simp [World.cell?, e, h2]
theorem belCurG {w w0 w1 : World} {b : Nat} (h0 : Below w.heap.size w w0) (hb : w.heap.size ≤ b) (hg : w0.grownBy w1 (some b)) : Below w.heap.size w w1 :=
  h0.trans ⟨hg.os, hg.tape, hg.output, hg.size, fun i hi => hg.block i (Nat.lt_of_lt_of_le hi h0.size) (fun e => by injection e with e; omega)⟩
def DrawnB2 (w : World) (b : Nat) (A : Option Addr) (n c : Nat) (bs : List Int) (k : Nat) (e : Ending) (w' : World) : Prop :=
  ∃ q : Bool, e = .returned (.bool q) ∧ Cur w' b A n c bs k ∧ w.grownBy w' (some b)

set_option maxHeartbeats 400000 in
theorem oneD_any (b : Nat) (A : Option Addr) (n c : Nat) (bs : List Int) (k : Nat) (m : Int) (w : World) (h : Cur w b A n c bs k) (hn : n ≤ 1048576) (hk : k ≤ 100000000) (hm : m ≤ 1000000) :
    Calls Try.prog 39 #[.pointer (some ⟨b, 0, none⟩), .int .i64 m] w (DrawnB2 w b A n c bs (k + 2)) := by
  go_enter Try.func39, Try.ntmps39
  go_wp2_with fail
  refine (pick_any b A n c bs k m _ h hn hk hm).mono ?_
  rintro e w1 ⟨v, rfl, v0, v1, hc, hg⟩
  have HC := Lib.hid hc
  have HG := Lib.hid hg
  clear hc hg h v1
  by_cases hv : v = 0
  · have e1 : (v == 0) = true := by simp [hv]
    clear hv
    go_wp2
    go_ret
    exact ⟨_, rfl, HC.out, HG.out⟩
  · have e1 : (v == 0) = false := by simp [hv]
    clear hv
    go_wp2
    go_ret
    exact ⟨_, rfl, HC.out, HG.out⟩

/-- a number -/
def FreshN (w : World) (e : Ending) (w' : World) : Prop :=
  ∃ v : Int, e = .returned (.int .i64 v) ∧ -9223372036854775808 ≤ v ∧ v ≤ 9223372036854775807 ∧ Below w.heap.size w w'

end Go.Proofs.Ytbgkhehopldilaa
