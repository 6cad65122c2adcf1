/- The contracts of the functions that look whether there is a ladder, of the program and of its model. The contracts of the functions that go down a ladder. The contracts of the program's own way down. The contracts of EndOf and WayDown, of the program and of its model. -/
import Derived.Test.YtbgkhehopldilaaMgA
import Derived.Test.YtbgkhehopldilaaMgC
import Derived.Test.YtbgkhehopldilaaMgB
import Derived.WalkMore
import Derived.Deep.LoopGhost
import Derived.Deep.DeepMust
import Derived.Deep.RegionWith
namespace Go.Proofs.Ytbgkhehopldilaa
open Go Go.RowKit

/-- a value, and the world as it was -/
def SameB (b : Bool) (w : World) (e : Ending) (w' : World) : Prop := e = .returned (.bool b) ∧ w = w'
def SameI (n : Int) (w : World) (e : Ending) (w' : World) : Prop := e = .returned (.int .i64 n) ∧ w = w'

theorem l1In_any (n lo hi : Int) (w : World) : Calls Try.prog 24 #[.int .i64 n, .int .i64 lo, .int .i64 hi] w (SameB (inB n lo hi) w) := by
  by_cases h1 : lo ≤ n
  · by_cases h2 : n ≤ hi
    · go_enter Try.func24, Try.ntmps24
      go_wp2
      go_ret
      exact ⟨ret_b (inB_true ⟨h1, h2⟩).symm, rfl⟩
    · go_enter Try.func24, Try.ntmps24
      go_wp2
      go_ret
      exact ⟨ret_b (inB_false (by omega)).symm, rfl⟩
  · go_enter Try.func24, Try.ntmps24
    go_wp2
    go_ret
    exact ⟨ret_b (inB_false (by omega)).symm, rfl⟩

end Go.Proofs.Ytbgkhehopldilaa
namespace Go.Proofs.Ytbgkhehopldilaa
open Go Go.RowKit

theorem over_1 {s r : Int} (h : s = r) : r + 1 = over s r := by unfold over; rw [if_pos h]
theorem over_2 {s r : Int} (h : s ≠ r) (h2 : s = r + 1) : r = over s r := by unfold over; rw [if_neg h, if_pos h2]
theorem over_3 {s r : Int} (h : s ≠ r) (h2 : s ≠ r + 1) : s = over s r := by unfold over; rw [if_neg h, if_neg h2]

theorem laOver_any (s r : Int) (w : World) (hr : -1000 ≤ r ∧ r ≤ 1000) :
    Calls Try.prog 36 #[.int .i64 s, .int .i64 r] w (SameI (over s r) w) := by
  by_cases h1 : s = r
  · have e1 : (s == r) = true := beq_iff_eq.2 h1
    have H1 := Lib.hid (over_1 h1)
    clear h1
    go_enter Try.func36, Try.ntmps36
    go_wp2
    go_ret
    exact ⟨ret_i H1.out, rfl⟩
  · have e1 : (s == r) = false := beq_eq_false_iff_ne.2 h1
    by_cases h2 : s = r + 1
    · have e2 : (s == r + 1) = true := beq_iff_eq.2 h2
      have H1 := Lib.hid (over_2 h1 h2)
      clear h1 h2
      go_enter Try.func36, Try.ntmps36
      go_wp2
      go_ret
      exact ⟨ret_i H1.out, rfl⟩
    · have e2 : (s == r + 1) = false := beq_eq_false_iff_ne.2 h2
      have H1 := Lib.hid (over_3 h1 h2)
      clear h1 h2
      go_enter Try.func36, Try.ntmps36
      go_wp2
      go_ret
      exact ⟨ret_i H1.out, rfl⟩

/-- what a way down wants of the rungs and of the start -/
def Wires (zs : List Int) (s : Int) : Prop := ∃ W : Int, W ≤ 8 ∧ (∀ j, j < zs.length → 0 ≤ gi zs j ∧ gi zs j ≤ W - 2) ∧ 0 ≤ s ∧ s ≤ W - 1
theorem Wires.at {zs : List Int} {s : Int} (h : Wires zs s) {k : Nat} (hk : k ≤ zs.length) : 0 ≤ at_ zs s k ∧ at_ zs s k ≤ 7 := by
  obtain ⟨W, hW, hz, hs⟩ := h
  have := at_le hz hs k hk
  omega
theorem Wires.rung {zs : List Int} {s : Int} (h : Wires zs s) {k : Nat} (hk : k < zs.length) : 0 ≤ gi zs k ∧ gi zs k ≤ 6 := by
  obtain ⟨W, hW, hz, hs⟩ := h
  have := hz k hk
  omega
theorem Wires.of {W : Int} {zs : List Int} {s : Int} (h : wire W zs s = true) : Wires zs s :=
  ⟨W, by have := (lad_iff.1 (wire_iff.1 h).1).1; omega, fun _ hj => lad_at (wire_iff.1 h).1 hj, (wire_iff.1 h).2⟩

end Go.Proofs.Ytbgkhehopldilaa
namespace Go.Proofs.Ytbgkhehopldilaa
open Go Go.RowKit

theorem belStep' {w wr w2 : World} {A : Option Addr} {n c : Nat} {zs : List Int} {o : Obj} (HB : Hid (Below w.heap.size w wr)) (HO : OI wr w.heap.size A n c zs) (hg : (wr.alloc o).grownBy w2 (blk A)) : Below w.heap.size w w2 :=
  (belGrown (belAlloc HB o) (HO.alloc o) hg (Nat.le_refl _)).out

end Go.Proofs.Ytbgkhehopldilaa
namespace Go.Proofs.Ytbgkhehopldilaa
open Go Go.RowKit

def RetIB (n : Int) (b : Bool) (w : World) (e : Ending) (w' : World) : Prop := e = .returned (.tuple #[.int .i64 n, .bool b]) ∧ Below w.heap.size w w'
def FreshIB (w : World) (n : Nat) (zs : List Int) (b : Bool) (e : Ending) (w' : World) : Prop :=
  ∃ A c, e = .returned (.tuple #[.slice A n c, .bool b]) ∧ OI w' w.heap.size A n c zs ∧ Below w.heap.size w w'

theorem OI.some_ {w : World} {B : Nat} {A : Option Addr} {n c : Nat} {zs : List Int} (h : OI w B A (n + 1) c zs) :
    ∃ g, A = some ⟨g, 0, none⟩ ∧ B ≤ g ∧ g < w.heap.size ∧ ∀ j, j ≤ n → w.cell? ⟨g, j, none⟩ = some (.int .i64 (gi zs j)) := by
  rcases h.form with ⟨_, _, h0⟩ | ⟨g, cur, rfl, h1, h2, _⟩
  · omega
  · obtain ⟨b, off, e, _, hc⟩ := h.ri.cell (j := 0) (by omega)
    injection e with e; injection e with e1 e2 e3
    subst e1 e2
    exact ⟨g, rfl, h1, h2, fun j hj => by have := hc j (by omega); rwa [Nat.zero_add] at this⟩

/-- block b holds a ladder's number of wires and its rungs, whatever is told of them -/
theorem paramBox (w : World) (W : Int) (A : Option Addr) (n c : Nat) (t : TypeId) {zs : List Int} (h : RI w A n zs) : Hid (Box (w.alloc (.cells #[.int .i64 W, .slice A n c] t)) w.heap.size W A n c zs) := boxNew t h

end Go.Proofs.Ytbgkhehopldilaa
