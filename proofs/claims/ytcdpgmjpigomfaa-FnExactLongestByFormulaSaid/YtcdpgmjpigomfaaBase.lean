/- The contracts of the functions by which the laws copy, compare, mark and look at their arguments. -/
import Derived.Test.YtcdpgmjpigomfaaProg
import Derived.Test.YtcdpgmjpigomfaaWords
import Derived.Outline
import Derived.KernelRfl
import Derived.BigQuiet
import Derived.Deep.QuietTactic
namespace Go.Proofs.Ytcdpgmjpigomfaa
open Go Go.RowKit

theorem infoInt : (Try.prog.info? 3).map (fun i => (i.zero, i.size, i.bytes)) = some (some (.int .i64 0), 1, 8) := by kernel_rfl

/-- a new slice of the call's own that reads as zs -/
def FreshI (w : World) (n : Nat) (zs : List Int) (e : Ending) (w' : World) : Prop :=
  ∃ A c, e = .returned (.slice A n c) ∧ OI w' w.heap.size A n c zs ∧ Below w.heap.size w w'

/-- a bool, and nothing that was there has turned -/
def RetB (b : Bool) (w : World) (e : Ending) (w' : World) : Prop := e = .returned (.bool b) ∧ Below w.heap.size w w'
/-- an int, and nothing that was there has turned -/
def RetI (n : Int) (w : World) (e : Ending) (w' : World) : Prop := e = .returned (.int .i64 n) ∧ Below w.heap.size w w'

theorem ret_b {a b : Bool} (h : a = b) : Ending.returned (.bool a) = .returned (.bool b) := by rw [h]
theorem ret_i {k : IntKind} {a b : Int} (h : a = b) : Ending.returned (.int k a) = .returned (.int k b) := by rw [h]

def eqB (zs ys : List Int) : Bool := decide (zs = ys)

theorem eqB_true {zs ys : List Int} (hl : zs.length = ys.length) (h : ∀ j, j < zs.length → gi zs j = gi ys j) : eqB zs ys = true := by
  unfold eqB
  rw [decide_eq_true_iff]
  apply List.ext_getElem hl
  intro j h1 h2
  rw [← gi_lt h1, ← gi_lt h2, h j h1]

theorem eqB_len {zs ys : List Int} (hl : zs.length ≠ ys.length) : eqB zs ys = false := by
  unfold eqB
  rw [decide_eq_false_iff_not]
  intro e; exact hl (by rw [e])

theorem eqB_at {zs ys : List Int} {j : Nat} (h : gi zs j ≠ gi ys j) : eqB zs ys = false := by
  unfold eqB
  rw [decide_eq_false_iff_not]
  intro e; exact h (by rw [e])

/-- the row holds k, k + 1, .. ; no other block has turned -/
def Marked (w : World) (B : Nat) (A : Option Addr) (n c : Nat) (k : Int) (e : Ending) (w' : World) : Prop :=
  e = .returned (.int .i64 (k + n)) ∧ OI w' B A n c (marks k n) ∧ w.grownBy w' (blk A)

def MarkRel (w : World) (B : Nat) (A : Option Addr) (n c : Nat) (k : Int) (i : Nat) (wr : World) : Prop :=
  (∃ ys, OI wr B A n c ys ∧ ∀ j, j < i → gi ys j = k + j) ∧ w.grownBy wr (blk A)

end Go.Proofs.Ytcdpgmjpigomfaa
