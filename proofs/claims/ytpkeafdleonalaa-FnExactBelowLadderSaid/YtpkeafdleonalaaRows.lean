/-
  No cell of these rows narrows 'for every input' (looked for: loops, veiled, ifaces, maps, wideKeys, modest, calm, conditions, laid).
  DERIVED. THE GIVEN ROWS OF THIS SEAT. 6 by the template 'for every input the law returns true; each argument reads behind the call as it read before'; 0 by the template 'total and deterministic' (their statements: YtpkeafdleonalaaTotals.lean).
  GIVEN WITH THE SEED: the statements are not yours to turn. If you find one false, say at which input.
  Laid BY PROGRAM, IN A SANDBOX (cutbox-rows.mjs): the forced cells as the released guide's own fill.sh prints them over the translation 4e1ea23ac80e9759… (all of the seat's roots in one cut). By AI agents, Wed Nov 11 2026. No macro, syntax, notation, axiom, sorry.
-/
import Derived.Test.YtpkeafdleonalaaChecked
import GoSem.Claim
import GoSem.ClaimJoined
import GoSem.ClaimMapViews
import Derived.JoinedTies
import Derived.KernelRfl
namespace Go.Proofs.Ytpkeafdleonalaa
/- THE CELL 'sum', in the pinned program and in every row, IS THE sha256 OF THE DUMP (.gsa) THAT YtpkeafdleonalaaProg.lean LOADS. Nothing in Lean hashes anything: it is a label: what it is worth is what the hold of that sum in a sandbox is worth. -/
noncomputable def Try.pinned : Pinned := { name := "ytpkeafdleonalaa", sum := "4e1ea23ac80e9759d0d02f744b13e807b655221576b1e4f78c81d880b1e8dd51", checked := Try.checked }
namespace Rows
def none {H : Type} : Left H := { results := [], args := [] }

/-- 'laws.FnExactOrderTimes': WHATEVER THE INPUT: true; the input reads as it did. -/
def fnExactOrderTimesSpec : ChangeSpec := { name := "fnExactOrderTimes", fn := fun _ => fun
  | [d] => { results := [.lit (.bool true)], args := [d] }
  | _ => none }
def fnExactOrderTimesRow : OpenClaim := { program := "ytpkeafdleonalaa", sum := "4e1ea23ac80e9759d0d02f744b13e807b655221576b1e4f78c81d880b1e8dd51", func := "loop.example/g01209/laws.FnExactOrderTimes", spec := "fnExactOrderTimes", recurses := true, apart := false }
def FnExactOrderTimesSaid : Prop := fnExactOrderTimesRow.holds Try.pinned (OpenSpec.ofChange fnExactOrderTimesSpec)

/-- ITS FALSE NEIGHBOUR: 'it returns false'. Refute it at one input. -/
def fnExactOrderTimesWrong : ChangeSpec := { name := "fnExactOrderTimes", fn := fun _ => fun
  | [d] => { results := [.lit (.bool false)], args := [d] }
  | _ => none }
def FnExactOrderTimesWrongFalsely : Prop := fnExactOrderTimesRow.holds Try.pinned (OpenSpec.ofChange fnExactOrderTimesWrong)

/-- 'laws.FnExactBelowLadder': WHATEVER THE INPUT: true; the input reads as it did. -/
def fnExactBelowLadderSpec : ChangeSpec := { name := "fnExactBelowLadder", fn := fun _ => fun
  | [d1, d2] => { results := [.lit (.bool true)], args := [d1, d2] }
  | _ => none }
def fnExactBelowLadderRow : OpenClaim := { program := "ytpkeafdleonalaa", sum := "4e1ea23ac80e9759d0d02f744b13e807b655221576b1e4f78c81d880b1e8dd51", func := "loop.example/g01209/laws.FnExactBelowLadder", spec := "fnExactBelowLadder", apart := false }
def FnExactBelowLadderSaid : Prop := fnExactBelowLadderRow.holds Try.pinned (OpenSpec.ofChange fnExactBelowLadderSpec)

/-- ITS FALSE NEIGHBOUR: 'it returns false'. Refute it at one input. -/
def fnExactBelowLadderWrong : ChangeSpec := { name := "fnExactBelowLadder", fn := fun _ => fun
  | [d1, d2] => { results := [.lit (.bool false)], args := [d1, d2] }
  | _ => none }
def FnExactBelowLadderWrongFalsely : Prop := fnExactBelowLadderRow.holds Try.pinned (OpenSpec.ofChange fnExactBelowLadderWrong)

/-- 'laws.FnExactAddRung': WHATEVER THE INPUT: true; the input reads as it did. -/
def fnExactAddRungSpec : ChangeSpec := { name := "fnExactAddRung", fn := fun _ => fun
  | [d1, d2, d3] => { results := [.lit (.bool true)], args := [d1, d2, d3] }
  | _ => none }
def fnExactAddRungRow : OpenClaim := { program := "ytpkeafdleonalaa", sum := "4e1ea23ac80e9759d0d02f744b13e807b655221576b1e4f78c81d880b1e8dd51", func := "loop.example/g01209/laws.FnExactAddRung", spec := "fnExactAddRung", apart := false }
def FnExactAddRungSaid : Prop := fnExactAddRungRow.holds Try.pinned (OpenSpec.ofChange fnExactAddRungSpec)

/-- ITS FALSE NEIGHBOUR: 'it returns false'. Refute it at one input. -/
def fnExactAddRungWrong : ChangeSpec := { name := "fnExactAddRung", fn := fun _ => fun
  | [d1, d2, d3] => { results := [.lit (.bool false)], args := [d1, d2, d3] }
  | _ => none }
def FnExactAddRungWrongFalsely : Prop := fnExactAddRungRow.holds Try.pinned (OpenSpec.ofChange fnExactAddRungWrong)

/-- 'laws.FnExactRepeatLadder': WHATEVER THE INPUT: true; the input reads as it did. -/
def fnExactRepeatLadderSpec : ChangeSpec := { name := "fnExactRepeatLadder", fn := fun _ => fun
  | [d1, d2] => { results := [.lit (.bool true)], args := [d1, d2] }
  | _ => none }
def fnExactRepeatLadderRow : OpenClaim := { program := "ytpkeafdleonalaa", sum := "4e1ea23ac80e9759d0d02f744b13e807b655221576b1e4f78c81d880b1e8dd51", func := "loop.example/g01209/laws.FnExactRepeatLadder", spec := "fnExactRepeatLadder", apart := false }
def FnExactRepeatLadderSaid : Prop := fnExactRepeatLadderRow.holds Try.pinned (OpenSpec.ofChange fnExactRepeatLadderSpec)

/-- ITS FALSE NEIGHBOUR: 'it returns false'. Refute it at one input. -/
def fnExactRepeatLadderWrong : ChangeSpec := { name := "fnExactRepeatLadder", fn := fun _ => fun
  | [d1, d2] => { results := [.lit (.bool false)], args := [d1, d2] }
  | _ => none }
def FnExactRepeatLadderWrongFalsely : Prop := fnExactRepeatLadderRow.holds Try.pinned (OpenSpec.ofChange fnExactRepeatLadderWrong)

/-- 'laws.FnExactSignOf': WHATEVER THE INPUT: true; the input reads as it did. -/
def fnExactSignOfSpec : ChangeSpec := { name := "fnExactSignOf", fn := fun _ => fun
  | [d] => { results := [.lit (.bool true)], args := [d] }
  | _ => none }
def fnExactSignOfRow : OpenClaim := { program := "ytpkeafdleonalaa", sum := "4e1ea23ac80e9759d0d02f744b13e807b655221576b1e4f78c81d880b1e8dd51", func := "loop.example/g01209/laws.FnExactSignOf", spec := "fnExactSignOf", recurses := true, apart := false }
def FnExactSignOfSaid : Prop := fnExactSignOfRow.holds Try.pinned (OpenSpec.ofChange fnExactSignOfSpec)

/-- ITS FALSE NEIGHBOUR: 'it returns false'. Refute it at one input. -/
def fnExactSignOfWrong : ChangeSpec := { name := "fnExactSignOf", fn := fun _ => fun
  | [d] => { results := [.lit (.bool false)], args := [d] }
  | _ => none }
def FnExactSignOfWrongFalsely : Prop := fnExactSignOfRow.holds Try.pinned (OpenSpec.ofChange fnExactSignOfWrong)

/-- 'laws.FnExactCyclesOf': WHATEVER THE INPUT: true; the input reads as it did. -/
def fnExactCyclesOfSpec : ChangeSpec := { name := "fnExactCyclesOf", fn := fun _ => fun
  | [d] => { results := [.lit (.bool true)], args := [d] }
  | _ => none }
def fnExactCyclesOfRow : OpenClaim := { program := "ytpkeafdleonalaa", sum := "4e1ea23ac80e9759d0d02f744b13e807b655221576b1e4f78c81d880b1e8dd51", func := "loop.example/g01209/laws.FnExactCyclesOf", spec := "fnExactCyclesOf", recurses := true, apart := false }
def FnExactCyclesOfSaid : Prop := fnExactCyclesOfRow.holds Try.pinned (OpenSpec.ofChange fnExactCyclesOfSpec)

/-- ITS FALSE NEIGHBOUR: 'it returns false'. Refute it at one input. -/
def fnExactCyclesOfWrong : ChangeSpec := { name := "fnExactCyclesOf", fn := fun _ => fun
  | [d] => { results := [.lit (.bool false)], args := [d] }
  | _ => none }
def FnExactCyclesOfWrongFalsely : Prop := fnExactCyclesOfRow.holds Try.pinned (OpenSpec.ofChange fnExactCyclesOfWrong)

/- THE SECOND FORM. 'bulk': how many values and letters a reading holds, each counted each time it is reached (what is shared counts as often as it is met; a slice's spare places count too). A statement '..UptoSaid' is the law's where the arguments, and the package variables that the reading takes, are together of bulk at most 1048576: NARROWER than '..Said'. Prove '..Said' where nothing that the law and all that it calls make is longer than what came in: it says more and counts as full. Else prove '..UptoSaid'. A law counts once. -/
mutual
def uptoBulk {H : Type} : DataW H → Nat
  | .lit (.string bytes) => bytes.length + 1
  | .lit _ => 1
  | .nil => 1
  | .ptr d => uptoBulk d + 1
  | .slice elems spare => uptoBulkAll elems + uptoBulkAll spare + 1
  | .agg parts => uptoBulkAll parts + 1
  | .iface _ d => uptoBulk d + 1
  | .map entries => uptoBulkEntries entries + 1
  | .held _ => 1
def uptoBulkAll {H : Type} : List (DataW H) → Nat
  | [] => 0
  | d :: r => uptoBulk d + uptoBulkAll r
def uptoBulkEntries {H : Type} : List (Lit × DataW H) → Nat
  | [] => 0
  | x :: r => uptoBulkEntry x + uptoBulkEntries r
def uptoBulkEntry {H : Type} : Lit × DataW H → Nat
  | (.string bytes, d) => bytes.length + uptoBulk d + 1
  | (_, d) => uptoBulk d + 1
 end
def uptoSmall : (H : Type) → List (DataW H) → Bool := fun _ ds => decide (uptoBulkAll ds ≤ 1048576)
def OpenSpec.upto (s : _root_.Go.ChangeSpec) : _root_.Go.OpenSpec := { _root_.Go.OpenSpec.ofChange s with cond := some uptoSmall }

/-- 'laws.FnExactOrderTimes', WHERE WHAT IT READS IS OF BULK AT MOST 1048576: true; the input reads as it did. -/
def fnExactOrderTimesUptoRow : OpenClaim := { program := "ytpkeafdleonalaa", sum := "4e1ea23ac80e9759d0d02f744b13e807b655221576b1e4f78c81d880b1e8dd51", func := "loop.example/g01209/laws.FnExactOrderTimes", spec := "fnExactOrderTimes", recurses := true, apart := false, narrowed := true }
def FnExactOrderTimesUptoSaid : Prop := fnExactOrderTimesUptoRow.holds Try.pinned (OpenSpec.upto fnExactOrderTimesSpec)

/-- 'laws.FnExactBelowLadder', WHERE WHAT IT READS IS OF BULK AT MOST 1048576: true; the input reads as it did. -/
def fnExactBelowLadderUptoRow : OpenClaim := { program := "ytpkeafdleonalaa", sum := "4e1ea23ac80e9759d0d02f744b13e807b655221576b1e4f78c81d880b1e8dd51", func := "loop.example/g01209/laws.FnExactBelowLadder", spec := "fnExactBelowLadder", apart := false, narrowed := true }
def FnExactBelowLadderUptoSaid : Prop := fnExactBelowLadderUptoRow.holds Try.pinned (OpenSpec.upto fnExactBelowLadderSpec)

/-- 'laws.FnExactAddRung', WHERE WHAT IT READS IS OF BULK AT MOST 1048576: true; the input reads as it did. -/
def fnExactAddRungUptoRow : OpenClaim := { program := "ytpkeafdleonalaa", sum := "4e1ea23ac80e9759d0d02f744b13e807b655221576b1e4f78c81d880b1e8dd51", func := "loop.example/g01209/laws.FnExactAddRung", spec := "fnExactAddRung", apart := false, narrowed := true }
def FnExactAddRungUptoSaid : Prop := fnExactAddRungUptoRow.holds Try.pinned (OpenSpec.upto fnExactAddRungSpec)

/-- 'laws.FnExactRepeatLadder', WHERE WHAT IT READS IS OF BULK AT MOST 1048576: true; the input reads as it did. -/
def fnExactRepeatLadderUptoRow : OpenClaim := { program := "ytpkeafdleonalaa", sum := "4e1ea23ac80e9759d0d02f744b13e807b655221576b1e4f78c81d880b1e8dd51", func := "loop.example/g01209/laws.FnExactRepeatLadder", spec := "fnExactRepeatLadder", apart := false, narrowed := true }
def FnExactRepeatLadderUptoSaid : Prop := fnExactRepeatLadderUptoRow.holds Try.pinned (OpenSpec.upto fnExactRepeatLadderSpec)

/-- 'laws.FnExactSignOf', WHERE WHAT IT READS IS OF BULK AT MOST 1048576: true; the input reads as it did. -/
def fnExactSignOfUptoRow : OpenClaim := { program := "ytpkeafdleonalaa", sum := "4e1ea23ac80e9759d0d02f744b13e807b655221576b1e4f78c81d880b1e8dd51", func := "loop.example/g01209/laws.FnExactSignOf", spec := "fnExactSignOf", recurses := true, apart := false, narrowed := true }
def FnExactSignOfUptoSaid : Prop := fnExactSignOfUptoRow.holds Try.pinned (OpenSpec.upto fnExactSignOfSpec)

/-- 'laws.FnExactCyclesOf', WHERE WHAT IT READS IS OF BULK AT MOST 1048576: true; the input reads as it did. -/
def fnExactCyclesOfUptoRow : OpenClaim := { program := "ytpkeafdleonalaa", sum := "4e1ea23ac80e9759d0d02f744b13e807b655221576b1e4f78c81d880b1e8dd51", func := "loop.example/g01209/laws.FnExactCyclesOf", spec := "fnExactCyclesOf", recurses := true, apart := false, narrowed := true }
def FnExactCyclesOfUptoSaid : Prop := fnExactCyclesOfUptoRow.holds Try.pinned (OpenSpec.upto fnExactCyclesOfSpec)

end Rows
end Go.Proofs.Ytpkeafdleonalaa
