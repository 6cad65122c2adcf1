/-
  No cell of these rows narrows 'for every input' (looked for: loops, veiled, ifaces, maps, wideKeys, modest, calm, conditions, laid).
  DERIVED. THE GIVEN ROWS OF THIS SEAT. 18 by the template 'for every input the law returns true; each argument reads behind the call as it read before'; 0 by the template 'total and deterministic' (their statements: YtioekhjokbbmlaaTotals.lean).
  GIVEN WITH THE SEED: the statements are not yours to turn. If you find one false, say at which input.
  Laid BY PROGRAM, IN A SANDBOX (cutbox-rows.mjs): the forced cells as the released guide's own fill.sh prints them over the translation 2172468368285525… (all of the seat's roots in one cut). By AI agents, Wed Nov 11 2026. No macro, syntax, notation, axiom, sorry.
-/
import Derived.Test.YtioekhjokbbmlaaChecked
import GoSem.Claim
import GoSem.ClaimJoined
import GoSem.ClaimMapViews
import Derived.JoinedTies
import Derived.KernelRfl
namespace Go.Proofs.Ytioekhjokbbmlaa
/- THE CELL 'sum', in the pinned program and in every row, IS THE sha256 OF THE DUMP (.gsa) THAT YtioekhjokbbmlaaProg.lean LOADS. Nothing in Lean hashes anything: it is a label: what it is worth is what the hold of that sum in a sandbox is worth. -/
noncomputable def Try.pinned : Pinned := { name := "ytioekhjokbbmlaa", sum := "217246836828552517b664c48b1a4cbcf248f3c827a2a0475918323c040b0661", checked := Try.checked }
namespace Rows
def none {H : Type} : Left H := { results := [], args := [] }

/-- 'laws.FnExactIsLadder': WHATEVER THE INPUT: true; the input reads as it did. -/
def fnExactIsLadderSpec : ChangeSpec := { name := "fnExactIsLadder", fn := fun _ => fun
  | [d] => { results := [.lit (.bool true)], args := [d] }
  | _ => none }
def fnExactIsLadderRow : OpenClaim := { program := "ytioekhjokbbmlaa", sum := "217246836828552517b664c48b1a4cbcf248f3c827a2a0475918323c040b0661", func := "loop.example/g01209/laws.FnExactIsLadder", spec := "fnExactIsLadder", apart := false }
def FnExactIsLadderSaid : Prop := fnExactIsLadderRow.holds Try.pinned (OpenSpec.ofChange fnExactIsLadderSpec)

/-- ITS FALSE NEIGHBOUR: 'it returns false'. Refute it at one input. -/
def fnExactIsLadderWrong : ChangeSpec := { name := "fnExactIsLadder", fn := fun _ => fun
  | [d] => { results := [.lit (.bool false)], args := [d] }
  | _ => none }
def FnExactIsLadderWrongFalsely : Prop := fnExactIsLadderRow.holds Try.pinned (OpenSpec.ofChange fnExactIsLadderWrong)

/-- 'laws.FnExactEndOf': WHATEVER THE INPUT: true; the input reads as it did. -/
def fnExactEndOfSpec : ChangeSpec := { name := "fnExactEndOf", fn := fun _ => fun
  | [d1, d2] => { results := [.lit (.bool true)], args := [d1, d2] }
  | _ => none }
def fnExactEndOfRow : OpenClaim := { program := "ytioekhjokbbmlaa", sum := "217246836828552517b664c48b1a4cbcf248f3c827a2a0475918323c040b0661", func := "loop.example/g01209/laws.FnExactEndOf", spec := "fnExactEndOf", apart := false }
def FnExactEndOfSaid : Prop := fnExactEndOfRow.holds Try.pinned (OpenSpec.ofChange fnExactEndOfSpec)

/-- ITS FALSE NEIGHBOUR: 'it returns false'. Refute it at one input. -/
def fnExactEndOfWrong : ChangeSpec := { name := "fnExactEndOf", fn := fun _ => fun
  | [d1, d2] => { results := [.lit (.bool false)], args := [d1, d2] }
  | _ => none }
def FnExactEndOfWrongFalsely : Prop := fnExactEndOfRow.holds Try.pinned (OpenSpec.ofChange fnExactEndOfWrong)

/-- 'laws.FnExactWayDown': WHATEVER THE INPUT: true; the input reads as it did. -/
def fnExactWayDownSpec : ChangeSpec := { name := "fnExactWayDown", fn := fun _ => fun
  | [d1, d2] => { results := [.lit (.bool true)], args := [d1, d2] }
  | _ => none }
def fnExactWayDownRow : OpenClaim := { program := "ytioekhjokbbmlaa", sum := "217246836828552517b664c48b1a4cbcf248f3c827a2a0475918323c040b0661", func := "loop.example/g01209/laws.FnExactWayDown", spec := "fnExactWayDown", apart := false }
def FnExactWayDownSaid : Prop := fnExactWayDownRow.holds Try.pinned (OpenSpec.ofChange fnExactWayDownSpec)

/-- ITS FALSE NEIGHBOUR: 'it returns false'. Refute it at one input. -/
def fnExactWayDownWrong : ChangeSpec := { name := "fnExactWayDown", fn := fun _ => fun
  | [d1, d2] => { results := [.lit (.bool false)], args := [d1, d2] }
  | _ => none }
def FnExactWayDownWrongFalsely : Prop := fnExactWayDownRow.holds Try.pinned (OpenSpec.ofChange fnExactWayDownWrong)

/-- 'laws.FnExactResultOf': WHATEVER THE INPUT: true; the input reads as it did. -/
def fnExactResultOfSpec : ChangeSpec := { name := "fnExactResultOf", fn := fun _ => fun
  | [d] => { results := [.lit (.bool true)], args := [d] }
  | _ => none }
def fnExactResultOfRow : OpenClaim := { program := "ytioekhjokbbmlaa", sum := "217246836828552517b664c48b1a4cbcf248f3c827a2a0475918323c040b0661", func := "loop.example/g01209/laws.FnExactResultOf", spec := "fnExactResultOf", apart := false }
def FnExactResultOfSaid : Prop := fnExactResultOfRow.holds Try.pinned (OpenSpec.ofChange fnExactResultOfSpec)

/-- ITS FALSE NEIGHBOUR: 'it returns false'. Refute it at one input. -/
def fnExactResultOfWrong : ChangeSpec := { name := "fnExactResultOf", fn := fun _ => fun
  | [d] => { results := [.lit (.bool false)], args := [d] }
  | _ => none }
def FnExactResultOfWrongFalsely : Prop := fnExactResultOfRow.holds Try.pinned (OpenSpec.ofChange fnExactResultOfWrong)

/-- 'laws.FnExactRungsUsed': WHATEVER THE INPUT: true; the input reads as it did. -/
def fnExactRungsUsedSpec : ChangeSpec := { name := "fnExactRungsUsed", fn := fun _ => fun
  | [d1, d2] => { results := [.lit (.bool true)], args := [d1, d2] }
  | _ => none }
def fnExactRungsUsedRow : OpenClaim := { program := "ytioekhjokbbmlaa", sum := "217246836828552517b664c48b1a4cbcf248f3c827a2a0475918323c040b0661", func := "loop.example/g01209/laws.FnExactRungsUsed", spec := "fnExactRungsUsed", apart := false }
def FnExactRungsUsedSaid : Prop := fnExactRungsUsedRow.holds Try.pinned (OpenSpec.ofChange fnExactRungsUsedSpec)

/-- ITS FALSE NEIGHBOUR: 'it returns false'. Refute it at one input. -/
def fnExactRungsUsedWrong : ChangeSpec := { name := "fnExactRungsUsed", fn := fun _ => fun
  | [d1, d2] => { results := [.lit (.bool false)], args := [d1, d2] }
  | _ => none }
def FnExactRungsUsedWrongFalsely : Prop := fnExactRungsUsedRow.holds Try.pinned (OpenSpec.ofChange fnExactRungsUsedWrong)

/-- 'laws.FnExactMeetingsOf': WHATEVER THE INPUT: true; the input reads as it did. -/
def fnExactMeetingsOfSpec : ChangeSpec := { name := "fnExactMeetingsOf", fn := fun _ => fun
  | [d1, d2, d3] => { results := [.lit (.bool true)], args := [d1, d2, d3] }
  | _ => none }
def fnExactMeetingsOfRow : OpenClaim := { program := "ytioekhjokbbmlaa", sum := "217246836828552517b664c48b1a4cbcf248f3c827a2a0475918323c040b0661", func := "loop.example/g01209/laws.FnExactMeetingsOf", spec := "fnExactMeetingsOf", apart := false }
def FnExactMeetingsOfSaid : Prop := fnExactMeetingsOfRow.holds Try.pinned (OpenSpec.ofChange fnExactMeetingsOfSpec)

/-- ITS FALSE NEIGHBOUR: 'it returns false'. Refute it at one input. -/
def fnExactMeetingsOfWrong : ChangeSpec := { name := "fnExactMeetingsOf", fn := fun _ => fun
  | [d1, d2, d3] => { results := [.lit (.bool false)], args := [d1, d2, d3] }
  | _ => none }
def FnExactMeetingsOfWrongFalsely : Prop := fnExactMeetingsOfRow.holds Try.pinned (OpenSpec.ofChange fnExactMeetingsOfWrong)

/-- 'laws.FnExactIsOrder': WHATEVER THE INPUT: true; the input reads as it did. -/
def fnExactIsOrderSpec : ChangeSpec := { name := "fnExactIsOrder", fn := fun _ => fun
  | [d] => { results := [.lit (.bool true)], args := [d] }
  | _ => none }
def fnExactIsOrderRow : OpenClaim := { program := "ytioekhjokbbmlaa", sum := "217246836828552517b664c48b1a4cbcf248f3c827a2a0475918323c040b0661", func := "loop.example/g01209/laws.FnExactIsOrder", spec := "fnExactIsOrder", recurses := true, apart := false }
def FnExactIsOrderSaid : Prop := fnExactIsOrderRow.holds Try.pinned (OpenSpec.ofChange fnExactIsOrderSpec)

/-- ITS FALSE NEIGHBOUR: 'it returns false'. Refute it at one input. -/
def fnExactIsOrderWrong : ChangeSpec := { name := "fnExactIsOrder", fn := fun _ => fun
  | [d] => { results := [.lit (.bool false)], args := [d] }
  | _ => none }
def FnExactIsOrderWrongFalsely : Prop := fnExactIsOrderRow.holds Try.pinned (OpenSpec.ofChange fnExactIsOrderWrong)

/-- 'laws.FnExactThenOrder': WHATEVER THE INPUT: true; the input reads as it did. -/
def fnExactThenOrderSpec : ChangeSpec := { name := "fnExactThenOrder", fn := fun _ => fun
  | [d1, d2] => { results := [.lit (.bool true)], args := [d1, d2] }
  | _ => none }
def fnExactThenOrderRow : OpenClaim := { program := "ytioekhjokbbmlaa", sum := "217246836828552517b664c48b1a4cbcf248f3c827a2a0475918323c040b0661", func := "loop.example/g01209/laws.FnExactThenOrder", spec := "fnExactThenOrder", recurses := true, apart := false }
def FnExactThenOrderSaid : Prop := fnExactThenOrderRow.holds Try.pinned (OpenSpec.ofChange fnExactThenOrderSpec)

/-- ITS FALSE NEIGHBOUR: 'it returns false'. Refute it at one input. -/
def fnExactThenOrderWrong : ChangeSpec := { name := "fnExactThenOrder", fn := fun _ => fun
  | [d1, d2] => { results := [.lit (.bool false)], args := [d1, d2] }
  | _ => none }
def FnExactThenOrderWrongFalsely : Prop := fnExactThenOrderRow.holds Try.pinned (OpenSpec.ofChange fnExactThenOrderWrong)

/-- 'laws.FnExactBackOrder': WHATEVER THE INPUT: true; the input reads as it did. -/
def fnExactBackOrderSpec : ChangeSpec := { name := "fnExactBackOrder", fn := fun _ => fun
  | [d] => { results := [.lit (.bool true)], args := [d] }
  | _ => none }
def fnExactBackOrderRow : OpenClaim := { program := "ytioekhjokbbmlaa", sum := "217246836828552517b664c48b1a4cbcf248f3c827a2a0475918323c040b0661", func := "loop.example/g01209/laws.FnExactBackOrder", spec := "fnExactBackOrder", recurses := true, apart := false }
def FnExactBackOrderSaid : Prop := fnExactBackOrderRow.holds Try.pinned (OpenSpec.ofChange fnExactBackOrderSpec)

/-- ITS FALSE NEIGHBOUR: 'it returns false'. Refute it at one input. -/
def fnExactBackOrderWrong : ChangeSpec := { name := "fnExactBackOrder", fn := fun _ => fun
  | [d] => { results := [.lit (.bool false)], args := [d] }
  | _ => none }
def FnExactBackOrderWrongFalsely : Prop := fnExactBackOrderRow.holds Try.pinned (OpenSpec.ofChange fnExactBackOrderWrong)

/-- 'laws.FnExactOrderTimes': WHATEVER THE INPUT: true; the input reads as it did. -/
def fnExactOrderTimesSpec : ChangeSpec := { name := "fnExactOrderTimes", fn := fun _ => fun
  | [d] => { results := [.lit (.bool true)], args := [d] }
  | _ => none }
def fnExactOrderTimesRow : OpenClaim := { program := "ytioekhjokbbmlaa", sum := "217246836828552517b664c48b1a4cbcf248f3c827a2a0475918323c040b0661", func := "loop.example/g01209/laws.FnExactOrderTimes", spec := "fnExactOrderTimes", recurses := true, apart := false }
def FnExactOrderTimesSaid : Prop := fnExactOrderTimesRow.holds Try.pinned (OpenSpec.ofChange fnExactOrderTimesSpec)

/-- ITS FALSE NEIGHBOUR: 'it returns false'. Refute it at one input. -/
def fnExactOrderTimesWrong : ChangeSpec := { name := "fnExactOrderTimes", fn := fun _ => fun
  | [d] => { results := [.lit (.bool false)], args := [d] }
  | _ => none }
def FnExactOrderTimesWrongFalsely : Prop := fnExactOrderTimesRow.holds Try.pinned (OpenSpec.ofChange fnExactOrderTimesWrong)

/-- 'laws.FnExactBelowLadder': WHATEVER THE INPUT: true; the input reads as it did. -/
def fnExactBelowLadderSpec : ChangeSpec := { name := "fnExactBelowLadder", fn := fun _ => fun
  | [d1, d2] => { results := [.lit (.bool true)], args := [d1, d2] }
  | _ => none }
def fnExactBelowLadderRow : OpenClaim := { program := "ytioekhjokbbmlaa", sum := "217246836828552517b664c48b1a4cbcf248f3c827a2a0475918323c040b0661", func := "loop.example/g01209/laws.FnExactBelowLadder", spec := "fnExactBelowLadder", apart := false }
def FnExactBelowLadderSaid : Prop := fnExactBelowLadderRow.holds Try.pinned (OpenSpec.ofChange fnExactBelowLadderSpec)

/-- ITS FALSE NEIGHBOUR: 'it returns false'. Refute it at one input. -/
def fnExactBelowLadderWrong : ChangeSpec := { name := "fnExactBelowLadder", fn := fun _ => fun
  | [d1, d2] => { results := [.lit (.bool false)], args := [d1, d2] }
  | _ => none }
def FnExactBelowLadderWrongFalsely : Prop := fnExactBelowLadderRow.holds Try.pinned (OpenSpec.ofChange fnExactBelowLadderWrong)

/-- 'laws.FnExactTurnLadder': WHATEVER THE INPUT: true; the input reads as it did. -/
def fnExactTurnLadderSpec : ChangeSpec := { name := "fnExactTurnLadder", fn := fun _ => fun
  | [d] => { results := [.lit (.bool true)], args := [d] }
  | _ => none }
def fnExactTurnLadderRow : OpenClaim := { program := "ytioekhjokbbmlaa", sum := "217246836828552517b664c48b1a4cbcf248f3c827a2a0475918323c040b0661", func := "loop.example/g01209/laws.FnExactTurnLadder", spec := "fnExactTurnLadder", apart := false }
def FnExactTurnLadderSaid : Prop := fnExactTurnLadderRow.holds Try.pinned (OpenSpec.ofChange fnExactTurnLadderSpec)

/-- ITS FALSE NEIGHBOUR: 'it returns false'. Refute it at one input. -/
def fnExactTurnLadderWrong : ChangeSpec := { name := "fnExactTurnLadder", fn := fun _ => fun
  | [d] => { results := [.lit (.bool false)], args := [d] }
  | _ => none }
def FnExactTurnLadderWrongFalsely : Prop := fnExactTurnLadderRow.holds Try.pinned (OpenSpec.ofChange fnExactTurnLadderWrong)

/-- 'laws.FnExactMirrorLadder': WHATEVER THE INPUT: true; the input reads as it did. -/
def fnExactMirrorLadderSpec : ChangeSpec := { name := "fnExactMirrorLadder", fn := fun _ => fun
  | [d] => { results := [.lit (.bool true)], args := [d] }
  | _ => none }
def fnExactMirrorLadderRow : OpenClaim := { program := "ytioekhjokbbmlaa", sum := "217246836828552517b664c48b1a4cbcf248f3c827a2a0475918323c040b0661", func := "loop.example/g01209/laws.FnExactMirrorLadder", spec := "fnExactMirrorLadder", apart := false }
def FnExactMirrorLadderSaid : Prop := fnExactMirrorLadderRow.holds Try.pinned (OpenSpec.ofChange fnExactMirrorLadderSpec)

/-- ITS FALSE NEIGHBOUR: 'it returns false'. Refute it at one input. -/
def fnExactMirrorLadderWrong : ChangeSpec := { name := "fnExactMirrorLadder", fn := fun _ => fun
  | [d] => { results := [.lit (.bool false)], args := [d] }
  | _ => none }
def FnExactMirrorLadderWrongFalsely : Prop := fnExactMirrorLadderRow.holds Try.pinned (OpenSpec.ofChange fnExactMirrorLadderWrong)

/-- 'laws.FnExactAddRung': WHATEVER THE INPUT: true; the input reads as it did. -/
def fnExactAddRungSpec : ChangeSpec := { name := "fnExactAddRung", fn := fun _ => fun
  | [d1, d2, d3] => { results := [.lit (.bool true)], args := [d1, d2, d3] }
  | _ => none }
def fnExactAddRungRow : OpenClaim := { program := "ytioekhjokbbmlaa", sum := "217246836828552517b664c48b1a4cbcf248f3c827a2a0475918323c040b0661", func := "loop.example/g01209/laws.FnExactAddRung", spec := "fnExactAddRung", apart := false }
def FnExactAddRungSaid : Prop := fnExactAddRungRow.holds Try.pinned (OpenSpec.ofChange fnExactAddRungSpec)

/-- ITS FALSE NEIGHBOUR: 'it returns false'. Refute it at one input. -/
def fnExactAddRungWrong : ChangeSpec := { name := "fnExactAddRung", fn := fun _ => fun
  | [d1, d2, d3] => { results := [.lit (.bool false)], args := [d1, d2, d3] }
  | _ => none }
def FnExactAddRungWrongFalsely : Prop := fnExactAddRungRow.holds Try.pinned (OpenSpec.ofChange fnExactAddRungWrong)

/-- 'laws.FnExactTakeRung': WHATEVER THE INPUT: true; the input reads as it did. -/
def fnExactTakeRungSpec : ChangeSpec := { name := "fnExactTakeRung", fn := fun _ => fun
  | [d1, d2] => { results := [.lit (.bool true)], args := [d1, d2] }
  | _ => none }
def fnExactTakeRungRow : OpenClaim := { program := "ytioekhjokbbmlaa", sum := "217246836828552517b664c48b1a4cbcf248f3c827a2a0475918323c040b0661", func := "loop.example/g01209/laws.FnExactTakeRung", spec := "fnExactTakeRung", apart := false }
def FnExactTakeRungSaid : Prop := fnExactTakeRungRow.holds Try.pinned (OpenSpec.ofChange fnExactTakeRungSpec)

/-- ITS FALSE NEIGHBOUR: 'it returns false'. Refute it at one input. -/
def fnExactTakeRungWrong : ChangeSpec := { name := "fnExactTakeRung", fn := fun _ => fun
  | [d1, d2] => { results := [.lit (.bool false)], args := [d1, d2] }
  | _ => none }
def FnExactTakeRungWrongFalsely : Prop := fnExactTakeRungRow.holds Try.pinned (OpenSpec.ofChange fnExactTakeRungWrong)

/-- 'laws.FnExactRepeatLadder': WHATEVER THE INPUT: true; the input reads as it did. -/
def fnExactRepeatLadderSpec : ChangeSpec := { name := "fnExactRepeatLadder", fn := fun _ => fun
  | [d1, d2] => { results := [.lit (.bool true)], args := [d1, d2] }
  | _ => none }
def fnExactRepeatLadderRow : OpenClaim := { program := "ytioekhjokbbmlaa", sum := "217246836828552517b664c48b1a4cbcf248f3c827a2a0475918323c040b0661", func := "loop.example/g01209/laws.FnExactRepeatLadder", spec := "fnExactRepeatLadder", apart := false }
def FnExactRepeatLadderSaid : Prop := fnExactRepeatLadderRow.holds Try.pinned (OpenSpec.ofChange fnExactRepeatLadderSpec)

/-- ITS FALSE NEIGHBOUR: 'it returns false'. Refute it at one input. -/
def fnExactRepeatLadderWrong : ChangeSpec := { name := "fnExactRepeatLadder", fn := fun _ => fun
  | [d1, d2] => { results := [.lit (.bool false)], args := [d1, d2] }
  | _ => none }
def FnExactRepeatLadderWrongFalsely : Prop := fnExactRepeatLadderRow.holds Try.pinned (OpenSpec.ofChange fnExactRepeatLadderWrong)

/-- 'laws.FnExactSignOf': WHATEVER THE INPUT: true; the input reads as it did. -/
def fnExactSignOfSpec : ChangeSpec := { name := "fnExactSignOf", fn := fun _ => fun
  | [d] => { results := [.lit (.bool true)], args := [d] }
  | _ => none }
def fnExactSignOfRow : OpenClaim := { program := "ytioekhjokbbmlaa", sum := "217246836828552517b664c48b1a4cbcf248f3c827a2a0475918323c040b0661", func := "loop.example/g01209/laws.FnExactSignOf", spec := "fnExactSignOf", recurses := true, apart := false }
def FnExactSignOfSaid : Prop := fnExactSignOfRow.holds Try.pinned (OpenSpec.ofChange fnExactSignOfSpec)

/-- ITS FALSE NEIGHBOUR: 'it returns false'. Refute it at one input. -/
def fnExactSignOfWrong : ChangeSpec := { name := "fnExactSignOf", fn := fun _ => fun
  | [d] => { results := [.lit (.bool false)], args := [d] }
  | _ => none }
def FnExactSignOfWrongFalsely : Prop := fnExactSignOfRow.holds Try.pinned (OpenSpec.ofChange fnExactSignOfWrong)

/-- 'laws.FnExactCyclesOf': WHATEVER THE INPUT: true; the input reads as it did. -/
def fnExactCyclesOfSpec : ChangeSpec := { name := "fnExactCyclesOf", fn := fun _ => fun
  | [d] => { results := [.lit (.bool true)], args := [d] }
  | _ => none }
def fnExactCyclesOfRow : OpenClaim := { program := "ytioekhjokbbmlaa", sum := "217246836828552517b664c48b1a4cbcf248f3c827a2a0475918323c040b0661", func := "loop.example/g01209/laws.FnExactCyclesOf", spec := "fnExactCyclesOf", recurses := true, apart := false }
def FnExactCyclesOfSaid : Prop := fnExactCyclesOfRow.holds Try.pinned (OpenSpec.ofChange fnExactCyclesOfSpec)

/-- ITS FALSE NEIGHBOUR: 'it returns false'. Refute it at one input. -/
def fnExactCyclesOfWrong : ChangeSpec := { name := "fnExactCyclesOf", fn := fun _ => fun
  | [d] => { results := [.lit (.bool false)], args := [d] }
  | _ => none }
def FnExactCyclesOfWrongFalsely : Prop := fnExactCyclesOfRow.holds Try.pinned (OpenSpec.ofChange fnExactCyclesOfWrong)

/- THE SECOND FORM. 'bulk': how many values and letters a reading holds, each counted each time it is reached (what is shared counts as often as it is met; a slice's spare places count too). A statement '..UptoSaid' is the law's where the arguments, and the package variables that the reading takes, are together of bulk at most 1048576: NARROWER than '..Said'. Prove '..Said' where nothing that the law and all that it calls make is longer than what came in: it says more and counts as full. Else prove '..UptoSaid'. A law counts once. -/
mutual
def uptoBulk {H : Type} : DataW H → Nat
  | .lit (.string bytes) => bytes.length + 1
  | .lit _ => 1
  | .nil => 1
  | .ptr d => uptoBulk d + 1
  | .slice elems spare => uptoBulkAll elems + uptoBulkAll spare + 1
  | .agg parts => uptoBulkAll parts + 1
  | .iface _ d => uptoBulk d + 1
  | .map entries => uptoBulkEntries entries + 1
  | .held _ => 1
def uptoBulkAll {H : Type} : List (DataW H) → Nat
  | [] => 0
  | d :: r => uptoBulk d + uptoBulkAll r
def uptoBulkEntries {H : Type} : List (Lit × DataW H) → Nat
  | [] => 0
  | x :: r => uptoBulkEntry x + uptoBulkEntries r
def uptoBulkEntry {H : Type} : Lit × DataW H → Nat
  | (.string bytes, d) => bytes.length + uptoBulk d + 1
  | (_, d) => uptoBulk d + 1
 end
def uptoSmall : (H : Type) → List (DataW H) → Bool := fun _ ds => decide (uptoBulkAll ds ≤ 1048576)
def OpenSpec.upto (s : _root_.Go.ChangeSpec) : _root_.Go.OpenSpec := { _root_.Go.OpenSpec.ofChange s with cond := some uptoSmall }

/-- 'laws.FnExactIsLadder', WHERE WHAT IT READS IS OF BULK AT MOST 1048576: true; the input reads as it did. -/
def fnExactIsLadderUptoRow : OpenClaim := { program := "ytioekhjokbbmlaa", sum := "217246836828552517b664c48b1a4cbcf248f3c827a2a0475918323c040b0661", func := "loop.example/g01209/laws.FnExactIsLadder", spec := "fnExactIsLadder", apart := false, narrowed := true }
def FnExactIsLadderUptoSaid : Prop := fnExactIsLadderUptoRow.holds Try.pinned (OpenSpec.upto fnExactIsLadderSpec)

/-- 'laws.FnExactEndOf', WHERE WHAT IT READS IS OF BULK AT MOST 1048576: true; the input reads as it did. -/
def fnExactEndOfUptoRow : OpenClaim := { program := "ytioekhjokbbmlaa", sum := "217246836828552517b664c48b1a4cbcf248f3c827a2a0475918323c040b0661", func := "loop.example/g01209/laws.FnExactEndOf", spec := "fnExactEndOf", apart := false, narrowed := true }
def FnExactEndOfUptoSaid : Prop := fnExactEndOfUptoRow.holds Try.pinned (OpenSpec.upto fnExactEndOfSpec)

/-- 'laws.FnExactWayDown', WHERE WHAT IT READS IS OF BULK AT MOST 1048576: true; the input reads as it did. -/
def fnExactWayDownUptoRow : OpenClaim := { program := "ytioekhjokbbmlaa", sum := "217246836828552517b664c48b1a4cbcf248f3c827a2a0475918323c040b0661", func := "loop.example/g01209/laws.FnExactWayDown", spec := "fnExactWayDown", apart := false, narrowed := true }
def FnExactWayDownUptoSaid : Prop := fnExactWayDownUptoRow.holds Try.pinned (OpenSpec.upto fnExactWayDownSpec)

/-- 'laws.FnExactResultOf', WHERE WHAT IT READS IS OF BULK AT MOST 1048576: true; the input reads as it did. -/
def fnExactResultOfUptoRow : OpenClaim := { program := "ytioekhjokbbmlaa", sum := "217246836828552517b664c48b1a4cbcf248f3c827a2a0475918323c040b0661", func := "loop.example/g01209/laws.FnExactResultOf", spec := "fnExactResultOf", apart := false, narrowed := true }
def FnExactResultOfUptoSaid : Prop := fnExactResultOfUptoRow.holds Try.pinned (OpenSpec.upto fnExactResultOfSpec)

/-- 'laws.FnExactRungsUsed', WHERE WHAT IT READS IS OF BULK AT MOST 1048576: true; the input reads as it did. -/
def fnExactRungsUsedUptoRow : OpenClaim := { program := "ytioekhjokbbmlaa", sum := "217246836828552517b664c48b1a4cbcf248f3c827a2a0475918323c040b0661", func := "loop.example/g01209/laws.FnExactRungsUsed", spec := "fnExactRungsUsed", apart := false, narrowed := true }
def FnExactRungsUsedUptoSaid : Prop := fnExactRungsUsedUptoRow.holds Try.pinned (OpenSpec.upto fnExactRungsUsedSpec)

/-- 'laws.FnExactMeetingsOf', WHERE WHAT IT READS IS OF BULK AT MOST 1048576: true; the input reads as it did. -/
def fnExactMeetingsOfUptoRow : OpenClaim := { program := "ytioekhjokbbmlaa", sum := "217246836828552517b664c48b1a4cbcf248f3c827a2a0475918323c040b0661", func := "loop.example/g01209/laws.FnExactMeetingsOf", spec := "fnExactMeetingsOf", apart := false, narrowed := true }
def FnExactMeetingsOfUptoSaid : Prop := fnExactMeetingsOfUptoRow.holds Try.pinned (OpenSpec.upto fnExactMeetingsOfSpec)

/-- 'laws.FnExactIsOrder', WHERE WHAT IT READS IS OF BULK AT MOST 1048576: true; the input reads as it did. -/
def fnExactIsOrderUptoRow : OpenClaim := { program := "ytioekhjokbbmlaa", sum := "217246836828552517b664c48b1a4cbcf248f3c827a2a0475918323c040b0661", func := "loop.example/g01209/laws.FnExactIsOrder", spec := "fnExactIsOrder", recurses := true, apart := false, narrowed := true }
def FnExactIsOrderUptoSaid : Prop := fnExactIsOrderUptoRow.holds Try.pinned (OpenSpec.upto fnExactIsOrderSpec)

/-- 'laws.FnExactThenOrder', WHERE WHAT IT READS IS OF BULK AT MOST 1048576: true; the input reads as it did. -/
def fnExactThenOrderUptoRow : OpenClaim := { program := "ytioekhjokbbmlaa", sum := "217246836828552517b664c48b1a4cbcf248f3c827a2a0475918323c040b0661", func := "loop.example/g01209/laws.FnExactThenOrder", spec := "fnExactThenOrder", recurses := true, apart := false, narrowed := true }
def FnExactThenOrderUptoSaid : Prop := fnExactThenOrderUptoRow.holds Try.pinned (OpenSpec.upto fnExactThenOrderSpec)

/-- 'laws.FnExactBackOrder', WHERE WHAT IT READS IS OF BULK AT MOST 1048576: true; the input reads as it did. -/
def fnExactBackOrderUptoRow : OpenClaim := { program := "ytioekhjokbbmlaa", sum := "217246836828552517b664c48b1a4cbcf248f3c827a2a0475918323c040b0661", func := "loop.example/g01209/laws.FnExactBackOrder", spec := "fnExactBackOrder", recurses := true, apart := false, narrowed := true }
def FnExactBackOrderUptoSaid : Prop := fnExactBackOrderUptoRow.holds Try.pinned (OpenSpec.upto fnExactBackOrderSpec)

/-- 'laws.FnExactOrderTimes', WHERE WHAT IT READS IS OF BULK AT MOST 1048576: true; the input reads as it did. -/
def fnExactOrderTimesUptoRow : OpenClaim := { program := "ytioekhjokbbmlaa", sum := "217246836828552517b664c48b1a4cbcf248f3c827a2a0475918323c040b0661", func := "loop.example/g01209/laws.FnExactOrderTimes", spec := "fnExactOrderTimes", recurses := true, apart := false, narrowed := true }
def FnExactOrderTimesUptoSaid : Prop := fnExactOrderTimesUptoRow.holds Try.pinned (OpenSpec.upto fnExactOrderTimesSpec)

/-- 'laws.FnExactBelowLadder', WHERE WHAT IT READS IS OF BULK AT MOST 1048576: true; the input reads as it did. -/
def fnExactBelowLadderUptoRow : OpenClaim := { program := "ytioekhjokbbmlaa", sum := "217246836828552517b664c48b1a4cbcf248f3c827a2a0475918323c040b0661", func := "loop.example/g01209/laws.FnExactBelowLadder", spec := "fnExactBelowLadder", apart := false, narrowed := true }
def FnExactBelowLadderUptoSaid : Prop := fnExactBelowLadderUptoRow.holds Try.pinned (OpenSpec.upto fnExactBelowLadderSpec)

/-- 'laws.FnExactTurnLadder', WHERE WHAT IT READS IS OF BULK AT MOST 1048576: true; the input reads as it did. -/
def fnExactTurnLadderUptoRow : OpenClaim := { program := "ytioekhjokbbmlaa", sum := "217246836828552517b664c48b1a4cbcf248f3c827a2a0475918323c040b0661", func := "loop.example/g01209/laws.FnExactTurnLadder", spec := "fnExactTurnLadder", apart := false, narrowed := true }
def FnExactTurnLadderUptoSaid : Prop := fnExactTurnLadderUptoRow.holds Try.pinned (OpenSpec.upto fnExactTurnLadderSpec)

/-- 'laws.FnExactMirrorLadder', WHERE WHAT IT READS IS OF BULK AT MOST 1048576: true; the input reads as it did. -/
def fnExactMirrorLadderUptoRow : OpenClaim := { program := "ytioekhjokbbmlaa", sum := "217246836828552517b664c48b1a4cbcf248f3c827a2a0475918323c040b0661", func := "loop.example/g01209/laws.FnExactMirrorLadder", spec := "fnExactMirrorLadder", apart := false, narrowed := true }
def FnExactMirrorLadderUptoSaid : Prop := fnExactMirrorLadderUptoRow.holds Try.pinned (OpenSpec.upto fnExactMirrorLadderSpec)

/-- 'laws.FnExactAddRung', WHERE WHAT IT READS IS OF BULK AT MOST 1048576: true; the input reads as it did. -/
def fnExactAddRungUptoRow : OpenClaim := { program := "ytioekhjokbbmlaa", sum := "217246836828552517b664c48b1a4cbcf248f3c827a2a0475918323c040b0661", func := "loop.example/g01209/laws.FnExactAddRung", spec := "fnExactAddRung", apart := false, narrowed := true }
def FnExactAddRungUptoSaid : Prop := fnExactAddRungUptoRow.holds Try.pinned (OpenSpec.upto fnExactAddRungSpec)

/-- 'laws.FnExactTakeRung', WHERE WHAT IT READS IS OF BULK AT MOST 1048576: true; the input reads as it did. -/
def fnExactTakeRungUptoRow : OpenClaim := { program := "ytioekhjokbbmlaa", sum := "217246836828552517b664c48b1a4cbcf248f3c827a2a0475918323c040b0661", func := "loop.example/g01209/laws.FnExactTakeRung", spec := "fnExactTakeRung", apart := false, narrowed := true }
def FnExactTakeRungUptoSaid : Prop := fnExactTakeRungUptoRow.holds Try.pinned (OpenSpec.upto fnExactTakeRungSpec)

/-- 'laws.FnExactRepeatLadder', WHERE WHAT IT READS IS OF BULK AT MOST 1048576: true; the input reads as it did. -/
def fnExactRepeatLadderUptoRow : OpenClaim := { program := "ytioekhjokbbmlaa", sum := "217246836828552517b664c48b1a4cbcf248f3c827a2a0475918323c040b0661", func := "loop.example/g01209/laws.FnExactRepeatLadder", spec := "fnExactRepeatLadder", apart := false, narrowed := true }
def FnExactRepeatLadderUptoSaid : Prop := fnExactRepeatLadderUptoRow.holds Try.pinned (OpenSpec.upto fnExactRepeatLadderSpec)

/-- 'laws.FnExactSignOf', WHERE WHAT IT READS IS OF BULK AT MOST 1048576: true; the input reads as it did. -/
def fnExactSignOfUptoRow : OpenClaim := { program := "ytioekhjokbbmlaa", sum := "217246836828552517b664c48b1a4cbcf248f3c827a2a0475918323c040b0661", func := "loop.example/g01209/laws.FnExactSignOf", spec := "fnExactSignOf", recurses := true, apart := false, narrowed := true }
def FnExactSignOfUptoSaid : Prop := fnExactSignOfUptoRow.holds Try.pinned (OpenSpec.upto fnExactSignOfSpec)

/-- 'laws.FnExactCyclesOf', WHERE WHAT IT READS IS OF BULK AT MOST 1048576: true; the input reads as it did. -/
def fnExactCyclesOfUptoRow : OpenClaim := { program := "ytioekhjokbbmlaa", sum := "217246836828552517b664c48b1a4cbcf248f3c827a2a0475918323c040b0661", func := "loop.example/g01209/laws.FnExactCyclesOf", spec := "fnExactCyclesOf", recurses := true, apart := false, narrowed := true }
def FnExactCyclesOfUptoSaid : Prop := fnExactCyclesOfUptoRow.holds Try.pinned (OpenSpec.upto fnExactCyclesOfSpec)

end Rows
end Go.Proofs.Ytioekhjokbbmlaa
