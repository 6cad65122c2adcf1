/-
  No cell of these rows narrows 'for every input' (looked for: loops, veiled, ifaces, maps, wideKeys, modest, calm, conditions, laid).
  DERIVED. THE GIVEN ROWS OF THIS SEAT. 8 by the template 'for every input the law returns true; each argument reads behind the call as it read before'; 0 by the template 'total and deterministic' (their statements: YtmlkccihpkpjfaaTotals.lean).
  GIVEN WITH THE SEED: the statements are not yours to turn. If you find one false, say at which input.
  Laid BY PROGRAM, IN A SANDBOX (cutbox-rows.mjs): the forced cells as the released guide's own fill.sh prints them over the translation 0d2c70ffb3f157f5… (all of the seat's roots in one cut). By AI agents, Wed Nov 11 2026. No macro, syntax, notation, axiom, sorry.
-/
import Derived.Test.YtmlkccihpkpjfaaChecked
import GoSem.Claim
import GoSem.ClaimJoined
import GoSem.ClaimMapViews
import Derived.JoinedTies
import Derived.KernelRfl
namespace Go.Proofs.Ytmlkccihpkpjfaa
/- THE CELL 'sum', in the pinned program and in every row, IS THE sha256 OF THE DUMP (.gsa) THAT YtmlkccihpkpjfaaProg.lean LOADS. Nothing in Lean hashes anything: it is a label: what it is worth is what the hold of that sum in a sandbox is worth. -/
noncomputable def Try.pinned : Pinned := { name := "ytmlkccihpkpjfaa", sum := "0d2c70ffb3f157f5509706b160a45b7b0e2b7eb0aa6978e452271e793fc345cc", checked := Try.checked }
namespace Rows
def none {H : Type} : Left H := { results := [], args := [] }

/-- 'laws.FnExactTakeStart': WHATEVER THE INPUT: true; the input reads as it did. -/
def fnExactTakeStartSpec : ChangeSpec := { name := "fnExactTakeStart", fn := fun _ => fun
  | [d1, d2] => { results := [.lit (.bool true)], args := [d1, d2] }
  | _ => none }
def fnExactTakeStartRow : OpenClaim := { program := "ytmlkccihpkpjfaa", sum := "0d2c70ffb3f157f5509706b160a45b7b0e2b7eb0aa6978e452271e793fc345cc", func := "loop.example/g01209/laws.FnExactTakeStart", spec := "fnExactTakeStart", apart := false }
def FnExactTakeStartSaid : Prop := fnExactTakeStartRow.holds Try.pinned (OpenSpec.ofChange fnExactTakeStartSpec)

/-- ITS FALSE NEIGHBOUR: 'it returns false'. Refute it at one input. -/
def fnExactTakeStartWrong : ChangeSpec := { name := "fnExactTakeStart", fn := fun _ => fun
  | [d1, d2] => { results := [.lit (.bool false)], args := [d1, d2] }
  | _ => none }
def FnExactTakeStartWrongFalsely : Prop := fnExactTakeStartRow.holds Try.pinned (OpenSpec.ofChange fnExactTakeStartWrong)

/-- 'laws.FnExactKeepStarts': WHATEVER THE INPUT: true; the input reads as it did. -/
def fnExactKeepStartsSpec : ChangeSpec := { name := "fnExactKeepStarts", fn := fun _ => fun
  | [d1, d2] => { results := [.lit (.bool true)], args := [d1, d2] }
  | _ => none }
def fnExactKeepStartsRow : OpenClaim := { program := "ytmlkccihpkpjfaa", sum := "0d2c70ffb3f157f5509706b160a45b7b0e2b7eb0aa6978e452271e793fc345cc", func := "loop.example/g01209/laws.FnExactKeepStarts", spec := "fnExactKeepStarts", apart := false }
def FnExactKeepStartsSaid : Prop := fnExactKeepStartsRow.holds Try.pinned (OpenSpec.ofChange fnExactKeepStartsSpec)

/-- ITS FALSE NEIGHBOUR: 'it returns false'. Refute it at one input. -/
def fnExactKeepStartsWrong : ChangeSpec := { name := "fnExactKeepStarts", fn := fun _ => fun
  | [d1, d2] => { results := [.lit (.bool false)], args := [d1, d2] }
  | _ => none }
def FnExactKeepStartsWrongFalsely : Prop := fnExactKeepStartsRow.holds Try.pinned (OpenSpec.ofChange fnExactKeepStartsWrong)

/-- 'laws.FnExactPutWire': WHATEVER THE INPUT: true; the input reads as it did. -/
def fnExactPutWireSpec : ChangeSpec := { name := "fnExactPutWire", fn := fun _ => fun
  | [d1, d2] => { results := [.lit (.bool true)], args := [d1, d2] }
  | _ => none }
def fnExactPutWireRow : OpenClaim := { program := "ytmlkccihpkpjfaa", sum := "0d2c70ffb3f157f5509706b160a45b7b0e2b7eb0aa6978e452271e793fc345cc", func := "loop.example/g01209/laws.FnExactPutWire", spec := "fnExactPutWire", unfollowed := true, recurses := true, apart := false }
def FnExactPutWireSaid : Prop := fnExactPutWireRow.holds Try.pinned (OpenSpec.ofChange fnExactPutWireSpec)

/-- ITS FALSE NEIGHBOUR: 'it returns false'. Refute it at one input. -/
def fnExactPutWireWrong : ChangeSpec := { name := "fnExactPutWire", fn := fun _ => fun
  | [d1, d2] => { results := [.lit (.bool false)], args := [d1, d2] }
  | _ => none }
def FnExactPutWireWrongFalsely : Prop := fnExactPutWireRow.holds Try.pinned (OpenSpec.ofChange fnExactPutWireWrong)

/-- 'laws.FnExactBesideLadders': WHATEVER THE INPUT: true; the input reads as it did. -/
def fnExactBesideLaddersSpec : ChangeSpec := { name := "fnExactBesideLadders", fn := fun _ => fun
  | [d1, d2] => { results := [.lit (.bool true)], args := [d1, d2] }
  | _ => none }
def fnExactBesideLaddersRow : OpenClaim := { program := "ytmlkccihpkpjfaa", sum := "0d2c70ffb3f157f5509706b160a45b7b0e2b7eb0aa6978e452271e793fc345cc", func := "loop.example/g01209/laws.FnExactBesideLadders", spec := "fnExactBesideLadders", apart := false }
def FnExactBesideLaddersSaid : Prop := fnExactBesideLaddersRow.holds Try.pinned (OpenSpec.ofChange fnExactBesideLaddersSpec)

/-- ITS FALSE NEIGHBOUR: 'it returns false'. Refute it at one input. -/
def fnExactBesideLaddersWrong : ChangeSpec := { name := "fnExactBesideLadders", fn := fun _ => fun
  | [d1, d2] => { results := [.lit (.bool false)], args := [d1, d2] }
  | _ => none }
def FnExactBesideLaddersWrongFalsely : Prop := fnExactBesideLaddersRow.holds Try.pinned (OpenSpec.ofChange fnExactBesideLaddersWrong)

/-- 'laws.FnExactDoubleLadder': WHATEVER THE INPUT: true; the input reads as it did. -/
def fnExactDoubleLadderSpec : ChangeSpec := { name := "fnExactDoubleLadder", fn := fun _ => fun
  | [d] => { results := [.lit (.bool true)], args := [d] }
  | _ => none }
def fnExactDoubleLadderRow : OpenClaim := { program := "ytmlkccihpkpjfaa", sum := "0d2c70ffb3f157f5509706b160a45b7b0e2b7eb0aa6978e452271e793fc345cc", func := "loop.example/g01209/laws.FnExactDoubleLadder", spec := "fnExactDoubleLadder", apart := false }
def FnExactDoubleLadderSaid : Prop := fnExactDoubleLadderRow.holds Try.pinned (OpenSpec.ofChange fnExactDoubleLadderSpec)

/-- ITS FALSE NEIGHBOUR: 'it returns false'. Refute it at one input. -/
def fnExactDoubleLadderWrong : ChangeSpec := { name := "fnExactDoubleLadder", fn := fun _ => fun
  | [d] => { results := [.lit (.bool false)], args := [d] }
  | _ => none }
def FnExactDoubleLadderWrongFalsely : Prop := fnExactDoubleLadderRow.holds Try.pinned (OpenSpec.ofChange fnExactDoubleLadderWrong)

/-- 'laws.FnExactSplitLadder': WHATEVER THE INPUT: true; the input reads as it did. -/
def fnExactSplitLadderSpec : ChangeSpec := { name := "fnExactSplitLadder", fn := fun _ => fun
  | [d] => { results := [.lit (.bool true)], args := [d] }
  | _ => none }
def fnExactSplitLadderRow : OpenClaim := { program := "ytmlkccihpkpjfaa", sum := "0d2c70ffb3f157f5509706b160a45b7b0e2b7eb0aa6978e452271e793fc345cc", func := "loop.example/g01209/laws.FnExactSplitLadder", spec := "fnExactSplitLadder", apart := false }
def FnExactSplitLadderSaid : Prop := fnExactSplitLadderRow.holds Try.pinned (OpenSpec.ofChange fnExactSplitLadderSpec)

/-- ITS FALSE NEIGHBOUR: 'it returns false'. Refute it at one input. -/
def fnExactSplitLadderWrong : ChangeSpec := { name := "fnExactSplitLadder", fn := fun _ => fun
  | [d] => { results := [.lit (.bool false)], args := [d] }
  | _ => none }
def FnExactSplitLadderWrongFalsely : Prop := fnExactSplitLadderRow.holds Try.pinned (OpenSpec.ofChange fnExactSplitLadderWrong)

/-- 'laws.FnExactIsSplit': WHATEVER THE INPUT: true; the input reads as it did. -/
def fnExactIsSplitSpec : ChangeSpec := { name := "fnExactIsSplit", fn := fun _ => fun
  | [d1, d2] => { results := [.lit (.bool true)], args := [d1, d2] }
  | _ => none }
def fnExactIsSplitRow : OpenClaim := { program := "ytmlkccihpkpjfaa", sum := "0d2c70ffb3f157f5509706b160a45b7b0e2b7eb0aa6978e452271e793fc345cc", func := "loop.example/g01209/laws.FnExactIsSplit", spec := "fnExactIsSplit", apart := false }
def FnExactIsSplitSaid : Prop := fnExactIsSplitRow.holds Try.pinned (OpenSpec.ofChange fnExactIsSplitSpec)

/-- ITS FALSE NEIGHBOUR: 'it returns false'. Refute it at one input. -/
def fnExactIsSplitWrong : ChangeSpec := { name := "fnExactIsSplit", fn := fun _ => fun
  | [d1, d2] => { results := [.lit (.bool false)], args := [d1, d2] }
  | _ => none }
def FnExactIsSplitWrongFalsely : Prop := fnExactIsSplitRow.holds Try.pinned (OpenSpec.ofChange fnExactIsSplitWrong)

/-- 'laws.FnExactThroughWire': WHATEVER THE INPUT: true; the input reads as it did. -/
def fnExactThroughWireSpec : ChangeSpec := { name := "fnExactThroughWire", fn := fun _ => fun
  | [d1, d2] => { results := [.lit (.bool true)], args := [d1, d2] }
  | _ => none }
def fnExactThroughWireRow : OpenClaim := { program := "ytmlkccihpkpjfaa", sum := "0d2c70ffb3f157f5509706b160a45b7b0e2b7eb0aa6978e452271e793fc345cc", func := "loop.example/g01209/laws.FnExactThroughWire", spec := "fnExactThroughWire", unfollowed := true, recurses := true, apart := false }
def FnExactThroughWireSaid : Prop := fnExactThroughWireRow.holds Try.pinned (OpenSpec.ofChange fnExactThroughWireSpec)

/-- ITS FALSE NEIGHBOUR: 'it returns false'. Refute it at one input. -/
def fnExactThroughWireWrong : ChangeSpec := { name := "fnExactThroughWire", fn := fun _ => fun
  | [d1, d2] => { results := [.lit (.bool false)], args := [d1, d2] }
  | _ => none }
def FnExactThroughWireWrongFalsely : Prop := fnExactThroughWireRow.holds Try.pinned (OpenSpec.ofChange fnExactThroughWireWrong)

/- THE SECOND FORM. 'bulk': how many values and letters a reading holds, each counted each time it is reached (what is shared counts as often as it is met; a slice's spare places count too). A statement '..UptoSaid' is the law's where the arguments, and the package variables that the reading takes, are together of bulk at most 1048576: NARROWER than '..Said'. Prove '..Said' where nothing that the law and all that it calls make is longer than what came in: it says more and counts as full. Else prove '..UptoSaid'. A law counts once. -/
mutual
def uptoBulk {H : Type} : DataW H → Nat
  | .lit (.string bytes) => bytes.length + 1
  | .lit _ => 1
  | .nil => 1
  | .ptr d => uptoBulk d + 1
  | .slice elems spare => uptoBulkAll elems + uptoBulkAll spare + 1
  | .agg parts => uptoBulkAll parts + 1
  | .iface _ d => uptoBulk d + 1
  | .map entries => uptoBulkEntries entries + 1
  | .held _ => 1
def uptoBulkAll {H : Type} : List (DataW H) → Nat
  | [] => 0
  | d :: r => uptoBulk d + uptoBulkAll r
def uptoBulkEntries {H : Type} : List (Lit × DataW H) → Nat
  | [] => 0
  | x :: r => uptoBulkEntry x + uptoBulkEntries r
def uptoBulkEntry {H : Type} : Lit × DataW H → Nat
  | (.string bytes, d) => bytes.length + uptoBulk d + 1
  | (_, d) => uptoBulk d + 1
 end
def uptoSmall : (H : Type) → List (DataW H) → Bool := fun _ ds => decide (uptoBulkAll ds ≤ 1048576)
def OpenSpec.upto (s : _root_.Go.ChangeSpec) : _root_.Go.OpenSpec := { _root_.Go.OpenSpec.ofChange s with cond := some uptoSmall }

/-- 'laws.FnExactTakeStart', WHERE WHAT IT READS IS OF BULK AT MOST 1048576: true; the input reads as it did. -/
def fnExactTakeStartUptoRow : OpenClaim := { program := "ytmlkccihpkpjfaa", sum := "0d2c70ffb3f157f5509706b160a45b7b0e2b7eb0aa6978e452271e793fc345cc", func := "loop.example/g01209/laws.FnExactTakeStart", spec := "fnExactTakeStart", apart := false, narrowed := true }
def FnExactTakeStartUptoSaid : Prop := fnExactTakeStartUptoRow.holds Try.pinned (OpenSpec.upto fnExactTakeStartSpec)

/-- 'laws.FnExactKeepStarts', WHERE WHAT IT READS IS OF BULK AT MOST 1048576: true; the input reads as it did. -/
def fnExactKeepStartsUptoRow : OpenClaim := { program := "ytmlkccihpkpjfaa", sum := "0d2c70ffb3f157f5509706b160a45b7b0e2b7eb0aa6978e452271e793fc345cc", func := "loop.example/g01209/laws.FnExactKeepStarts", spec := "fnExactKeepStarts", apart := false, narrowed := true }
def FnExactKeepStartsUptoSaid : Prop := fnExactKeepStartsUptoRow.holds Try.pinned (OpenSpec.upto fnExactKeepStartsSpec)

/-- 'laws.FnExactPutWire', WHERE WHAT IT READS IS OF BULK AT MOST 1048576: true; the input reads as it did. -/
def fnExactPutWireUptoRow : OpenClaim := { program := "ytmlkccihpkpjfaa", sum := "0d2c70ffb3f157f5509706b160a45b7b0e2b7eb0aa6978e452271e793fc345cc", func := "loop.example/g01209/laws.FnExactPutWire", spec := "fnExactPutWire", unfollowed := true, recurses := true, apart := false, narrowed := true }
def FnExactPutWireUptoSaid : Prop := fnExactPutWireUptoRow.holds Try.pinned (OpenSpec.upto fnExactPutWireSpec)

/-- 'laws.FnExactBesideLadders', WHERE WHAT IT READS IS OF BULK AT MOST 1048576: true; the input reads as it did. -/
def fnExactBesideLaddersUptoRow : OpenClaim := { program := "ytmlkccihpkpjfaa", sum := "0d2c70ffb3f157f5509706b160a45b7b0e2b7eb0aa6978e452271e793fc345cc", func := "loop.example/g01209/laws.FnExactBesideLadders", spec := "fnExactBesideLadders", apart := false, narrowed := true }
def FnExactBesideLaddersUptoSaid : Prop := fnExactBesideLaddersUptoRow.holds Try.pinned (OpenSpec.upto fnExactBesideLaddersSpec)

/-- 'laws.FnExactDoubleLadder', WHERE WHAT IT READS IS OF BULK AT MOST 1048576: true; the input reads as it did. -/
def fnExactDoubleLadderUptoRow : OpenClaim := { program := "ytmlkccihpkpjfaa", sum := "0d2c70ffb3f157f5509706b160a45b7b0e2b7eb0aa6978e452271e793fc345cc", func := "loop.example/g01209/laws.FnExactDoubleLadder", spec := "fnExactDoubleLadder", apart := false, narrowed := true }
def FnExactDoubleLadderUptoSaid : Prop := fnExactDoubleLadderUptoRow.holds Try.pinned (OpenSpec.upto fnExactDoubleLadderSpec)

/-- 'laws.FnExactSplitLadder', WHERE WHAT IT READS IS OF BULK AT MOST 1048576: true; the input reads as it did. -/
def fnExactSplitLadderUptoRow : OpenClaim := { program := "ytmlkccihpkpjfaa", sum := "0d2c70ffb3f157f5509706b160a45b7b0e2b7eb0aa6978e452271e793fc345cc", func := "loop.example/g01209/laws.FnExactSplitLadder", spec := "fnExactSplitLadder", apart := false, narrowed := true }
def FnExactSplitLadderUptoSaid : Prop := fnExactSplitLadderUptoRow.holds Try.pinned (OpenSpec.upto fnExactSplitLadderSpec)

/-- 'laws.FnExactIsSplit', WHERE WHAT IT READS IS OF BULK AT MOST 1048576: true; the input reads as it did. -/
def fnExactIsSplitUptoRow : OpenClaim := { program := "ytmlkccihpkpjfaa", sum := "0d2c70ffb3f157f5509706b160a45b7b0e2b7eb0aa6978e452271e793fc345cc", func := "loop.example/g01209/laws.FnExactIsSplit", spec := "fnExactIsSplit", apart := false, narrowed := true }
def FnExactIsSplitUptoSaid : Prop := fnExactIsSplitUptoRow.holds Try.pinned (OpenSpec.upto fnExactIsSplitSpec)

/-- 'laws.FnExactThroughWire', WHERE WHAT IT READS IS OF BULK AT MOST 1048576: true; the input reads as it did. -/
def fnExactThroughWireUptoRow : OpenClaim := { program := "ytmlkccihpkpjfaa", sum := "0d2c70ffb3f157f5509706b160a45b7b0e2b7eb0aa6978e452271e793fc345cc", func := "loop.example/g01209/laws.FnExactThroughWire", spec := "fnExactThroughWire", unfollowed := true, recurses := true, apart := false, narrowed := true }
def FnExactThroughWireUptoSaid : Prop := fnExactThroughWireUptoRow.holds Try.pinned (OpenSpec.upto fnExactThroughWireSpec)

end Rows
end Go.Proofs.Ytmlkccihpkpjfaa
