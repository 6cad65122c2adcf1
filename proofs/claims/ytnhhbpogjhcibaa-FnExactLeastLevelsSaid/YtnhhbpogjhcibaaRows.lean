/-
  No cell of these rows narrows 'for every input' (looked for: loops, veiled, ifaces, maps, wideKeys, modest, calm, conditions, laid).
  DERIVED. THE GIVEN ROWS OF THIS SEAT. 10 by the template 'for every input the law returns true; each argument reads behind the call as it read before'; 0 by the template 'total and deterministic' (their statements: YtnhhbpogjhcibaaTotals.lean).
  GIVEN WITH THE SEED: the statements are not yours to turn. If you find one false, say at which input.
  Laid BY PROGRAM, IN A SANDBOX (cutbox-rows.mjs): the forced cells as the released guide's own fill.sh prints them over the translation d4afce54b4c8a2ba… (all of the seat's roots in one cut). By AI agents, Wed Nov 11 2026. No macro, syntax, notation, axiom, sorry.
-/
import Derived.Test.YtnhhbpogjhcibaaChecked
import GoSem.Claim
import GoSem.ClaimJoined
import GoSem.ClaimMapViews
import Derived.JoinedTies
import Derived.KernelRfl
namespace Go.Proofs.Ytnhhbpogjhcibaa
/- THE CELL 'sum', in the pinned program and in every row, IS THE sha256 OF THE DUMP (.gsa) THAT YtnhhbpogjhcibaaProg.lean LOADS. Nothing in Lean hashes anything: it is a label: what it is worth is what the hold of that sum in a sandbox is worth. -/
noncomputable def Try.pinned : Pinned := { name := "ytnhhbpogjhcibaa", sum := "d4afce54b4c8a2ba90aaad0f312fee32fed60d9461f483e38e4def3750f5fd5d", checked := Try.checked }
namespace Rows
def none {H : Type} : Left H := { results := [], args := [] }

/-- 'laws.FnExactOddEvenLadder': WHATEVER THE INPUT: true; the input reads as it did. -/
def fnExactOddEvenLadderSpec : ChangeSpec := { name := "fnExactOddEvenLadder", fn := fun _ => fun
  | [d1, d2] => { results := [.lit (.bool true)], args := [d1, d2] }
  | _ => none }
def fnExactOddEvenLadderRow : OpenClaim := { program := "ytnhhbpogjhcibaa", sum := "d4afce54b4c8a2ba90aaad0f312fee32fed60d9461f483e38e4def3750f5fd5d", func := "loop.example/g01209/laws.FnExactOddEvenLadder", spec := "fnExactOddEvenLadder", plainKeys := false, apart := false }
def FnExactOddEvenLadderSaid : Prop := fnExactOddEvenLadderRow.holds Try.pinned (OpenSpec.ofChange fnExactOddEvenLadderSpec)

/-- ITS FALSE NEIGHBOUR: 'it returns false'. Refute it at one input. -/
def fnExactOddEvenLadderWrong : ChangeSpec := { name := "fnExactOddEvenLadder", fn := fun _ => fun
  | [d1, d2] => { results := [.lit (.bool false)], args := [d1, d2] }
  | _ => none }
def FnExactOddEvenLadderWrongFalsely : Prop := fnExactOddEvenLadderRow.holds Try.pinned (OpenSpec.ofChange fnExactOddEvenLadderWrong)

/-- 'laws.FnExactLadderOfLevels': WHATEVER THE INPUT: true; the input reads as it did. -/
def fnExactLadderOfLevelsSpec : ChangeSpec := { name := "fnExactLadderOfLevels", fn := fun _ => fun
  | [d1, d2] => { results := [.lit (.bool true)], args := [d1, d2] }
  | _ => none }
def fnExactLadderOfLevelsRow : OpenClaim := { program := "ytnhhbpogjhcibaa", sum := "d4afce54b4c8a2ba90aaad0f312fee32fed60d9461f483e38e4def3750f5fd5d", func := "loop.example/g01209/laws.FnExactLadderOfLevels", spec := "fnExactLadderOfLevels", plainKeys := false, apart := false }
def FnExactLadderOfLevelsSaid : Prop := fnExactLadderOfLevelsRow.holds Try.pinned (OpenSpec.ofChange fnExactLadderOfLevelsSpec)

/-- ITS FALSE NEIGHBOUR: 'it returns false'. Refute it at one input. -/
def fnExactLadderOfLevelsWrong : ChangeSpec := { name := "fnExactLadderOfLevels", fn := fun _ => fun
  | [d1, d2] => { results := [.lit (.bool false)], args := [d1, d2] }
  | _ => none }
def FnExactLadderOfLevelsWrongFalsely : Prop := fnExactLadderOfLevelsRow.holds Try.pinned (OpenSpec.ofChange fnExactLadderOfLevelsWrong)

/-- 'laws.FnExactIsLevel': WHATEVER THE INPUT: true; the input reads as it did. -/
def fnExactIsLevelSpec : ChangeSpec := { name := "fnExactIsLevel", fn := fun _ => fun
  | [d1, d2] => { results := [.lit (.bool true)], args := [d1, d2] }
  | _ => none }
def fnExactIsLevelRow : OpenClaim := { program := "ytnhhbpogjhcibaa", sum := "d4afce54b4c8a2ba90aaad0f312fee32fed60d9461f483e38e4def3750f5fd5d", func := "loop.example/g01209/laws.FnExactIsLevel", spec := "fnExactIsLevel", plainKeys := false, apart := false }
def FnExactIsLevelSaid : Prop := fnExactIsLevelRow.holds Try.pinned (OpenSpec.ofChange fnExactIsLevelSpec)

/-- ITS FALSE NEIGHBOUR: 'it returns false'. Refute it at one input. -/
def fnExactIsLevelWrong : ChangeSpec := { name := "fnExactIsLevel", fn := fun _ => fun
  | [d1, d2] => { results := [.lit (.bool false)], args := [d1, d2] }
  | _ => none }
def FnExactIsLevelWrongFalsely : Prop := fnExactIsLevelRow.holds Try.pinned (OpenSpec.ofChange fnExactIsLevelWrong)

/-- 'laws.FnExactAllLevels': WHATEVER THE INPUT: true; the input reads as it did. -/
def fnExactAllLevelsSpec : ChangeSpec := { name := "fnExactAllLevels", fn := fun _ => fun
  | [d] => { results := [.lit (.bool true)], args := [d] }
  | _ => none }
def fnExactAllLevelsRow : OpenClaim := { program := "ytnhhbpogjhcibaa", sum := "d4afce54b4c8a2ba90aaad0f312fee32fed60d9461f483e38e4def3750f5fd5d", func := "loop.example/g01209/laws.FnExactAllLevels", spec := "fnExactAllLevels", recurses := true, plainKeys := false, apart := false }
def FnExactAllLevelsSaid : Prop := fnExactAllLevelsRow.holds Try.pinned (OpenSpec.ofChange fnExactAllLevelsSpec)

/-- ITS FALSE NEIGHBOUR: 'it returns false'. Refute it at one input. -/
def fnExactAllLevelsWrong : ChangeSpec := { name := "fnExactAllLevels", fn := fun _ => fun
  | [d] => { results := [.lit (.bool false)], args := [d] }
  | _ => none }
def FnExactAllLevelsWrongFalsely : Prop := fnExactAllLevelsRow.holds Try.pinned (OpenSpec.ofChange fnExactAllLevelsWrong)

/-- 'laws.FnExactCountLevels': WHATEVER THE INPUT: true; the input reads as it did. -/
def fnExactCountLevelsSpec : ChangeSpec := { name := "fnExactCountLevels", fn := fun _ => fun
  | [d] => { results := [.lit (.bool true)], args := [d] }
  | _ => none }
def fnExactCountLevelsRow : OpenClaim := { program := "ytnhhbpogjhcibaa", sum := "d4afce54b4c8a2ba90aaad0f312fee32fed60d9461f483e38e4def3750f5fd5d", func := "loop.example/g01209/laws.FnExactCountLevels", spec := "fnExactCountLevels", recurses := true, plainKeys := false, apart := false }
def FnExactCountLevelsSaid : Prop := fnExactCountLevelsRow.holds Try.pinned (OpenSpec.ofChange fnExactCountLevelsSpec)

/-- ITS FALSE NEIGHBOUR: 'it returns false'. Refute it at one input. -/
def fnExactCountLevelsWrong : ChangeSpec := { name := "fnExactCountLevels", fn := fun _ => fun
  | [d] => { results := [.lit (.bool false)], args := [d] }
  | _ => none }
def FnExactCountLevelsWrongFalsely : Prop := fnExactCountLevelsRow.holds Try.pinned (OpenSpec.ofChange fnExactCountLevelsWrong)

/-- 'laws.FnExactLeastDepth': WHATEVER THE INPUT: true; the input reads as it did. -/
def fnExactLeastDepthSpec : ChangeSpec := { name := "fnExactLeastDepth", fn := fun _ => fun
  | [d] => { results := [.lit (.bool true)], args := [d] }
  | _ => none }
def fnExactLeastDepthRow : OpenClaim := { program := "ytnhhbpogjhcibaa", sum := "d4afce54b4c8a2ba90aaad0f312fee32fed60d9461f483e38e4def3750f5fd5d", func := "loop.example/g01209/laws.FnExactLeastDepth", spec := "fnExactLeastDepth", recurses := true, plainKeys := false, apart := false }
def FnExactLeastDepthSaid : Prop := fnExactLeastDepthRow.holds Try.pinned (OpenSpec.ofChange fnExactLeastDepthSpec)

/-- ITS FALSE NEIGHBOUR: 'it returns false'. Refute it at one input. -/
def fnExactLeastDepthWrong : ChangeSpec := { name := "fnExactLeastDepth", fn := fun _ => fun
  | [d] => { results := [.lit (.bool false)], args := [d] }
  | _ => none }
def FnExactLeastDepthWrongFalsely : Prop := fnExactLeastDepthRow.holds Try.pinned (OpenSpec.ofChange fnExactLeastDepthWrong)

/-- 'laws.FnExactLeastLevels': WHATEVER THE INPUT: true; the input reads as it did. -/
def fnExactLeastLevelsSpec : ChangeSpec := { name := "fnExactLeastLevels", fn := fun _ => fun
  | [d] => { results := [.lit (.bool true)], args := [d] }
  | _ => none }
def fnExactLeastLevelsRow : OpenClaim := { program := "ytnhhbpogjhcibaa", sum := "d4afce54b4c8a2ba90aaad0f312fee32fed60d9461f483e38e4def3750f5fd5d", func := "loop.example/g01209/laws.FnExactLeastLevels", spec := "fnExactLeastLevels", unfollowed := true, recurses := true, plainKeys := false, apart := false }
def FnExactLeastLevelsSaid : Prop := fnExactLeastLevelsRow.holds Try.pinned (OpenSpec.ofChange fnExactLeastLevelsSpec)

/-- ITS FALSE NEIGHBOUR: 'it returns false'. Refute it at one input. -/
def fnExactLeastLevelsWrong : ChangeSpec := { name := "fnExactLeastLevels", fn := fun _ => fun
  | [d] => { results := [.lit (.bool false)], args := [d] }
  | _ => none }
def FnExactLeastLevelsWrongFalsely : Prop := fnExactLeastLevelsRow.holds Try.pinned (OpenSpec.ofChange fnExactLeastLevelsWrong)

/-- 'laws.FnExactCountDepths': WHATEVER THE INPUT: true; the input reads as it did. -/
def fnExactCountDepthsSpec : ChangeSpec := { name := "fnExactCountDepths", fn := fun _ => fun
  | [d] => { results := [.lit (.bool true)], args := [d] }
  | _ => none }
def fnExactCountDepthsRow : OpenClaim := { program := "ytnhhbpogjhcibaa", sum := "d4afce54b4c8a2ba90aaad0f312fee32fed60d9461f483e38e4def3750f5fd5d", func := "loop.example/g01209/laws.FnExactCountDepths", spec := "fnExactCountDepths", recurses := true, plainKeys := false, apart := false }
def FnExactCountDepthsSaid : Prop := fnExactCountDepthsRow.holds Try.pinned (OpenSpec.ofChange fnExactCountDepthsSpec)

/-- ITS FALSE NEIGHBOUR: 'it returns false'. Refute it at one input. -/
def fnExactCountDepthsWrong : ChangeSpec := { name := "fnExactCountDepths", fn := fun _ => fun
  | [d] => { results := [.lit (.bool false)], args := [d] }
  | _ => none }
def FnExactCountDepthsWrongFalsely : Prop := fnExactCountDepthsRow.holds Try.pinned (OpenSpec.ofChange fnExactCountDepthsWrong)

/-- 'laws.FnExactBrickLadder': WHATEVER THE INPUT: true; the input reads as it did. -/
def fnExactBrickLadderSpec : ChangeSpec := { name := "fnExactBrickLadder", fn := fun _ => fun
  | [d1, d2] => { results := [.lit (.bool true)], args := [d1, d2] }
  | _ => none }
def fnExactBrickLadderRow : OpenClaim := { program := "ytnhhbpogjhcibaa", sum := "d4afce54b4c8a2ba90aaad0f312fee32fed60d9461f483e38e4def3750f5fd5d", func := "loop.example/g01209/laws.FnExactBrickLadder", spec := "fnExactBrickLadder", plainKeys := false, apart := false }
def FnExactBrickLadderSaid : Prop := fnExactBrickLadderRow.holds Try.pinned (OpenSpec.ofChange fnExactBrickLadderSpec)

/-- ITS FALSE NEIGHBOUR: 'it returns false'. Refute it at one input. -/
def fnExactBrickLadderWrong : ChangeSpec := { name := "fnExactBrickLadder", fn := fun _ => fun
  | [d1, d2] => { results := [.lit (.bool false)], args := [d1, d2] }
  | _ => none }
def FnExactBrickLadderWrongFalsely : Prop := fnExactBrickLadderRow.holds Try.pinned (OpenSpec.ofChange fnExactBrickLadderWrong)

/-- 'laws.FnExactBrickOrder': WHATEVER THE INPUT: true; the input reads as it did. -/
def fnExactBrickOrderSpec : ChangeSpec := { name := "fnExactBrickOrder", fn := fun _ => fun
  | [d1, d2] => { results := [.lit (.bool true)], args := [d1, d2] }
  | _ => none }
def fnExactBrickOrderRow : OpenClaim := { program := "ytnhhbpogjhcibaa", sum := "d4afce54b4c8a2ba90aaad0f312fee32fed60d9461f483e38e4def3750f5fd5d", func := "loop.example/g01209/laws.FnExactBrickOrder", spec := "fnExactBrickOrder", plainKeys := false, apart := false }
def FnExactBrickOrderSaid : Prop := fnExactBrickOrderRow.holds Try.pinned (OpenSpec.ofChange fnExactBrickOrderSpec)

/-- ITS FALSE NEIGHBOUR: 'it returns false'. Refute it at one input. -/
def fnExactBrickOrderWrong : ChangeSpec := { name := "fnExactBrickOrder", fn := fun _ => fun
  | [d1, d2] => { results := [.lit (.bool false)], args := [d1, d2] }
  | _ => none }
def FnExactBrickOrderWrongFalsely : Prop := fnExactBrickOrderRow.holds Try.pinned (OpenSpec.ofChange fnExactBrickOrderWrong)

/- THE SECOND FORM. 'bulk': how many values and letters a reading holds, each counted each time it is reached (what is shared counts as often as it is met; a slice's spare places count too). A statement '..UptoSaid' is the law's where the arguments, and the package variables that the reading takes, are together of bulk at most 1048576: NARROWER than '..Said'. Prove '..Said' where nothing that the law and all that it calls make is longer than what came in: it says more and counts as full. Else prove '..UptoSaid'. A law counts once. -/
mutual
def uptoBulk {H : Type} : DataW H → Nat
  | .lit (.string bytes) => bytes.length + 1
  | .lit _ => 1
  | .nil => 1
  | .ptr d => uptoBulk d + 1
  | .slice elems spare => uptoBulkAll elems + uptoBulkAll spare + 1
  | .agg parts => uptoBulkAll parts + 1
  | .iface _ d => uptoBulk d + 1
  | .map entries => uptoBulkEntries entries + 1
  | .held _ => 1
def uptoBulkAll {H : Type} : List (DataW H) → Nat
  | [] => 0
  | d :: r => uptoBulk d + uptoBulkAll r
def uptoBulkEntries {H : Type} : List (Lit × DataW H) → Nat
  | [] => 0
  | x :: r => uptoBulkEntry x + uptoBulkEntries r
def uptoBulkEntry {H : Type} : Lit × DataW H → Nat
  | (.string bytes, d) => bytes.length + uptoBulk d + 1
  | (_, d) => uptoBulk d + 1
 end
def uptoSmall : (H : Type) → List (DataW H) → Bool := fun _ ds => decide (uptoBulkAll ds ≤ 1048576)
def OpenSpec.upto (s : _root_.Go.ChangeSpec) : _root_.Go.OpenSpec := { _root_.Go.OpenSpec.ofChange s with cond := some uptoSmall }

/-- 'laws.FnExactOddEvenLadder', WHERE WHAT IT READS IS OF BULK AT MOST 1048576: true; the input reads as it did. -/
def fnExactOddEvenLadderUptoRow : OpenClaim := { program := "ytnhhbpogjhcibaa", sum := "d4afce54b4c8a2ba90aaad0f312fee32fed60d9461f483e38e4def3750f5fd5d", func := "loop.example/g01209/laws.FnExactOddEvenLadder", spec := "fnExactOddEvenLadder", plainKeys := false, apart := false, narrowed := true }
def FnExactOddEvenLadderUptoSaid : Prop := fnExactOddEvenLadderUptoRow.holds Try.pinned (OpenSpec.upto fnExactOddEvenLadderSpec)

/-- 'laws.FnExactLadderOfLevels', WHERE WHAT IT READS IS OF BULK AT MOST 1048576: true; the input reads as it did. -/
def fnExactLadderOfLevelsUptoRow : OpenClaim := { program := "ytnhhbpogjhcibaa", sum := "d4afce54b4c8a2ba90aaad0f312fee32fed60d9461f483e38e4def3750f5fd5d", func := "loop.example/g01209/laws.FnExactLadderOfLevels", spec := "fnExactLadderOfLevels", plainKeys := false, apart := false, narrowed := true }
def FnExactLadderOfLevelsUptoSaid : Prop := fnExactLadderOfLevelsUptoRow.holds Try.pinned (OpenSpec.upto fnExactLadderOfLevelsSpec)

/-- 'laws.FnExactIsLevel', WHERE WHAT IT READS IS OF BULK AT MOST 1048576: true; the input reads as it did. -/
def fnExactIsLevelUptoRow : OpenClaim := { program := "ytnhhbpogjhcibaa", sum := "d4afce54b4c8a2ba90aaad0f312fee32fed60d9461f483e38e4def3750f5fd5d", func := "loop.example/g01209/laws.FnExactIsLevel", spec := "fnExactIsLevel", plainKeys := false, apart := false, narrowed := true }
def FnExactIsLevelUptoSaid : Prop := fnExactIsLevelUptoRow.holds Try.pinned (OpenSpec.upto fnExactIsLevelSpec)

/-- 'laws.FnExactAllLevels', WHERE WHAT IT READS IS OF BULK AT MOST 1048576: true; the input reads as it did. -/
def fnExactAllLevelsUptoRow : OpenClaim := { program := "ytnhhbpogjhcibaa", sum := "d4afce54b4c8a2ba90aaad0f312fee32fed60d9461f483e38e4def3750f5fd5d", func := "loop.example/g01209/laws.FnExactAllLevels", spec := "fnExactAllLevels", recurses := true, plainKeys := false, apart := false, narrowed := true }
def FnExactAllLevelsUptoSaid : Prop := fnExactAllLevelsUptoRow.holds Try.pinned (OpenSpec.upto fnExactAllLevelsSpec)

/-- 'laws.FnExactCountLevels', WHERE WHAT IT READS IS OF BULK AT MOST 1048576: true; the input reads as it did. -/
def fnExactCountLevelsUptoRow : OpenClaim := { program := "ytnhhbpogjhcibaa", sum := "d4afce54b4c8a2ba90aaad0f312fee32fed60d9461f483e38e4def3750f5fd5d", func := "loop.example/g01209/laws.FnExactCountLevels", spec := "fnExactCountLevels", recurses := true, plainKeys := false, apart := false, narrowed := true }
def FnExactCountLevelsUptoSaid : Prop := fnExactCountLevelsUptoRow.holds Try.pinned (OpenSpec.upto fnExactCountLevelsSpec)

/-- 'laws.FnExactLeastDepth', WHERE WHAT IT READS IS OF BULK AT MOST 1048576: true; the input reads as it did. -/
def fnExactLeastDepthUptoRow : OpenClaim := { program := "ytnhhbpogjhcibaa", sum := "d4afce54b4c8a2ba90aaad0f312fee32fed60d9461f483e38e4def3750f5fd5d", func := "loop.example/g01209/laws.FnExactLeastDepth", spec := "fnExactLeastDepth", recurses := true, plainKeys := false, apart := false, narrowed := true }
def FnExactLeastDepthUptoSaid : Prop := fnExactLeastDepthUptoRow.holds Try.pinned (OpenSpec.upto fnExactLeastDepthSpec)

/-- 'laws.FnExactLeastLevels', WHERE WHAT IT READS IS OF BULK AT MOST 1048576: true; the input reads as it did. -/
def fnExactLeastLevelsUptoRow : OpenClaim := { program := "ytnhhbpogjhcibaa", sum := "d4afce54b4c8a2ba90aaad0f312fee32fed60d9461f483e38e4def3750f5fd5d", func := "loop.example/g01209/laws.FnExactLeastLevels", spec := "fnExactLeastLevels", unfollowed := true, recurses := true, plainKeys := false, apart := false, narrowed := true }
def FnExactLeastLevelsUptoSaid : Prop := fnExactLeastLevelsUptoRow.holds Try.pinned (OpenSpec.upto fnExactLeastLevelsSpec)

/-- 'laws.FnExactCountDepths', WHERE WHAT IT READS IS OF BULK AT MOST 1048576: true; the input reads as it did. -/
def fnExactCountDepthsUptoRow : OpenClaim := { program := "ytnhhbpogjhcibaa", sum := "d4afce54b4c8a2ba90aaad0f312fee32fed60d9461f483e38e4def3750f5fd5d", func := "loop.example/g01209/laws.FnExactCountDepths", spec := "fnExactCountDepths", recurses := true, plainKeys := false, apart := false, narrowed := true }
def FnExactCountDepthsUptoSaid : Prop := fnExactCountDepthsUptoRow.holds Try.pinned (OpenSpec.upto fnExactCountDepthsSpec)

/-- 'laws.FnExactBrickLadder', WHERE WHAT IT READS IS OF BULK AT MOST 1048576: true; the input reads as it did. -/
def fnExactBrickLadderUptoRow : OpenClaim := { program := "ytnhhbpogjhcibaa", sum := "d4afce54b4c8a2ba90aaad0f312fee32fed60d9461f483e38e4def3750f5fd5d", func := "loop.example/g01209/laws.FnExactBrickLadder", spec := "fnExactBrickLadder", plainKeys := false, apart := false, narrowed := true }
def FnExactBrickLadderUptoSaid : Prop := fnExactBrickLadderUptoRow.holds Try.pinned (OpenSpec.upto fnExactBrickLadderSpec)

/-- 'laws.FnExactBrickOrder', WHERE WHAT IT READS IS OF BULK AT MOST 1048576: true; the input reads as it did. -/
def fnExactBrickOrderUptoRow : OpenClaim := { program := "ytnhhbpogjhcibaa", sum := "d4afce54b4c8a2ba90aaad0f312fee32fed60d9461f483e38e4def3750f5fd5d", func := "loop.example/g01209/laws.FnExactBrickOrder", spec := "fnExactBrickOrder", plainKeys := false, apart := false, narrowed := true }
def FnExactBrickOrderUptoSaid : Prop := fnExactBrickOrderUptoRow.holds Try.pinned (OpenSpec.upto fnExactBrickOrderSpec)

end Rows
end Go.Proofs.Ytnhhbpogjhcibaa
