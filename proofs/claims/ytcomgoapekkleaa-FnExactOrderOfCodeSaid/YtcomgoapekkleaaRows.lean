/-
  No cell of these rows narrows 'for every input' (looked for: loops, veiled, ifaces, maps, wideKeys, modest, calm, conditions, laid).
  DERIVED. THE GIVEN ROWS OF THIS SEAT. 10 by the template 'for every input the law returns true; each argument reads behind the call as it read before'; 0 by the template 'total and deterministic' (their statements: YtcomgoapekkleaaTotals.lean).
  GIVEN WITH THE SEED: the statements are not yours to turn. If you find one false, say at which input.
  Laid BY PROGRAM, IN A SANDBOX (cutbox-rows.mjs): the forced cells as the released guide's own fill.sh prints them over the translation d240cd9175d047ce… (all of the seat's roots in one cut). By AI agents, Wed Nov 11 2026. No macro, syntax, notation, axiom, sorry.
-/
import Derived.Test.YtcomgoapekkleaaChecked
import GoSem.Claim
import GoSem.ClaimJoined
import GoSem.ClaimMapViews
import Derived.JoinedTies
import Derived.KernelRfl
namespace Go.Proofs.Ytcomgoapekkleaa
/- THE CELL 'sum', in the pinned program and in every row, IS THE sha256 OF THE DUMP (.gsa) THAT YtcomgoapekkleaaProg.lean LOADS. Nothing in Lean hashes anything: it is a label: what it is worth is what the hold of that sum in a sandbox is worth. -/
noncomputable def Try.pinned : Pinned := { name := "ytcomgoapekkleaa", sum := "d240cd9175d047ce8dab569277f9a8b20ff142f3873b698134dd654f95dd168a", checked := Try.checked }
namespace Rows
def none {H : Type} : Left H := { results := [], args := [] }

/-- 'laws.FnExactInversionsOf': WHATEVER THE INPUT: true; the input reads as it did. -/
def fnExactInversionsOfSpec : ChangeSpec := { name := "fnExactInversionsOf", fn := fun _ => fun
  | [d] => { results := [.lit (.bool true)], args := [d] }
  | _ => none }
def fnExactInversionsOfRow : OpenClaim := { program := "ytcomgoapekkleaa", sum := "d240cd9175d047ce8dab569277f9a8b20ff142f3873b698134dd654f95dd168a", func := "loop.example/g01209/laws.FnExactInversionsOf", spec := "fnExactInversionsOf", recurses := true, apart := false }
def FnExactInversionsOfSaid : Prop := fnExactInversionsOfRow.holds Try.pinned (OpenSpec.ofChange fnExactInversionsOfSpec)

/-- ITS FALSE NEIGHBOUR: 'it returns false'. Refute it at one input. -/
def fnExactInversionsOfWrong : ChangeSpec := { name := "fnExactInversionsOf", fn := fun _ => fun
  | [d] => { results := [.lit (.bool false)], args := [d] }
  | _ => none }
def FnExactInversionsOfWrongFalsely : Prop := fnExactInversionsOfRow.holds Try.pinned (OpenSpec.ofChange fnExactInversionsOfWrong)

/-- 'laws.FnExactInvertedPairs': WHATEVER THE INPUT: true; the input reads as it did. -/
def fnExactInvertedPairsSpec : ChangeSpec := { name := "fnExactInvertedPairs", fn := fun _ => fun
  | [d] => { results := [.lit (.bool true)], args := [d] }
  | _ => none }
def fnExactInvertedPairsRow : OpenClaim := { program := "ytcomgoapekkleaa", sum := "d240cd9175d047ce8dab569277f9a8b20ff142f3873b698134dd654f95dd168a", func := "loop.example/g01209/laws.FnExactInvertedPairs", spec := "fnExactInvertedPairs", recurses := true, apart := false }
def FnExactInvertedPairsSaid : Prop := fnExactInvertedPairsRow.holds Try.pinned (OpenSpec.ofChange fnExactInvertedPairsSpec)

/-- ITS FALSE NEIGHBOUR: 'it returns false'. Refute it at one input. -/
def fnExactInvertedPairsWrong : ChangeSpec := { name := "fnExactInvertedPairs", fn := fun _ => fun
  | [d] => { results := [.lit (.bool false)], args := [d] }
  | _ => none }
def FnExactInvertedPairsWrongFalsely : Prop := fnExactInvertedPairsRow.holds Try.pinned (OpenSpec.ofChange fnExactInvertedPairsWrong)

/-- 'laws.FnExactDescentsOf': WHATEVER THE INPUT: true; the input reads as it did. -/
def fnExactDescentsOfSpec : ChangeSpec := { name := "fnExactDescentsOf", fn := fun _ => fun
  | [d] => { results := [.lit (.bool true)], args := [d] }
  | _ => none }
def fnExactDescentsOfRow : OpenClaim := { program := "ytcomgoapekkleaa", sum := "d240cd9175d047ce8dab569277f9a8b20ff142f3873b698134dd654f95dd168a", func := "loop.example/g01209/laws.FnExactDescentsOf", spec := "fnExactDescentsOf", recurses := true, apart := false }
def FnExactDescentsOfSaid : Prop := fnExactDescentsOfRow.holds Try.pinned (OpenSpec.ofChange fnExactDescentsOfSpec)

/-- ITS FALSE NEIGHBOUR: 'it returns false'. Refute it at one input. -/
def fnExactDescentsOfWrong : ChangeSpec := { name := "fnExactDescentsOf", fn := fun _ => fun
  | [d] => { results := [.lit (.bool false)], args := [d] }
  | _ => none }
def FnExactDescentsOfWrongFalsely : Prop := fnExactDescentsOfRow.holds Try.pinned (OpenSpec.ofChange fnExactDescentsOfWrong)

/-- 'laws.FnExactCodeOf': WHATEVER THE INPUT: true; the input reads as it did. -/
def fnExactCodeOfSpec : ChangeSpec := { name := "fnExactCodeOf", fn := fun _ => fun
  | [d] => { results := [.lit (.bool true)], args := [d] }
  | _ => none }
def fnExactCodeOfRow : OpenClaim := { program := "ytcomgoapekkleaa", sum := "d240cd9175d047ce8dab569277f9a8b20ff142f3873b698134dd654f95dd168a", func := "loop.example/g01209/laws.FnExactCodeOf", spec := "fnExactCodeOf", recurses := true, apart := false }
def FnExactCodeOfSaid : Prop := fnExactCodeOfRow.holds Try.pinned (OpenSpec.ofChange fnExactCodeOfSpec)

/-- ITS FALSE NEIGHBOUR: 'it returns false'. Refute it at one input. -/
def fnExactCodeOfWrong : ChangeSpec := { name := "fnExactCodeOf", fn := fun _ => fun
  | [d] => { results := [.lit (.bool false)], args := [d] }
  | _ => none }
def FnExactCodeOfWrongFalsely : Prop := fnExactCodeOfRow.holds Try.pinned (OpenSpec.ofChange fnExactCodeOfWrong)

/-- 'laws.FnExactOrderOfCode': WHATEVER THE INPUT: true; the input reads as it did. -/
def fnExactOrderOfCodeSpec : ChangeSpec := { name := "fnExactOrderOfCode", fn := fun _ => fun
  | [d] => { results := [.lit (.bool true)], args := [d] }
  | _ => none }
def fnExactOrderOfCodeRow : OpenClaim := { program := "ytcomgoapekkleaa", sum := "d240cd9175d047ce8dab569277f9a8b20ff142f3873b698134dd654f95dd168a", func := "loop.example/g01209/laws.FnExactOrderOfCode", spec := "fnExactOrderOfCode", apart := false }
def FnExactOrderOfCodeSaid : Prop := fnExactOrderOfCodeRow.holds Try.pinned (OpenSpec.ofChange fnExactOrderOfCodeSpec)

/-- ITS FALSE NEIGHBOUR: 'it returns false'. Refute it at one input. -/
def fnExactOrderOfCodeWrong : ChangeSpec := { name := "fnExactOrderOfCode", fn := fun _ => fun
  | [d] => { results := [.lit (.bool false)], args := [d] }
  | _ => none }
def FnExactOrderOfCodeWrongFalsely : Prop := fnExactOrderOfCodeRow.holds Try.pinned (OpenSpec.ofChange fnExactOrderOfCodeWrong)

/-- 'laws.FnExactLeastLadder': WHATEVER THE INPUT: true; the input reads as it did. -/
def fnExactLeastLadderSpec : ChangeSpec := { name := "fnExactLeastLadder", fn := fun _ => fun
  | [d] => { results := [.lit (.bool true)], args := [d] }
  | _ => none }
def fnExactLeastLadderRow : OpenClaim := { program := "ytcomgoapekkleaa", sum := "d240cd9175d047ce8dab569277f9a8b20ff142f3873b698134dd654f95dd168a", func := "loop.example/g01209/laws.FnExactLeastLadder", spec := "fnExactLeastLadder", recurses := true, apart := false }
def FnExactLeastLadderSaid : Prop := fnExactLeastLadderRow.holds Try.pinned (OpenSpec.ofChange fnExactLeastLadderSpec)

/-- ITS FALSE NEIGHBOUR: 'it returns false'. Refute it at one input. -/
def fnExactLeastLadderWrong : ChangeSpec := { name := "fnExactLeastLadder", fn := fun _ => fun
  | [d] => { results := [.lit (.bool false)], args := [d] }
  | _ => none }
def FnExactLeastLadderWrongFalsely : Prop := fnExactLeastLadderRow.holds Try.pinned (OpenSpec.ofChange fnExactLeastLadderWrong)

/-- 'laws.FnExactLongestLadder': WHATEVER THE INPUT: true; the input reads as it did. -/
def fnExactLongestLadderSpec : ChangeSpec := { name := "fnExactLongestLadder", fn := fun _ => fun
  | [d] => { results := [.lit (.bool true)], args := [d] }
  | _ => none }
def fnExactLongestLadderRow : OpenClaim := { program := "ytcomgoapekkleaa", sum := "d240cd9175d047ce8dab569277f9a8b20ff142f3873b698134dd654f95dd168a", func := "loop.example/g01209/laws.FnExactLongestLadder", spec := "fnExactLongestLadder", recurses := true, apart := false }
def FnExactLongestLadderSaid : Prop := fnExactLongestLadderRow.holds Try.pinned (OpenSpec.ofChange fnExactLongestLadderSpec)

/-- ITS FALSE NEIGHBOUR: 'it returns false'. Refute it at one input. -/
def fnExactLongestLadderWrong : ChangeSpec := { name := "fnExactLongestLadder", fn := fun _ => fun
  | [d] => { results := [.lit (.bool false)], args := [d] }
  | _ => none }
def FnExactLongestLadderWrongFalsely : Prop := fnExactLongestLadderRow.holds Try.pinned (OpenSpec.ofChange fnExactLongestLadderWrong)

/-- 'laws.FnExactIsLeast': WHATEVER THE INPUT: true; the input reads as it did. -/
def fnExactIsLeastSpec : ChangeSpec := { name := "fnExactIsLeast", fn := fun _ => fun
  | [d] => { results := [.lit (.bool true)], args := [d] }
  | _ => none }
def fnExactIsLeastRow : OpenClaim := { program := "ytcomgoapekkleaa", sum := "d240cd9175d047ce8dab569277f9a8b20ff142f3873b698134dd654f95dd168a", func := "loop.example/g01209/laws.FnExactIsLeast", spec := "fnExactIsLeast", recurses := true, apart := false }
def FnExactIsLeastSaid : Prop := fnExactIsLeastRow.holds Try.pinned (OpenSpec.ofChange fnExactIsLeastSpec)

/-- ITS FALSE NEIGHBOUR: 'it returns false'. Refute it at one input. -/
def fnExactIsLeastWrong : ChangeSpec := { name := "fnExactIsLeast", fn := fun _ => fun
  | [d] => { results := [.lit (.bool false)], args := [d] }
  | _ => none }
def FnExactIsLeastWrongFalsely : Prop := fnExactIsLeastRow.holds Try.pinned (OpenSpec.ofChange fnExactIsLeastWrong)

/-- 'laws.FnExactNeedlessRungs': WHATEVER THE INPUT: true; the input reads as it did. -/
def fnExactNeedlessRungsSpec : ChangeSpec := { name := "fnExactNeedlessRungs", fn := fun _ => fun
  | [d] => { results := [.lit (.bool true)], args := [d] }
  | _ => none }
def fnExactNeedlessRungsRow : OpenClaim := { program := "ytcomgoapekkleaa", sum := "d240cd9175d047ce8dab569277f9a8b20ff142f3873b698134dd654f95dd168a", func := "loop.example/g01209/laws.FnExactNeedlessRungs", spec := "fnExactNeedlessRungs", recurses := true, apart := false }
def FnExactNeedlessRungsSaid : Prop := fnExactNeedlessRungsRow.holds Try.pinned (OpenSpec.ofChange fnExactNeedlessRungsSpec)

/-- ITS FALSE NEIGHBOUR: 'it returns false'. Refute it at one input. -/
def fnExactNeedlessRungsWrong : ChangeSpec := { name := "fnExactNeedlessRungs", fn := fun _ => fun
  | [d] => { results := [.lit (.bool false)], args := [d] }
  | _ => none }
def FnExactNeedlessRungsWrongFalsely : Prop := fnExactNeedlessRungsRow.holds Try.pinned (OpenSpec.ofChange fnExactNeedlessRungsWrong)

/-- 'laws.FnExactReduceLadder': WHATEVER THE INPUT: true; the input reads as it did. -/
def fnExactReduceLadderSpec : ChangeSpec := { name := "fnExactReduceLadder", fn := fun _ => fun
  | [d] => { results := [.lit (.bool true)], args := [d] }
  | _ => none }
def fnExactReduceLadderRow : OpenClaim := { program := "ytcomgoapekkleaa", sum := "d240cd9175d047ce8dab569277f9a8b20ff142f3873b698134dd654f95dd168a", func := "loop.example/g01209/laws.FnExactReduceLadder", spec := "fnExactReduceLadder", recurses := true, apart := false }
def FnExactReduceLadderSaid : Prop := fnExactReduceLadderRow.holds Try.pinned (OpenSpec.ofChange fnExactReduceLadderSpec)

/-- ITS FALSE NEIGHBOUR: 'it returns false'. Refute it at one input. -/
def fnExactReduceLadderWrong : ChangeSpec := { name := "fnExactReduceLadder", fn := fun _ => fun
  | [d] => { results := [.lit (.bool false)], args := [d] }
  | _ => none }
def FnExactReduceLadderWrongFalsely : Prop := fnExactReduceLadderRow.holds Try.pinned (OpenSpec.ofChange fnExactReduceLadderWrong)

/- THE SECOND FORM. 'bulk': how many values and letters a reading holds, each counted each time it is reached (what is shared counts as often as it is met; a slice's spare places count too). A statement '..UptoSaid' is the law's where the arguments, and the package variables that the reading takes, are together of bulk at most 1048576: NARROWER than '..Said'. Prove '..Said' where nothing that the law and all that it calls make is longer than what came in: it says more and counts as full. Else prove '..UptoSaid'. A law counts once. -/
mutual
def uptoBulk {H : Type} : DataW H → Nat
  | .lit (.string bytes) => bytes.length + 1
  | .lit _ => 1
  | .nil => 1
  | .ptr d => uptoBulk d + 1
  | .slice elems spare => uptoBulkAll elems + uptoBulkAll spare + 1
  | .agg parts => uptoBulkAll parts + 1
  | .iface _ d => uptoBulk d + 1
  | .map entries => uptoBulkEntries entries + 1
  | .held _ => 1
def uptoBulkAll {H : Type} : List (DataW H) → Nat
  | [] => 0
  | d :: r => uptoBulk d + uptoBulkAll r
def uptoBulkEntries {H : Type} : List (Lit × DataW H) → Nat
  | [] => 0
  | x :: r => uptoBulkEntry x + uptoBulkEntries r
def uptoBulkEntry {H : Type} : Lit × DataW H → Nat
  | (.string bytes, d) => bytes.length + uptoBulk d + 1
  | (_, d) => uptoBulk d + 1
 end
def uptoSmall : (H : Type) → List (DataW H) → Bool := fun _ ds => decide (uptoBulkAll ds ≤ 1048576)
def OpenSpec.upto (s : _root_.Go.ChangeSpec) : _root_.Go.OpenSpec := { _root_.Go.OpenSpec.ofChange s with cond := some uptoSmall }

/-- 'laws.FnExactInversionsOf', WHERE WHAT IT READS IS OF BULK AT MOST 1048576: true; the input reads as it did. -/
def fnExactInversionsOfUptoRow : OpenClaim := { program := "ytcomgoapekkleaa", sum := "d240cd9175d047ce8dab569277f9a8b20ff142f3873b698134dd654f95dd168a", func := "loop.example/g01209/laws.FnExactInversionsOf", spec := "fnExactInversionsOf", recurses := true, apart := false, narrowed := true }
def FnExactInversionsOfUptoSaid : Prop := fnExactInversionsOfUptoRow.holds Try.pinned (OpenSpec.upto fnExactInversionsOfSpec)

/-- 'laws.FnExactInvertedPairs', WHERE WHAT IT READS IS OF BULK AT MOST 1048576: true; the input reads as it did. -/
def fnExactInvertedPairsUptoRow : OpenClaim := { program := "ytcomgoapekkleaa", sum := "d240cd9175d047ce8dab569277f9a8b20ff142f3873b698134dd654f95dd168a", func := "loop.example/g01209/laws.FnExactInvertedPairs", spec := "fnExactInvertedPairs", recurses := true, apart := false, narrowed := true }
def FnExactInvertedPairsUptoSaid : Prop := fnExactInvertedPairsUptoRow.holds Try.pinned (OpenSpec.upto fnExactInvertedPairsSpec)

/-- 'laws.FnExactDescentsOf', WHERE WHAT IT READS IS OF BULK AT MOST 1048576: true; the input reads as it did. -/
def fnExactDescentsOfUptoRow : OpenClaim := { program := "ytcomgoapekkleaa", sum := "d240cd9175d047ce8dab569277f9a8b20ff142f3873b698134dd654f95dd168a", func := "loop.example/g01209/laws.FnExactDescentsOf", spec := "fnExactDescentsOf", recurses := true, apart := false, narrowed := true }
def FnExactDescentsOfUptoSaid : Prop := fnExactDescentsOfUptoRow.holds Try.pinned (OpenSpec.upto fnExactDescentsOfSpec)

/-- 'laws.FnExactCodeOf', WHERE WHAT IT READS IS OF BULK AT MOST 1048576: true; the input reads as it did. -/
def fnExactCodeOfUptoRow : OpenClaim := { program := "ytcomgoapekkleaa", sum := "d240cd9175d047ce8dab569277f9a8b20ff142f3873b698134dd654f95dd168a", func := "loop.example/g01209/laws.FnExactCodeOf", spec := "fnExactCodeOf", recurses := true, apart := false, narrowed := true }
def FnExactCodeOfUptoSaid : Prop := fnExactCodeOfUptoRow.holds Try.pinned (OpenSpec.upto fnExactCodeOfSpec)

/-- 'laws.FnExactOrderOfCode', WHERE WHAT IT READS IS OF BULK AT MOST 1048576: true; the input reads as it did. -/
def fnExactOrderOfCodeUptoRow : OpenClaim := { program := "ytcomgoapekkleaa", sum := "d240cd9175d047ce8dab569277f9a8b20ff142f3873b698134dd654f95dd168a", func := "loop.example/g01209/laws.FnExactOrderOfCode", spec := "fnExactOrderOfCode", apart := false, narrowed := true }
def FnExactOrderOfCodeUptoSaid : Prop := fnExactOrderOfCodeUptoRow.holds Try.pinned (OpenSpec.upto fnExactOrderOfCodeSpec)

/-- 'laws.FnExactLeastLadder', WHERE WHAT IT READS IS OF BULK AT MOST 1048576: true; the input reads as it did. -/
def fnExactLeastLadderUptoRow : OpenClaim := { program := "ytcomgoapekkleaa", sum := "d240cd9175d047ce8dab569277f9a8b20ff142f3873b698134dd654f95dd168a", func := "loop.example/g01209/laws.FnExactLeastLadder", spec := "fnExactLeastLadder", recurses := true, apart := false, narrowed := true }
def FnExactLeastLadderUptoSaid : Prop := fnExactLeastLadderUptoRow.holds Try.pinned (OpenSpec.upto fnExactLeastLadderSpec)

/-- 'laws.FnExactLongestLadder', WHERE WHAT IT READS IS OF BULK AT MOST 1048576: true; the input reads as it did. -/
def fnExactLongestLadderUptoRow : OpenClaim := { program := "ytcomgoapekkleaa", sum := "d240cd9175d047ce8dab569277f9a8b20ff142f3873b698134dd654f95dd168a", func := "loop.example/g01209/laws.FnExactLongestLadder", spec := "fnExactLongestLadder", recurses := true, apart := false, narrowed := true }
def FnExactLongestLadderUptoSaid : Prop := fnExactLongestLadderUptoRow.holds Try.pinned (OpenSpec.upto fnExactLongestLadderSpec)

/-- 'laws.FnExactIsLeast', WHERE WHAT IT READS IS OF BULK AT MOST 1048576: true; the input reads as it did. -/
def fnExactIsLeastUptoRow : OpenClaim := { program := "ytcomgoapekkleaa", sum := "d240cd9175d047ce8dab569277f9a8b20ff142f3873b698134dd654f95dd168a", func := "loop.example/g01209/laws.FnExactIsLeast", spec := "fnExactIsLeast", recurses := true, apart := false, narrowed := true }
def FnExactIsLeastUptoSaid : Prop := fnExactIsLeastUptoRow.holds Try.pinned (OpenSpec.upto fnExactIsLeastSpec)

/-- 'laws.FnExactNeedlessRungs', WHERE WHAT IT READS IS OF BULK AT MOST 1048576: true; the input reads as it did. -/
def fnExactNeedlessRungsUptoRow : OpenClaim := { program := "ytcomgoapekkleaa", sum := "d240cd9175d047ce8dab569277f9a8b20ff142f3873b698134dd654f95dd168a", func := "loop.example/g01209/laws.FnExactNeedlessRungs", spec := "fnExactNeedlessRungs", recurses := true, apart := false, narrowed := true }
def FnExactNeedlessRungsUptoSaid : Prop := fnExactNeedlessRungsUptoRow.holds Try.pinned (OpenSpec.upto fnExactNeedlessRungsSpec)

/-- 'laws.FnExactReduceLadder', WHERE WHAT IT READS IS OF BULK AT MOST 1048576: true; the input reads as it did. -/
def fnExactReduceLadderUptoRow : OpenClaim := { program := "ytcomgoapekkleaa", sum := "d240cd9175d047ce8dab569277f9a8b20ff142f3873b698134dd654f95dd168a", func := "loop.example/g01209/laws.FnExactReduceLadder", spec := "fnExactReduceLadder", recurses := true, apart := false, narrowed := true }
def FnExactReduceLadderUptoSaid : Prop := fnExactReduceLadderUptoRow.holds Try.pinned (OpenSpec.upto fnExactReduceLadderSpec)

end Rows
end Go.Proofs.Ytcomgoapekkleaa
