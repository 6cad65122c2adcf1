/-
  No cell of these rows narrows 'for every input' (looked for: loops, veiled, ifaces, maps, wideKeys, modest, calm, conditions, laid).
  DERIVED. THE GIVEN ROWS OF THIS SEAT. 6 by the template 'for every input the law returns true; each argument reads behind the call as it read before'; 0 by the template 'total and deterministic' (their statements: YtjhjoimdidnkiaaTotals.lean).
  GIVEN WITH THE SEED: the statements are not yours to turn. If you find one false, say at which input.
  Laid BY PROGRAM, IN A SANDBOX (cutbox-rows.mjs): the forced cells as the released guide's own fill.sh prints them over the translation 38e68081884ae7ae… (all of the seat's roots in one cut). By AI agents, Wed Nov 11 2026. No macro, syntax, notation, axiom, sorry.
-/
import Derived.Test.YtjhjoimdidnkiaaChecked
import GoSem.Claim
import GoSem.ClaimJoined
import GoSem.ClaimMapViews
import Derived.JoinedTies
import Derived.KernelRfl
namespace Go.Proofs.Ytjhjoimdidnkiaa
/- THE CELL 'sum', in the pinned program and in every row, IS THE sha256 OF THE DUMP (.gsa) THAT YtjhjoimdidnkiaaProg.lean LOADS. Nothing in Lean hashes anything: it is a label: what it is worth is what the hold of that sum in a sandbox is worth. -/
noncomputable def Try.pinned : Pinned := { name := "ytjhjoimdidnkiaa", sum := "38e68081884ae7aee77084e1cabcf782e2a3a86247d683cf41b29f988d17f4c5", checked := Try.checked }
namespace Rows
def none {H : Type} : Left H := { results := [], args := [] }

/-- 'laws.FnExactIsTaking': WHATEVER THE INPUT: true; the input reads as it did. -/
def fnExactIsTakingSpec : ChangeSpec := { name := "fnExactIsTaking", fn := fun _ => fun
  | [d] => { results := [.lit (.bool true)], args := [d] }
  | _ => none }
def fnExactIsTakingRow : OpenClaim := { program := "ytjhjoimdidnkiaa", sum := "38e68081884ae7aee77084e1cabcf782e2a3a86247d683cf41b29f988d17f4c5", func := "loop.example/g01209/laws.FnExactIsTaking", spec := "fnExactIsTaking", apart := false }
def FnExactIsTakingSaid : Prop := fnExactIsTakingRow.holds Try.pinned (OpenSpec.ofChange fnExactIsTakingSpec)

/-- ITS FALSE NEIGHBOUR: 'it returns false'. Refute it at one input. -/
def fnExactIsTakingWrong : ChangeSpec := { name := "fnExactIsTaking", fn := fun _ => fun
  | [d] => { results := [.lit (.bool false)], args := [d] }
  | _ => none }
def FnExactIsTakingWrongFalsely : Prop := fnExactIsTakingRow.holds Try.pinned (OpenSpec.ofChange fnExactIsTakingWrong)

/-- 'laws.FnExactPlayTakes': WHATEVER THE INPUT: true; the input reads as it did. -/
def fnExactPlayTakesSpec : ChangeSpec := { name := "fnExactPlayTakes", fn := fun _ => fun
  | [d1, d2] => { results := [.lit (.bool true)], args := [d1, d2] }
  | _ => none }
def fnExactPlayTakesRow : OpenClaim := { program := "ytjhjoimdidnkiaa", sum := "38e68081884ae7aee77084e1cabcf782e2a3a86247d683cf41b29f988d17f4c5", func := "loop.example/g01209/laws.FnExactPlayTakes", spec := "fnExactPlayTakes", apart := false }
def FnExactPlayTakesSaid : Prop := fnExactPlayTakesRow.holds Try.pinned (OpenSpec.ofChange fnExactPlayTakesSpec)

/-- ITS FALSE NEIGHBOUR: 'it returns false'. Refute it at one input. -/
def fnExactPlayTakesWrong : ChangeSpec := { name := "fnExactPlayTakes", fn := fun _ => fun
  | [d1, d2] => { results := [.lit (.bool false)], args := [d1, d2] }
  | _ => none }
def FnExactPlayTakesWrongFalsely : Prop := fnExactPlayTakesRow.holds Try.pinned (OpenSpec.ofChange fnExactPlayTakesWrong)

/-- 'laws.FnExactCountHomeSets': WHATEVER THE INPUT: true; the input reads as it did. -/
def fnExactCountHomeSetsSpec : ChangeSpec := { name := "fnExactCountHomeSets", fn := fun _ => fun
  | [d] => { results := [.lit (.bool true)], args := [d] }
  | _ => none }
def fnExactCountHomeSetsRow : OpenClaim := { program := "ytjhjoimdidnkiaa", sum := "38e68081884ae7aee77084e1cabcf782e2a3a86247d683cf41b29f988d17f4c5", func := "loop.example/g01209/laws.FnExactCountHomeSets", spec := "fnExactCountHomeSets", apart := false }
def FnExactCountHomeSetsSaid : Prop := fnExactCountHomeSetsRow.holds Try.pinned (OpenSpec.ofChange fnExactCountHomeSetsSpec)

/-- ITS FALSE NEIGHBOUR: 'it returns false'. Refute it at one input. -/
def fnExactCountHomeSetsWrong : ChangeSpec := { name := "fnExactCountHomeSets", fn := fun _ => fun
  | [d] => { results := [.lit (.bool false)], args := [d] }
  | _ => none }
def FnExactCountHomeSetsWrongFalsely : Prop := fnExactCountHomeSetsRow.holds Try.pinned (OpenSpec.ofChange fnExactCountHomeSetsWrong)

/-- 'laws.FnExactLeastTakes': WHATEVER THE INPUT: true; the input reads as it did. -/
def fnExactLeastTakesSpec : ChangeSpec := { name := "fnExactLeastTakes", fn := fun _ => fun
  | [d] => { results := [.lit (.bool true)], args := [d] }
  | _ => none }
def fnExactLeastTakesRow : OpenClaim := { program := "ytjhjoimdidnkiaa", sum := "38e68081884ae7aee77084e1cabcf782e2a3a86247d683cf41b29f988d17f4c5", func := "loop.example/g01209/laws.FnExactLeastTakes", spec := "fnExactLeastTakes", apart := false }
def FnExactLeastTakesSaid : Prop := fnExactLeastTakesRow.holds Try.pinned (OpenSpec.ofChange fnExactLeastTakesSpec)

/-- ITS FALSE NEIGHBOUR: 'it returns false'. Refute it at one input. -/
def fnExactLeastTakesWrong : ChangeSpec := { name := "fnExactLeastTakes", fn := fun _ => fun
  | [d] => { results := [.lit (.bool false)], args := [d] }
  | _ => none }
def FnExactLeastTakesWrongFalsely : Prop := fnExactLeastTakesRow.holds Try.pinned (OpenSpec.ofChange fnExactLeastTakesWrong)

/-- 'laws.FnExactLastWins': WHATEVER THE INPUT: true; the input reads as it did. -/
def fnExactLastWinsSpec : ChangeSpec := { name := "fnExactLastWins", fn := fun _ => fun
  | [d] => { results := [.lit (.bool true)], args := [d] }
  | _ => none }
def fnExactLastWinsRow : OpenClaim := { program := "ytjhjoimdidnkiaa", sum := "38e68081884ae7aee77084e1cabcf782e2a3a86247d683cf41b29f988d17f4c5", func := "loop.example/g01209/laws.FnExactLastWins", spec := "fnExactLastWins", recurses := true, apart := false }
def FnExactLastWinsSaid : Prop := fnExactLastWinsRow.holds Try.pinned (OpenSpec.ofChange fnExactLastWinsSpec)

/-- ITS FALSE NEIGHBOUR: 'it returns false'. Refute it at one input. -/
def fnExactLastWinsWrong : ChangeSpec := { name := "fnExactLastWins", fn := fun _ => fun
  | [d] => { results := [.lit (.bool false)], args := [d] }
  | _ => none }
def FnExactLastWinsWrongFalsely : Prop := fnExactLastWinsRow.holds Try.pinned (OpenSpec.ofChange fnExactLastWinsWrong)

/-- 'laws.FnExactLastMoves': WHATEVER THE INPUT: true; the input reads as it did. -/
def fnExactLastMovesSpec : ChangeSpec := { name := "fnExactLastMoves", fn := fun _ => fun
  | [d] => { results := [.lit (.bool true)], args := [d] }
  | _ => none }
def fnExactLastMovesRow : OpenClaim := { program := "ytjhjoimdidnkiaa", sum := "38e68081884ae7aee77084e1cabcf782e2a3a86247d683cf41b29f988d17f4c5", func := "loop.example/g01209/laws.FnExactLastMoves", spec := "fnExactLastMoves", recurses := true, apart := false }
def FnExactLastMovesSaid : Prop := fnExactLastMovesRow.holds Try.pinned (OpenSpec.ofChange fnExactLastMovesSpec)

/-- ITS FALSE NEIGHBOUR: 'it returns false'. Refute it at one input. -/
def fnExactLastMovesWrong : ChangeSpec := { name := "fnExactLastMoves", fn := fun _ => fun
  | [d] => { results := [.lit (.bool false)], args := [d] }
  | _ => none }
def FnExactLastMovesWrongFalsely : Prop := fnExactLastMovesRow.holds Try.pinned (OpenSpec.ofChange fnExactLastMovesWrong)

/- THE SECOND FORM. 'bulk': how many values and letters a reading holds, each counted each time it is reached (what is shared counts as often as it is met; a slice's spare places count too). A statement '..UptoSaid' is the law's where the arguments, and the package variables that the reading takes, are together of bulk at most 1048576: NARROWER than '..Said'. Prove '..Said' where nothing that the law and all that it calls make is longer than what came in: it says more and counts as full. Else prove '..UptoSaid'. A law counts once. -/
mutual
def uptoBulk {H : Type} : DataW H → Nat
  | .lit (.string bytes) => bytes.length + 1
  | .lit _ => 1
  | .nil => 1
  | .ptr d => uptoBulk d + 1
  | .slice elems spare => uptoBulkAll elems + uptoBulkAll spare + 1
  | .agg parts => uptoBulkAll parts + 1
  | .iface _ d => uptoBulk d + 1
  | .map entries => uptoBulkEntries entries + 1
  | .held _ => 1
def uptoBulkAll {H : Type} : List (DataW H) → Nat
  | [] => 0
  | d :: r => uptoBulk d + uptoBulkAll r
def uptoBulkEntries {H : Type} : List (Lit × DataW H) → Nat
  | [] => 0
  | x :: r => uptoBulkEntry x + uptoBulkEntries r
def uptoBulkEntry {H : Type} : Lit × DataW H → Nat
  | (.string bytes, d) => bytes.length + uptoBulk d + 1
  | (_, d) => uptoBulk d + 1
 end
def uptoSmall : (H : Type) → List (DataW H) → Bool := fun _ ds => decide (uptoBulkAll ds ≤ 1048576)
def OpenSpec.upto (s : _root_.Go.ChangeSpec) : _root_.Go.OpenSpec := { _root_.Go.OpenSpec.ofChange s with cond := some uptoSmall }

/-- 'laws.FnExactIsTaking', WHERE WHAT IT READS IS OF BULK AT MOST 1048576: true; the input reads as it did. -/
def fnExactIsTakingUptoRow : OpenClaim := { program := "ytjhjoimdidnkiaa", sum := "38e68081884ae7aee77084e1cabcf782e2a3a86247d683cf41b29f988d17f4c5", func := "loop.example/g01209/laws.FnExactIsTaking", spec := "fnExactIsTaking", apart := false, narrowed := true }
def FnExactIsTakingUptoSaid : Prop := fnExactIsTakingUptoRow.holds Try.pinned (OpenSpec.upto fnExactIsTakingSpec)

/-- 'laws.FnExactPlayTakes', WHERE WHAT IT READS IS OF BULK AT MOST 1048576: true; the input reads as it did. -/
def fnExactPlayTakesUptoRow : OpenClaim := { program := "ytjhjoimdidnkiaa", sum := "38e68081884ae7aee77084e1cabcf782e2a3a86247d683cf41b29f988d17f4c5", func := "loop.example/g01209/laws.FnExactPlayTakes", spec := "fnExactPlayTakes", apart := false, narrowed := true }
def FnExactPlayTakesUptoSaid : Prop := fnExactPlayTakesUptoRow.holds Try.pinned (OpenSpec.upto fnExactPlayTakesSpec)

/-- 'laws.FnExactCountHomeSets', WHERE WHAT IT READS IS OF BULK AT MOST 1048576: true; the input reads as it did. -/
def fnExactCountHomeSetsUptoRow : OpenClaim := { program := "ytjhjoimdidnkiaa", sum := "38e68081884ae7aee77084e1cabcf782e2a3a86247d683cf41b29f988d17f4c5", func := "loop.example/g01209/laws.FnExactCountHomeSets", spec := "fnExactCountHomeSets", apart := false, narrowed := true }
def FnExactCountHomeSetsUptoSaid : Prop := fnExactCountHomeSetsUptoRow.holds Try.pinned (OpenSpec.upto fnExactCountHomeSetsSpec)

/-- 'laws.FnExactLeastTakes', WHERE WHAT IT READS IS OF BULK AT MOST 1048576: true; the input reads as it did. -/
def fnExactLeastTakesUptoRow : OpenClaim := { program := "ytjhjoimdidnkiaa", sum := "38e68081884ae7aee77084e1cabcf782e2a3a86247d683cf41b29f988d17f4c5", func := "loop.example/g01209/laws.FnExactLeastTakes", spec := "fnExactLeastTakes", apart := false, narrowed := true }
def FnExactLeastTakesUptoSaid : Prop := fnExactLeastTakesUptoRow.holds Try.pinned (OpenSpec.upto fnExactLeastTakesSpec)

/-- 'laws.FnExactLastWins', WHERE WHAT IT READS IS OF BULK AT MOST 1048576: true; the input reads as it did. -/
def fnExactLastWinsUptoRow : OpenClaim := { program := "ytjhjoimdidnkiaa", sum := "38e68081884ae7aee77084e1cabcf782e2a3a86247d683cf41b29f988d17f4c5", func := "loop.example/g01209/laws.FnExactLastWins", spec := "fnExactLastWins", recurses := true, apart := false, narrowed := true }
def FnExactLastWinsUptoSaid : Prop := fnExactLastWinsUptoRow.holds Try.pinned (OpenSpec.upto fnExactLastWinsSpec)

/-- 'laws.FnExactLastMoves', WHERE WHAT IT READS IS OF BULK AT MOST 1048576: true; the input reads as it did. -/
def fnExactLastMovesUptoRow : OpenClaim := { program := "ytjhjoimdidnkiaa", sum := "38e68081884ae7aee77084e1cabcf782e2a3a86247d683cf41b29f988d17f4c5", func := "loop.example/g01209/laws.FnExactLastMoves", spec := "fnExactLastMoves", recurses := true, apart := false, narrowed := true }
def FnExactLastMovesUptoSaid : Prop := fnExactLastMovesUptoRow.holds Try.pinned (OpenSpec.upto fnExactLastMovesSpec)

end Rows
end Go.Proofs.Ytjhjoimdidnkiaa
