/-
  No cell of these rows narrows 'for every input' (looked for: loops, veiled, ifaces, maps, wideKeys, modest, calm, conditions, laid).
  DERIVED. THE GIVEN ROWS OF THIS SEAT. 9 by the template 'for every input the law returns true; each argument reads behind the call as it read before'; 0 by the template 'total and deterministic' (their statements: YtbfilmdociemmaaTotals.lean).
  GIVEN WITH THE SEED: the statements are not yours to turn. If you find one false, say at which input.
  Laid BY PROGRAM, IN A SANDBOX (cutbox-rows.mjs): the forced cells as the released guide's own fill.sh prints them over the translation 1e302d8f734a96c5… (all of the seat's roots in one cut). By AI agents, Wed Nov 11 2026. No macro, syntax, notation, axiom, sorry.
-/
import Derived.Test.YtbfilmdociemmaaChecked
import GoSem.Claim
import GoSem.ClaimJoined
import GoSem.ClaimMapViews
import Derived.JoinedTies
import Derived.KernelRfl
namespace Go.Proofs.Ytbfilmdociemmaa
/- THE CELL 'sum', in the pinned program and in every row, IS THE sha256 OF THE DUMP (.gsa) THAT YtbfilmdociemmaaProg.lean LOADS. Nothing in Lean hashes anything: it is a label: what it is worth is what the hold of that sum in a sandbox is worth. -/
noncomputable def Try.pinned : Pinned := { name := "ytbfilmdociemmaa", sum := "1e302d8f734a96c54124e0d9077d9e9630ae3f31a109c192e7bea79c2e303dee", checked := Try.checked }
namespace Rows
def none {H : Type} : Left H := { results := [], args := [] }

/-- 'laws.FnExactSortedBy': WHATEVER THE INPUT: true; the input reads as it did. -/
def fnExactSortedBySpec : ChangeSpec := { name := "fnExactSortedBy", fn := fun _ => fun
  | [d1, d2] => { results := [.lit (.bool true)], args := [d1, d2] }
  | _ => none }
def fnExactSortedByRow : OpenClaim := { program := "ytbfilmdociemmaa", sum := "1e302d8f734a96c54124e0d9077d9e9630ae3f31a109c192e7bea79c2e303dee", func := "loop.example/g01209/laws.FnExactSortedBy", spec := "fnExactSortedBy", apart := false }
def FnExactSortedBySaid : Prop := fnExactSortedByRow.holds Try.pinned (OpenSpec.ofChange fnExactSortedBySpec)

/-- ITS FALSE NEIGHBOUR: 'it returns false'. Refute it at one input. -/
def fnExactSortedByWrong : ChangeSpec := { name := "fnExactSortedBy", fn := fun _ => fun
  | [d1, d2] => { results := [.lit (.bool false)], args := [d1, d2] }
  | _ => none }
def FnExactSortedByWrongFalsely : Prop := fnExactSortedByRow.holds Try.pinned (OpenSpec.ofChange fnExactSortedByWrong)

/-- 'laws.FnExactExchangesOf': WHATEVER THE INPUT: true; the input reads as it did. -/
def fnExactExchangesOfSpec : ChangeSpec := { name := "fnExactExchangesOf", fn := fun _ => fun
  | [d1, d2] => { results := [.lit (.bool true)], args := [d1, d2] }
  | _ => none }
def fnExactExchangesOfRow : OpenClaim := { program := "ytbfilmdociemmaa", sum := "1e302d8f734a96c54124e0d9077d9e9630ae3f31a109c192e7bea79c2e303dee", func := "loop.example/g01209/laws.FnExactExchangesOf", spec := "fnExactExchangesOf", apart := false }
def FnExactExchangesOfSaid : Prop := fnExactExchangesOfRow.holds Try.pinned (OpenSpec.ofChange fnExactExchangesOfSpec)

/-- ITS FALSE NEIGHBOUR: 'it returns false'. Refute it at one input. -/
def fnExactExchangesOfWrong : ChangeSpec := { name := "fnExactExchangesOf", fn := fun _ => fun
  | [d1, d2] => { results := [.lit (.bool false)], args := [d1, d2] }
  | _ => none }
def FnExactExchangesOfWrongFalsely : Prop := fnExactExchangesOfRow.holds Try.pinned (OpenSpec.ofChange fnExactExchangesOfWrong)

/-- 'laws.FnExactIsSorting': WHATEVER THE INPUT: true; the input reads as it did. -/
def fnExactIsSortingSpec : ChangeSpec := { name := "fnExactIsSorting", fn := fun _ => fun
  | [d] => { results := [.lit (.bool true)], args := [d] }
  | _ => none }
def fnExactIsSortingRow : OpenClaim := { program := "ytbfilmdociemmaa", sum := "1e302d8f734a96c54124e0d9077d9e9630ae3f31a109c192e7bea79c2e303dee", func := "loop.example/g01209/laws.FnExactIsSorting", spec := "fnExactIsSorting", apart := false }
def FnExactIsSortingSaid : Prop := fnExactIsSortingRow.holds Try.pinned (OpenSpec.ofChange fnExactIsSortingSpec)

/-- ITS FALSE NEIGHBOUR: 'it returns false'. Refute it at one input. -/
def fnExactIsSortingWrong : ChangeSpec := { name := "fnExactIsSorting", fn := fun _ => fun
  | [d] => { results := [.lit (.bool false)], args := [d] }
  | _ => none }
def FnExactIsSortingWrongFalsely : Prop := fnExactIsSortingRow.holds Try.pinned (OpenSpec.ofChange fnExactIsSortingWrong)

/-- 'laws.FnExactCountBitsSorted': WHATEVER THE INPUT: true; the input reads as it did. -/
def fnExactCountBitsSortedSpec : ChangeSpec := { name := "fnExactCountBitsSorted", fn := fun _ => fun
  | [d] => { results := [.lit (.bool true)], args := [d] }
  | _ => none }
def fnExactCountBitsSortedRow : OpenClaim := { program := "ytbfilmdociemmaa", sum := "1e302d8f734a96c54124e0d9077d9e9630ae3f31a109c192e7bea79c2e303dee", func := "loop.example/g01209/laws.FnExactCountBitsSorted", spec := "fnExactCountBitsSorted", unfollowed := true, recurses := true, apart := false }
def FnExactCountBitsSortedSaid : Prop := fnExactCountBitsSortedRow.holds Try.pinned (OpenSpec.ofChange fnExactCountBitsSortedSpec)

/-- ITS FALSE NEIGHBOUR: 'it returns false'. Refute it at one input. -/
def fnExactCountBitsSortedWrong : ChangeSpec := { name := "fnExactCountBitsSorted", fn := fun _ => fun
  | [d] => { results := [.lit (.bool false)], args := [d] }
  | _ => none }
def FnExactCountBitsSortedWrongFalsely : Prop := fnExactCountBitsSortedRow.holds Try.pinned (OpenSpec.ofChange fnExactCountBitsSortedWrong)

/-- 'laws.FnExactFirstBitsUnsorted': WHATEVER THE INPUT: true; the input reads as it did. -/
def fnExactFirstBitsUnsortedSpec : ChangeSpec := { name := "fnExactFirstBitsUnsorted", fn := fun _ => fun
  | [d] => { results := [.lit (.bool true)], args := [d] }
  | _ => none }
def fnExactFirstBitsUnsortedRow : OpenClaim := { program := "ytbfilmdociemmaa", sum := "1e302d8f734a96c54124e0d9077d9e9630ae3f31a109c192e7bea79c2e303dee", func := "loop.example/g01209/laws.FnExactFirstBitsUnsorted", spec := "fnExactFirstBitsUnsorted", unfollowed := true, recurses := true, apart := false }
def FnExactFirstBitsUnsortedSaid : Prop := fnExactFirstBitsUnsortedRow.holds Try.pinned (OpenSpec.ofChange fnExactFirstBitsUnsortedSpec)

/-- ITS FALSE NEIGHBOUR: 'it returns false'. Refute it at one input. -/
def fnExactFirstBitsUnsortedWrong : ChangeSpec := { name := "fnExactFirstBitsUnsorted", fn := fun _ => fun
  | [d] => { results := [.lit (.bool false)], args := [d] }
  | _ => none }
def FnExactFirstBitsUnsortedWrongFalsely : Prop := fnExactFirstBitsUnsortedRow.holds Try.pinned (OpenSpec.ofChange fnExactFirstBitsUnsortedWrong)

/-- 'laws.FnExactIdleRungs': WHATEVER THE INPUT: true; the input reads as it did. -/
def fnExactIdleRungsSpec : ChangeSpec := { name := "fnExactIdleRungs", fn := fun _ => fun
  | [d] => { results := [.lit (.bool true)], args := [d] }
  | _ => none }
def fnExactIdleRungsRow : OpenClaim := { program := "ytbfilmdociemmaa", sum := "1e302d8f734a96c54124e0d9077d9e9630ae3f31a109c192e7bea79c2e303dee", func := "loop.example/g01209/laws.FnExactIdleRungs", spec := "fnExactIdleRungs", unfollowed := true, recurses := true, apart := false }
def FnExactIdleRungsSaid : Prop := fnExactIdleRungsRow.holds Try.pinned (OpenSpec.ofChange fnExactIdleRungsSpec)

/-- ITS FALSE NEIGHBOUR: 'it returns false'. Refute it at one input. -/
def fnExactIdleRungsWrong : ChangeSpec := { name := "fnExactIdleRungs", fn := fun _ => fun
  | [d] => { results := [.lit (.bool false)], args := [d] }
  | _ => none }
def FnExactIdleRungsWrongFalsely : Prop := fnExactIdleRungsRow.holds Try.pinned (OpenSpec.ofChange fnExactIdleRungsWrong)

/-- 'laws.FnExactDropIdle': WHATEVER THE INPUT: true; the input reads as it did. -/
def fnExactDropIdleSpec : ChangeSpec := { name := "fnExactDropIdle", fn := fun _ => fun
  | [d] => { results := [.lit (.bool true)], args := [d] }
  | _ => none }
def fnExactDropIdleRow : OpenClaim := { program := "ytbfilmdociemmaa", sum := "1e302d8f734a96c54124e0d9077d9e9630ae3f31a109c192e7bea79c2e303dee", func := "loop.example/g01209/laws.FnExactDropIdle", spec := "fnExactDropIdle", unfollowed := true, recurses := true, apart := false }
def FnExactDropIdleSaid : Prop := fnExactDropIdleRow.holds Try.pinned (OpenSpec.ofChange fnExactDropIdleSpec)

/-- ITS FALSE NEIGHBOUR: 'it returns false'. Refute it at one input. -/
def fnExactDropIdleWrong : ChangeSpec := { name := "fnExactDropIdle", fn := fun _ => fun
  | [d] => { results := [.lit (.bool false)], args := [d] }
  | _ => none }
def FnExactDropIdleWrongFalsely : Prop := fnExactDropIdleRow.holds Try.pinned (OpenSpec.ofChange fnExactDropIdleWrong)

/-- 'laws.FnExactSortsFirst': WHATEVER THE INPUT: true; the input reads as it did. -/
def fnExactSortsFirstSpec : ChangeSpec := { name := "fnExactSortsFirst", fn := fun _ => fun
  | [d1, d2] => { results := [.lit (.bool true)], args := [d1, d2] }
  | _ => none }
def fnExactSortsFirstRow : OpenClaim := { program := "ytbfilmdociemmaa", sum := "1e302d8f734a96c54124e0d9077d9e9630ae3f31a109c192e7bea79c2e303dee", func := "loop.example/g01209/laws.FnExactSortsFirst", spec := "fnExactSortsFirst", unfollowed := true, recurses := true, apart := false }
def FnExactSortsFirstSaid : Prop := fnExactSortsFirstRow.holds Try.pinned (OpenSpec.ofChange fnExactSortsFirstSpec)

/-- ITS FALSE NEIGHBOUR: 'it returns false'. Refute it at one input. -/
def fnExactSortsFirstWrong : ChangeSpec := { name := "fnExactSortsFirst", fn := fun _ => fun
  | [d1, d2] => { results := [.lit (.bool false)], args := [d1, d2] }
  | _ => none }
def FnExactSortsFirstWrongFalsely : Prop := fnExactSortsFirstRow.holds Try.pinned (OpenSpec.ofChange fnExactSortsFirstWrong)

/-- 'laws.FnExactLeastBeginning': WHATEVER THE INPUT: true; the input reads as it did. -/
def fnExactLeastBeginningSpec : ChangeSpec := { name := "fnExactLeastBeginning", fn := fun _ => fun
  | [d] => { results := [.lit (.bool true)], args := [d] }
  | _ => none }
def fnExactLeastBeginningRow : OpenClaim := { program := "ytbfilmdociemmaa", sum := "1e302d8f734a96c54124e0d9077d9e9630ae3f31a109c192e7bea79c2e303dee", func := "loop.example/g01209/laws.FnExactLeastBeginning", spec := "fnExactLeastBeginning", apart := false }
def FnExactLeastBeginningSaid : Prop := fnExactLeastBeginningRow.holds Try.pinned (OpenSpec.ofChange fnExactLeastBeginningSpec)

/-- ITS FALSE NEIGHBOUR: 'it returns false'. Refute it at one input. -/
def fnExactLeastBeginningWrong : ChangeSpec := { name := "fnExactLeastBeginning", fn := fun _ => fun
  | [d] => { results := [.lit (.bool false)], args := [d] }
  | _ => none }
def FnExactLeastBeginningWrongFalsely : Prop := fnExactLeastBeginningRow.holds Try.pinned (OpenSpec.ofChange fnExactLeastBeginningWrong)

/- THE SECOND FORM. 'bulk': how many values and letters a reading holds, each counted each time it is reached (what is shared counts as often as it is met; a slice's spare places count too). A statement '..UptoSaid' is the law's where the arguments, and the package variables that the reading takes, are together of bulk at most 1048576: NARROWER than '..Said'. Prove '..Said' where nothing that the law and all that it calls make is longer than what came in: it says more and counts as full. Else prove '..UptoSaid'. A law counts once. -/
mutual
def uptoBulk {H : Type} : DataW H → Nat
  | .lit (.string bytes) => bytes.length + 1
  | .lit _ => 1
  | .nil => 1
  | .ptr d => uptoBulk d + 1
  | .slice elems spare => uptoBulkAll elems + uptoBulkAll spare + 1
  | .agg parts => uptoBulkAll parts + 1
  | .iface _ d => uptoBulk d + 1
  | .map entries => uptoBulkEntries entries + 1
  | .held _ => 1
def uptoBulkAll {H : Type} : List (DataW H) → Nat
  | [] => 0
  | d :: r => uptoBulk d + uptoBulkAll r
def uptoBulkEntries {H : Type} : List (Lit × DataW H) → Nat
  | [] => 0
  | x :: r => uptoBulkEntry x + uptoBulkEntries r
def uptoBulkEntry {H : Type} : Lit × DataW H → Nat
  | (.string bytes, d) => bytes.length + uptoBulk d + 1
  | (_, d) => uptoBulk d + 1
 end
def uptoSmall : (H : Type) → List (DataW H) → Bool := fun _ ds => decide (uptoBulkAll ds ≤ 1048576)
def OpenSpec.upto (s : _root_.Go.ChangeSpec) : _root_.Go.OpenSpec := { _root_.Go.OpenSpec.ofChange s with cond := some uptoSmall }

/-- 'laws.FnExactSortedBy', WHERE WHAT IT READS IS OF BULK AT MOST 1048576: true; the input reads as it did. -/
def fnExactSortedByUptoRow : OpenClaim := { program := "ytbfilmdociemmaa", sum := "1e302d8f734a96c54124e0d9077d9e9630ae3f31a109c192e7bea79c2e303dee", func := "loop.example/g01209/laws.FnExactSortedBy", spec := "fnExactSortedBy", apart := false, narrowed := true }
def FnExactSortedByUptoSaid : Prop := fnExactSortedByUptoRow.holds Try.pinned (OpenSpec.upto fnExactSortedBySpec)

/-- 'laws.FnExactExchangesOf', WHERE WHAT IT READS IS OF BULK AT MOST 1048576: true; the input reads as it did. -/
def fnExactExchangesOfUptoRow : OpenClaim := { program := "ytbfilmdociemmaa", sum := "1e302d8f734a96c54124e0d9077d9e9630ae3f31a109c192e7bea79c2e303dee", func := "loop.example/g01209/laws.FnExactExchangesOf", spec := "fnExactExchangesOf", apart := false, narrowed := true }
def FnExactExchangesOfUptoSaid : Prop := fnExactExchangesOfUptoRow.holds Try.pinned (OpenSpec.upto fnExactExchangesOfSpec)

/-- 'laws.FnExactIsSorting', WHERE WHAT IT READS IS OF BULK AT MOST 1048576: true; the input reads as it did. -/
def fnExactIsSortingUptoRow : OpenClaim := { program := "ytbfilmdociemmaa", sum := "1e302d8f734a96c54124e0d9077d9e9630ae3f31a109c192e7bea79c2e303dee", func := "loop.example/g01209/laws.FnExactIsSorting", spec := "fnExactIsSorting", apart := false, narrowed := true }
def FnExactIsSortingUptoSaid : Prop := fnExactIsSortingUptoRow.holds Try.pinned (OpenSpec.upto fnExactIsSortingSpec)

/-- 'laws.FnExactCountBitsSorted', WHERE WHAT IT READS IS OF BULK AT MOST 1048576: true; the input reads as it did. -/
def fnExactCountBitsSortedUptoRow : OpenClaim := { program := "ytbfilmdociemmaa", sum := "1e302d8f734a96c54124e0d9077d9e9630ae3f31a109c192e7bea79c2e303dee", func := "loop.example/g01209/laws.FnExactCountBitsSorted", spec := "fnExactCountBitsSorted", unfollowed := true, recurses := true, apart := false, narrowed := true }
def FnExactCountBitsSortedUptoSaid : Prop := fnExactCountBitsSortedUptoRow.holds Try.pinned (OpenSpec.upto fnExactCountBitsSortedSpec)

/-- 'laws.FnExactFirstBitsUnsorted', WHERE WHAT IT READS IS OF BULK AT MOST 1048576: true; the input reads as it did. -/
def fnExactFirstBitsUnsortedUptoRow : OpenClaim := { program := "ytbfilmdociemmaa", sum := "1e302d8f734a96c54124e0d9077d9e9630ae3f31a109c192e7bea79c2e303dee", func := "loop.example/g01209/laws.FnExactFirstBitsUnsorted", spec := "fnExactFirstBitsUnsorted", unfollowed := true, recurses := true, apart := false, narrowed := true }
def FnExactFirstBitsUnsortedUptoSaid : Prop := fnExactFirstBitsUnsortedUptoRow.holds Try.pinned (OpenSpec.upto fnExactFirstBitsUnsortedSpec)

/-- 'laws.FnExactIdleRungs', WHERE WHAT IT READS IS OF BULK AT MOST 1048576: true; the input reads as it did. -/
def fnExactIdleRungsUptoRow : OpenClaim := { program := "ytbfilmdociemmaa", sum := "1e302d8f734a96c54124e0d9077d9e9630ae3f31a109c192e7bea79c2e303dee", func := "loop.example/g01209/laws.FnExactIdleRungs", spec := "fnExactIdleRungs", unfollowed := true, recurses := true, apart := false, narrowed := true }
def FnExactIdleRungsUptoSaid : Prop := fnExactIdleRungsUptoRow.holds Try.pinned (OpenSpec.upto fnExactIdleRungsSpec)

/-- 'laws.FnExactDropIdle', WHERE WHAT IT READS IS OF BULK AT MOST 1048576: true; the input reads as it did. -/
def fnExactDropIdleUptoRow : OpenClaim := { program := "ytbfilmdociemmaa", sum := "1e302d8f734a96c54124e0d9077d9e9630ae3f31a109c192e7bea79c2e303dee", func := "loop.example/g01209/laws.FnExactDropIdle", spec := "fnExactDropIdle", unfollowed := true, recurses := true, apart := false, narrowed := true }
def FnExactDropIdleUptoSaid : Prop := fnExactDropIdleUptoRow.holds Try.pinned (OpenSpec.upto fnExactDropIdleSpec)

/-- 'laws.FnExactSortsFirst', WHERE WHAT IT READS IS OF BULK AT MOST 1048576: true; the input reads as it did. -/
def fnExactSortsFirstUptoRow : OpenClaim := { program := "ytbfilmdociemmaa", sum := "1e302d8f734a96c54124e0d9077d9e9630ae3f31a109c192e7bea79c2e303dee", func := "loop.example/g01209/laws.FnExactSortsFirst", spec := "fnExactSortsFirst", unfollowed := true, recurses := true, apart := false, narrowed := true }
def FnExactSortsFirstUptoSaid : Prop := fnExactSortsFirstUptoRow.holds Try.pinned (OpenSpec.upto fnExactSortsFirstSpec)

/-- 'laws.FnExactLeastBeginning', WHERE WHAT IT READS IS OF BULK AT MOST 1048576: true; the input reads as it did. -/
def fnExactLeastBeginningUptoRow : OpenClaim := { program := "ytbfilmdociemmaa", sum := "1e302d8f734a96c54124e0d9077d9e9630ae3f31a109c192e7bea79c2e303dee", func := "loop.example/g01209/laws.FnExactLeastBeginning", spec := "fnExactLeastBeginning", apart := false, narrowed := true }
def FnExactLeastBeginningUptoSaid : Prop := fnExactLeastBeginningUptoRow.holds Try.pinned (OpenSpec.upto fnExactLeastBeginningSpec)

end Rows
end Go.Proofs.Ytbfilmdociemmaa
