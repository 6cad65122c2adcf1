/-
  No cell of these rows narrows 'for every input' (looked for: loops, veiled, ifaces, maps, wideKeys, modest, calm, conditions, laid).
  DERIVED. THE GIVEN ROWS OF THIS SEAT. 9 by the template 'for every input the law returns true; each argument reads behind the call as it read before'; 0 by the template 'total and deterministic' (their statements: YtamkkmjldkhicaaTotals.lean).
  GIVEN WITH THE SEED: the statements are not yours to turn. If you find one false, say at which input.
  Laid BY PROGRAM, IN A SANDBOX (cutbox-rows.mjs): the forced cells as the released guide's own fill.sh prints them over the translation f78e26200211061e… (all of the seat's roots in one cut). By AI agents, Wed Nov 11 2026. No macro, syntax, notation, axiom, sorry.
-/
import Derived.Test.YtamkkmjldkhicaaChecked
import GoSem.Claim
import GoSem.ClaimJoined
import GoSem.ClaimMapViews
import Derived.JoinedTies
import Derived.KernelRfl
namespace Go.Proofs.Ytamkkmjldkhicaa
/- THE CELL 'sum', in the pinned program and in every row, IS THE sha256 OF THE DUMP (.gsa) THAT YtamkkmjldkhicaaProg.lean LOADS. Nothing in Lean hashes anything: it is a label: what it is worth is what the hold of that sum in a sandbox is worth. -/
noncomputable def Try.pinned : Pinned := { name := "ytamkkmjldkhicaa", sum := "f78e26200211061ed59cafd88aee9c3e7285bbe22320f333929f0f91d1d9b60d", checked := Try.checked }
namespace Rows
def none {H : Type} : Left H := { results := [], args := [] }

/-- 'laws.FnExactFirstUnsorted': WHATEVER THE INPUT: true; the input reads as it did. -/
def fnExactFirstUnsortedSpec : ChangeSpec := { name := "fnExactFirstUnsorted", fn := fun _ => fun
  | [d] => { results := [.lit (.bool true)], args := [d] }
  | _ => none }
def fnExactFirstUnsortedRow : OpenClaim := { program := "ytamkkmjldkhicaa", sum := "f78e26200211061ed59cafd88aee9c3e7285bbe22320f333929f0f91d1d9b60d", func := "loop.example/g01209/laws.FnExactFirstUnsorted", spec := "fnExactFirstUnsorted", unfollowed := true, recurses := true, apart := false }
def FnExactFirstUnsortedSaid : Prop := fnExactFirstUnsortedRow.holds Try.pinned (OpenSpec.ofChange fnExactFirstUnsortedSpec)

/-- ITS FALSE NEIGHBOUR: 'it returns false'. Refute it at one input. -/
def fnExactFirstUnsortedWrong : ChangeSpec := { name := "fnExactFirstUnsorted", fn := fun _ => fun
  | [d] => { results := [.lit (.bool false)], args := [d] }
  | _ => none }
def FnExactFirstUnsortedWrongFalsely : Prop := fnExactFirstUnsortedRow.holds Try.pinned (OpenSpec.ofChange fnExactFirstUnsortedWrong)

/-- 'laws.FnExactCountSorted': WHATEVER THE INPUT: true; the input reads as it did. -/
def fnExactCountSortedSpec : ChangeSpec := { name := "fnExactCountSorted", fn := fun _ => fun
  | [d] => { results := [.lit (.bool true)], args := [d] }
  | _ => none }
def fnExactCountSortedRow : OpenClaim := { program := "ytamkkmjldkhicaa", sum := "f78e26200211061ed59cafd88aee9c3e7285bbe22320f333929f0f91d1d9b60d", func := "loop.example/g01209/laws.FnExactCountSorted", spec := "fnExactCountSorted", unfollowed := true, recurses := true, apart := false }
def FnExactCountSortedSaid : Prop := fnExactCountSortedRow.holds Try.pinned (OpenSpec.ofChange fnExactCountSortedSpec)

/-- ITS FALSE NEIGHBOUR: 'it returns false'. Refute it at one input. -/
def fnExactCountSortedWrong : ChangeSpec := { name := "fnExactCountSorted", fn := fun _ => fun
  | [d] => { results := [.lit (.bool false)], args := [d] }
  | _ => none }
def FnExactCountSortedWrongFalsely : Prop := fnExactCountSortedRow.holds Try.pinned (OpenSpec.ofChange fnExactCountSortedWrong)

/-- 'laws.FnExactWorstOrder': WHATEVER THE INPUT: true; the input reads as it did. -/
def fnExactWorstOrderSpec : ChangeSpec := { name := "fnExactWorstOrder", fn := fun _ => fun
  | [d] => { results := [.lit (.bool true)], args := [d] }
  | _ => none }
def fnExactWorstOrderRow : OpenClaim := { program := "ytamkkmjldkhicaa", sum := "f78e26200211061ed59cafd88aee9c3e7285bbe22320f333929f0f91d1d9b60d", func := "loop.example/g01209/laws.FnExactWorstOrder", spec := "fnExactWorstOrder", unfollowed := true, recurses := true, apart := false }
def FnExactWorstOrderSaid : Prop := fnExactWorstOrderRow.holds Try.pinned (OpenSpec.ofChange fnExactWorstOrderSpec)

/-- ITS FALSE NEIGHBOUR: 'it returns false'. Refute it at one input. -/
def fnExactWorstOrderWrong : ChangeSpec := { name := "fnExactWorstOrder", fn := fun _ => fun
  | [d] => { results := [.lit (.bool false)], args := [d] }
  | _ => none }
def FnExactWorstOrderWrongFalsely : Prop := fnExactWorstOrderRow.holds Try.pinned (OpenSpec.ofChange fnExactWorstOrderWrong)

/-- 'laws.FnExactPassesOf': WHATEVER THE INPUT: true; the input reads as it did. -/
def fnExactPassesOfSpec : ChangeSpec := { name := "fnExactPassesOf", fn := fun _ => fun
  | [d] => { results := [.lit (.bool true)], args := [d] }
  | _ => none }
def fnExactPassesOfRow : OpenClaim := { program := "ytamkkmjldkhicaa", sum := "f78e26200211061ed59cafd88aee9c3e7285bbe22320f333929f0f91d1d9b60d", func := "loop.example/g01209/laws.FnExactPassesOf", spec := "fnExactPassesOf", apart := false }
def FnExactPassesOfSaid : Prop := fnExactPassesOfRow.holds Try.pinned (OpenSpec.ofChange fnExactPassesOfSpec)

/-- ITS FALSE NEIGHBOUR: 'it returns false'. Refute it at one input. -/
def fnExactPassesOfWrong : ChangeSpec := { name := "fnExactPassesOf", fn := fun _ => fun
  | [d] => { results := [.lit (.bool false)], args := [d] }
  | _ => none }
def FnExactPassesOfWrongFalsely : Prop := fnExactPassesOfRow.holds Try.pinned (OpenSpec.ofChange fnExactPassesOfWrong)

/-- 'laws.FnExactBubbleLadder': WHATEVER THE INPUT: true; the input reads as it did. -/
def fnExactBubbleLadderSpec : ChangeSpec := { name := "fnExactBubbleLadder", fn := fun _ => fun
  | [d] => { results := [.lit (.bool true)], args := [d] }
  | _ => none }
def fnExactBubbleLadderRow : OpenClaim := { program := "ytamkkmjldkhicaa", sum := "f78e26200211061ed59cafd88aee9c3e7285bbe22320f333929f0f91d1d9b60d", func := "loop.example/g01209/laws.FnExactBubbleLadder", spec := "fnExactBubbleLadder", apart := false }
def FnExactBubbleLadderSaid : Prop := fnExactBubbleLadderRow.holds Try.pinned (OpenSpec.ofChange fnExactBubbleLadderSpec)

/-- ITS FALSE NEIGHBOUR: 'it returns false'. Refute it at one input. -/
def fnExactBubbleLadderWrong : ChangeSpec := { name := "fnExactBubbleLadder", fn := fun _ => fun
  | [d] => { results := [.lit (.bool false)], args := [d] }
  | _ => none }
def FnExactBubbleLadderWrongFalsely : Prop := fnExactBubbleLadderRow.holds Try.pinned (OpenSpec.ofChange fnExactBubbleLadderWrong)

/-- 'laws.FnExactOddEvenLadder': WHATEVER THE INPUT: true; the input reads as it did. -/
def fnExactOddEvenLadderSpec : ChangeSpec := { name := "fnExactOddEvenLadder", fn := fun _ => fun
  | [d1, d2] => { results := [.lit (.bool true)], args := [d1, d2] }
  | _ => none }
def fnExactOddEvenLadderRow : OpenClaim := { program := "ytamkkmjldkhicaa", sum := "f78e26200211061ed59cafd88aee9c3e7285bbe22320f333929f0f91d1d9b60d", func := "loop.example/g01209/laws.FnExactOddEvenLadder", spec := "fnExactOddEvenLadder", apart := false }
def FnExactOddEvenLadderSaid : Prop := fnExactOddEvenLadderRow.holds Try.pinned (OpenSpec.ofChange fnExactOddEvenLadderSpec)

/-- ITS FALSE NEIGHBOUR: 'it returns false'. Refute it at one input. -/
def fnExactOddEvenLadderWrong : ChangeSpec := { name := "fnExactOddEvenLadder", fn := fun _ => fun
  | [d1, d2] => { results := [.lit (.bool false)], args := [d1, d2] }
  | _ => none }
def FnExactOddEvenLadderWrongFalsely : Prop := fnExactOddEvenLadderRow.holds Try.pinned (OpenSpec.ofChange fnExactOddEvenLadderWrong)

/-- 'laws.FnExactLeastSorting': WHATEVER THE INPUT: true; the input reads as it did. -/
def fnExactLeastSortingSpec : ChangeSpec := { name := "fnExactLeastSorting", fn := fun _ => fun
  | [d] => { results := [.lit (.bool true)], args := [d] }
  | _ => none }
def fnExactLeastSortingRow : OpenClaim := { program := "ytamkkmjldkhicaa", sum := "f78e26200211061ed59cafd88aee9c3e7285bbe22320f333929f0f91d1d9b60d", func := "loop.example/g01209/laws.FnExactLeastSorting", spec := "fnExactLeastSorting", apart := false }
def FnExactLeastSortingSaid : Prop := fnExactLeastSortingRow.holds Try.pinned (OpenSpec.ofChange fnExactLeastSortingSpec)

/-- ITS FALSE NEIGHBOUR: 'it returns false'. Refute it at one input. -/
def fnExactLeastSortingWrong : ChangeSpec := { name := "fnExactLeastSorting", fn := fun _ => fun
  | [d] => { results := [.lit (.bool false)], args := [d] }
  | _ => none }
def FnExactLeastSortingWrongFalsely : Prop := fnExactLeastSortingRow.holds Try.pinned (OpenSpec.ofChange fnExactLeastSortingWrong)

/-- 'laws.FnExactLongestLadder': WHATEVER THE INPUT: true; the input reads as it did. -/
def fnExactLongestLadderSpec : ChangeSpec := { name := "fnExactLongestLadder", fn := fun _ => fun
  | [d] => { results := [.lit (.bool true)], args := [d] }
  | _ => none }
def fnExactLongestLadderRow : OpenClaim := { program := "ytamkkmjldkhicaa", sum := "f78e26200211061ed59cafd88aee9c3e7285bbe22320f333929f0f91d1d9b60d", func := "loop.example/g01209/laws.FnExactLongestLadder", spec := "fnExactLongestLadder", recurses := true, apart := false }
def FnExactLongestLadderSaid : Prop := fnExactLongestLadderRow.holds Try.pinned (OpenSpec.ofChange fnExactLongestLadderSpec)

/-- ITS FALSE NEIGHBOUR: 'it returns false'. Refute it at one input. -/
def fnExactLongestLadderWrong : ChangeSpec := { name := "fnExactLongestLadder", fn := fun _ => fun
  | [d] => { results := [.lit (.bool false)], args := [d] }
  | _ => none }
def FnExactLongestLadderWrongFalsely : Prop := fnExactLongestLadderRow.holds Try.pinned (OpenSpec.ofChange fnExactLongestLadderWrong)

/-- 'laws.FnExactLeastPole': WHATEVER THE INPUT: true; the input reads as it did. -/
def fnExactLeastPoleSpec : ChangeSpec := { name := "fnExactLeastPole", fn := fun _ => fun
  | [d] => { results := [.lit (.bool true)], args := [d] }
  | _ => none }
def fnExactLeastPoleRow : OpenClaim := { program := "ytamkkmjldkhicaa", sum := "f78e26200211061ed59cafd88aee9c3e7285bbe22320f333929f0f91d1d9b60d", func := "loop.example/g01209/laws.FnExactLeastPole", spec := "fnExactLeastPole", unfollowed := true, recurses := true, apart := false }
def FnExactLeastPoleSaid : Prop := fnExactLeastPoleRow.holds Try.pinned (OpenSpec.ofChange fnExactLeastPoleSpec)

/-- ITS FALSE NEIGHBOUR: 'it returns false'. Refute it at one input. -/
def fnExactLeastPoleWrong : ChangeSpec := { name := "fnExactLeastPole", fn := fun _ => fun
  | [d] => { results := [.lit (.bool false)], args := [d] }
  | _ => none }
def FnExactLeastPoleWrongFalsely : Prop := fnExactLeastPoleRow.holds Try.pinned (OpenSpec.ofChange fnExactLeastPoleWrong)

/- THE SECOND FORM. 'bulk': how many values and letters a reading holds, each counted each time it is reached (what is shared counts as often as it is met; a slice's spare places count too). A statement '..UptoSaid' is the law's where the arguments, and the package variables that the reading takes, are together of bulk at most 1048576: NARROWER than '..Said'. Prove '..Said' where nothing that the law and all that it calls make is longer than what came in: it says more and counts as full. Else prove '..UptoSaid'. A law counts once. -/
mutual
def uptoBulk {H : Type} : DataW H → Nat
  | .lit (.string bytes) => bytes.length + 1
  | .lit _ => 1
  | .nil => 1
  | .ptr d => uptoBulk d + 1
  | .slice elems spare => uptoBulkAll elems + uptoBulkAll spare + 1
  | .agg parts => uptoBulkAll parts + 1
  | .iface _ d => uptoBulk d + 1
  | .map entries => uptoBulkEntries entries + 1
  | .held _ => 1
def uptoBulkAll {H : Type} : List (DataW H) → Nat
  | [] => 0
  | d :: r => uptoBulk d + uptoBulkAll r
def uptoBulkEntries {H : Type} : List (Lit × DataW H) → Nat
  | [] => 0
  | x :: r => uptoBulkEntry x + uptoBulkEntries r
def uptoBulkEntry {H : Type} : Lit × DataW H → Nat
  | (.string bytes, d) => bytes.length + uptoBulk d + 1
  | (_, d) => uptoBulk d + 1
 end
def uptoSmall : (H : Type) → List (DataW H) → Bool := fun _ ds => decide (uptoBulkAll ds ≤ 1048576)
def OpenSpec.upto (s : _root_.Go.ChangeSpec) : _root_.Go.OpenSpec := { _root_.Go.OpenSpec.ofChange s with cond := some uptoSmall }

/-- 'laws.FnExactFirstUnsorted', WHERE WHAT IT READS IS OF BULK AT MOST 1048576: true; the input reads as it did. -/
def fnExactFirstUnsortedUptoRow : OpenClaim := { program := "ytamkkmjldkhicaa", sum := "f78e26200211061ed59cafd88aee9c3e7285bbe22320f333929f0f91d1d9b60d", func := "loop.example/g01209/laws.FnExactFirstUnsorted", spec := "fnExactFirstUnsorted", unfollowed := true, recurses := true, apart := false, narrowed := true }
def FnExactFirstUnsortedUptoSaid : Prop := fnExactFirstUnsortedUptoRow.holds Try.pinned (OpenSpec.upto fnExactFirstUnsortedSpec)

/-- 'laws.FnExactCountSorted', WHERE WHAT IT READS IS OF BULK AT MOST 1048576: true; the input reads as it did. -/
def fnExactCountSortedUptoRow : OpenClaim := { program := "ytamkkmjldkhicaa", sum := "f78e26200211061ed59cafd88aee9c3e7285bbe22320f333929f0f91d1d9b60d", func := "loop.example/g01209/laws.FnExactCountSorted", spec := "fnExactCountSorted", unfollowed := true, recurses := true, apart := false, narrowed := true }
def FnExactCountSortedUptoSaid : Prop := fnExactCountSortedUptoRow.holds Try.pinned (OpenSpec.upto fnExactCountSortedSpec)

/-- 'laws.FnExactWorstOrder', WHERE WHAT IT READS IS OF BULK AT MOST 1048576: true; the input reads as it did. -/
def fnExactWorstOrderUptoRow : OpenClaim := { program := "ytamkkmjldkhicaa", sum := "f78e26200211061ed59cafd88aee9c3e7285bbe22320f333929f0f91d1d9b60d", func := "loop.example/g01209/laws.FnExactWorstOrder", spec := "fnExactWorstOrder", unfollowed := true, recurses := true, apart := false, narrowed := true }
def FnExactWorstOrderUptoSaid : Prop := fnExactWorstOrderUptoRow.holds Try.pinned (OpenSpec.upto fnExactWorstOrderSpec)

/-- 'laws.FnExactPassesOf', WHERE WHAT IT READS IS OF BULK AT MOST 1048576: true; the input reads as it did. -/
def fnExactPassesOfUptoRow : OpenClaim := { program := "ytamkkmjldkhicaa", sum := "f78e26200211061ed59cafd88aee9c3e7285bbe22320f333929f0f91d1d9b60d", func := "loop.example/g01209/laws.FnExactPassesOf", spec := "fnExactPassesOf", apart := false, narrowed := true }
def FnExactPassesOfUptoSaid : Prop := fnExactPassesOfUptoRow.holds Try.pinned (OpenSpec.upto fnExactPassesOfSpec)

/-- 'laws.FnExactBubbleLadder', WHERE WHAT IT READS IS OF BULK AT MOST 1048576: true; the input reads as it did. -/
def fnExactBubbleLadderUptoRow : OpenClaim := { program := "ytamkkmjldkhicaa", sum := "f78e26200211061ed59cafd88aee9c3e7285bbe22320f333929f0f91d1d9b60d", func := "loop.example/g01209/laws.FnExactBubbleLadder", spec := "fnExactBubbleLadder", apart := false, narrowed := true }
def FnExactBubbleLadderUptoSaid : Prop := fnExactBubbleLadderUptoRow.holds Try.pinned (OpenSpec.upto fnExactBubbleLadderSpec)

/-- 'laws.FnExactOddEvenLadder', WHERE WHAT IT READS IS OF BULK AT MOST 1048576: true; the input reads as it did. -/
def fnExactOddEvenLadderUptoRow : OpenClaim := { program := "ytamkkmjldkhicaa", sum := "f78e26200211061ed59cafd88aee9c3e7285bbe22320f333929f0f91d1d9b60d", func := "loop.example/g01209/laws.FnExactOddEvenLadder", spec := "fnExactOddEvenLadder", apart := false, narrowed := true }
def FnExactOddEvenLadderUptoSaid : Prop := fnExactOddEvenLadderUptoRow.holds Try.pinned (OpenSpec.upto fnExactOddEvenLadderSpec)

/-- 'laws.FnExactLeastSorting', WHERE WHAT IT READS IS OF BULK AT MOST 1048576: true; the input reads as it did. -/
def fnExactLeastSortingUptoRow : OpenClaim := { program := "ytamkkmjldkhicaa", sum := "f78e26200211061ed59cafd88aee9c3e7285bbe22320f333929f0f91d1d9b60d", func := "loop.example/g01209/laws.FnExactLeastSorting", spec := "fnExactLeastSorting", apart := false, narrowed := true }
def FnExactLeastSortingUptoSaid : Prop := fnExactLeastSortingUptoRow.holds Try.pinned (OpenSpec.upto fnExactLeastSortingSpec)

/-- 'laws.FnExactLongestLadder', WHERE WHAT IT READS IS OF BULK AT MOST 1048576: true; the input reads as it did. -/
def fnExactLongestLadderUptoRow : OpenClaim := { program := "ytamkkmjldkhicaa", sum := "f78e26200211061ed59cafd88aee9c3e7285bbe22320f333929f0f91d1d9b60d", func := "loop.example/g01209/laws.FnExactLongestLadder", spec := "fnExactLongestLadder", recurses := true, apart := false, narrowed := true }
def FnExactLongestLadderUptoSaid : Prop := fnExactLongestLadderUptoRow.holds Try.pinned (OpenSpec.upto fnExactLongestLadderSpec)

/-- 'laws.FnExactLeastPole', WHERE WHAT IT READS IS OF BULK AT MOST 1048576: true; the input reads as it did. -/
def fnExactLeastPoleUptoRow : OpenClaim := { program := "ytamkkmjldkhicaa", sum := "f78e26200211061ed59cafd88aee9c3e7285bbe22320f333929f0f91d1d9b60d", func := "loop.example/g01209/laws.FnExactLeastPole", spec := "fnExactLeastPole", unfollowed := true, recurses := true, apart := false, narrowed := true }
def FnExactLeastPoleUptoSaid : Prop := fnExactLeastPoleUptoRow.holds Try.pinned (OpenSpec.upto fnExactLeastPoleSpec)

end Rows
end Go.Proofs.Ytamkkmjldkhicaa
