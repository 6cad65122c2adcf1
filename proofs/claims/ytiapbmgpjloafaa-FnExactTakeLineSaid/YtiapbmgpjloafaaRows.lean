/-
  No cell of these rows narrows 'for every input' (looked for: loops, veiled, ifaces, maps, wideKeys, modest, calm, conditions, laid).
  DERIVED. THE GIVEN ROWS OF THIS SEAT. 7 by the template 'for every input the law returns true; each argument reads behind the call as it read before'; 0 by the template 'total and deterministic' (their statements: YtiapbmgpjloafaaTotals.lean).
  GIVEN WITH THE SEED: the statements are not yours to turn. If you find one false, say at which input.
  Laid BY PROGRAM, IN A SANDBOX (cutbox-rows.mjs): the forced cells as the released guide's own fill.sh prints them over the translation b393f3c68c03a44e… (all of the seat's roots in one cut). By AI agents, Wed Nov 11 2026. No macro, syntax, notation, axiom, sorry.
-/
import Derived.Test.YtiapbmgpjloafaaChecked
import GoSem.Claim
import GoSem.ClaimJoined
import GoSem.ClaimMapViews
import Derived.JoinedTies
import Derived.KernelRfl
namespace Go.Proofs.Ytiapbmgpjloafaa
/- THE CELL 'sum', in the pinned program and in every row, IS THE sha256 OF THE DUMP (.gsa) THAT YtiapbmgpjloafaaProg.lean LOADS. Nothing in Lean hashes anything: it is a label: what it is worth is what the hold of that sum in a sandbox is worth. -/
noncomputable def Try.pinned : Pinned := { name := "ytiapbmgpjloafaa", sum := "b393f3c68c03a44ee90165b233b047d10b5efad524c686b1134ce7faf1bf8f58", checked := Try.checked }
namespace Rows
def none {H : Type} : Left H := { results := [], args := [] }

/-- 'laws.FnExactTakeWinner': WHATEVER THE INPUT: true; the input reads as it did. -/
def fnExactTakeWinnerSpec : ChangeSpec := { name := "fnExactTakeWinner", fn := fun _ => fun
  | [d] => { results := [.lit (.bool true)], args := [d] }
  | _ => none }
def fnExactTakeWinnerRow : OpenClaim := { program := "ytiapbmgpjloafaa", sum := "b393f3c68c03a44ee90165b233b047d10b5efad524c686b1134ce7faf1bf8f58", func := "loop.example/g01209/laws.FnExactTakeWinner", spec := "fnExactTakeWinner", unfollowed := true, recurses := true, apart := false }
def FnExactTakeWinnerSaid : Prop := fnExactTakeWinnerRow.holds Try.pinned (OpenSpec.ofChange fnExactTakeWinnerSpec)

/-- ITS FALSE NEIGHBOUR: 'it returns false'. Refute it at one input. -/
def fnExactTakeWinnerWrong : ChangeSpec := { name := "fnExactTakeWinner", fn := fun _ => fun
  | [d] => { results := [.lit (.bool false)], args := [d] }
  | _ => none }
def FnExactTakeWinnerWrongFalsely : Prop := fnExactTakeWinnerRow.holds Try.pinned (OpenSpec.ofChange fnExactTakeWinnerWrong)

/-- 'laws.FnExactGoodTakes': WHATEVER THE INPUT: true; the input reads as it did. -/
def fnExactGoodTakesSpec : ChangeSpec := { name := "fnExactGoodTakes", fn := fun _ => fun
  | [d] => { results := [.lit (.bool true)], args := [d] }
  | _ => none }
def fnExactGoodTakesRow : OpenClaim := { program := "ytiapbmgpjloafaa", sum := "b393f3c68c03a44ee90165b233b047d10b5efad524c686b1134ce7faf1bf8f58", func := "loop.example/g01209/laws.FnExactGoodTakes", spec := "fnExactGoodTakes", unfollowed := true, recurses := true, apart := false }
def FnExactGoodTakesSaid : Prop := fnExactGoodTakesRow.holds Try.pinned (OpenSpec.ofChange fnExactGoodTakesSpec)

/-- ITS FALSE NEIGHBOUR: 'it returns false'. Refute it at one input. -/
def fnExactGoodTakesWrong : ChangeSpec := { name := "fnExactGoodTakes", fn := fun _ => fun
  | [d] => { results := [.lit (.bool false)], args := [d] }
  | _ => none }
def FnExactGoodTakesWrongFalsely : Prop := fnExactGoodTakesRow.holds Try.pinned (OpenSpec.ofChange fnExactGoodTakesWrong)

/-- 'laws.FnExactTakeLength': WHATEVER THE INPUT: true; the input reads as it did. -/
def fnExactTakeLengthSpec : ChangeSpec := { name := "fnExactTakeLength", fn := fun _ => fun
  | [d] => { results := [.lit (.bool true)], args := [d] }
  | _ => none }
def fnExactTakeLengthRow : OpenClaim := { program := "ytiapbmgpjloafaa", sum := "b393f3c68c03a44ee90165b233b047d10b5efad524c686b1134ce7faf1bf8f58", func := "loop.example/g01209/laws.FnExactTakeLength", spec := "fnExactTakeLength", unfollowed := true, recurses := true, apart := false }
def FnExactTakeLengthSaid : Prop := fnExactTakeLengthRow.holds Try.pinned (OpenSpec.ofChange fnExactTakeLengthSpec)

/-- ITS FALSE NEIGHBOUR: 'it returns false'. Refute it at one input. -/
def fnExactTakeLengthWrong : ChangeSpec := { name := "fnExactTakeLength", fn := fun _ => fun
  | [d] => { results := [.lit (.bool false)], args := [d] }
  | _ => none }
def FnExactTakeLengthWrongFalsely : Prop := fnExactTakeLengthRow.holds Try.pinned (OpenSpec.ofChange fnExactTakeLengthWrong)

/-- 'laws.FnExactTakeLine': WHATEVER THE INPUT: true; the input reads as it did. -/
def fnExactTakeLineSpec : ChangeSpec := { name := "fnExactTakeLine", fn := fun _ => fun
  | [d] => { results := [.lit (.bool true)], args := [d] }
  | _ => none }
def fnExactTakeLineRow : OpenClaim := { program := "ytiapbmgpjloafaa", sum := "b393f3c68c03a44ee90165b233b047d10b5efad524c686b1134ce7faf1bf8f58", func := "loop.example/g01209/laws.FnExactTakeLine", spec := "fnExactTakeLine", unfollowed := true, recurses := true, apart := false }
def FnExactTakeLineSaid : Prop := fnExactTakeLineRow.holds Try.pinned (OpenSpec.ofChange fnExactTakeLineSpec)

/-- ITS FALSE NEIGHBOUR: 'it returns false'. Refute it at one input. -/
def fnExactTakeLineWrong : ChangeSpec := { name := "fnExactTakeLine", fn := fun _ => fun
  | [d] => { results := [.lit (.bool false)], args := [d] }
  | _ => none }
def FnExactTakeLineWrongFalsely : Prop := fnExactTakeLineRow.holds Try.pinned (OpenSpec.ofChange fnExactTakeLineWrong)

/-- 'laws.FnExactPlaceWinner': WHATEVER THE INPUT: true; the input reads as it did. -/
def fnExactPlaceWinnerSpec : ChangeSpec := { name := "fnExactPlaceWinner", fn := fun _ => fun
  | [d1, d2, d3, d4] => { results := [.lit (.bool true)], args := [d1, d2, d3, d4] }
  | _ => none }
def fnExactPlaceWinnerRow : OpenClaim := { program := "ytiapbmgpjloafaa", sum := "b393f3c68c03a44ee90165b233b047d10b5efad524c686b1134ce7faf1bf8f58", func := "loop.example/g01209/laws.FnExactPlaceWinner", spec := "fnExactPlaceWinner", unfollowed := true, recurses := true, apart := false }
def FnExactPlaceWinnerSaid : Prop := fnExactPlaceWinnerRow.holds Try.pinned (OpenSpec.ofChange fnExactPlaceWinnerSpec)

/-- ITS FALSE NEIGHBOUR: 'it returns false'. Refute it at one input. -/
def fnExactPlaceWinnerWrong : ChangeSpec := { name := "fnExactPlaceWinner", fn := fun _ => fun
  | [d1, d2, d3, d4] => { results := [.lit (.bool false)], args := [d1, d2, d3, d4] }
  | _ => none }
def FnExactPlaceWinnerWrongFalsely : Prop := fnExactPlaceWinnerRow.holds Try.pinned (OpenSpec.ofChange fnExactPlaceWinnerWrong)

/-- 'laws.FnExactGoodPlaces': WHATEVER THE INPUT: true; the input reads as it did. -/
def fnExactGoodPlacesSpec : ChangeSpec := { name := "fnExactGoodPlaces", fn := fun _ => fun
  | [d1, d2, d3, d4] => { results := [.lit (.bool true)], args := [d1, d2, d3, d4] }
  | _ => none }
def fnExactGoodPlacesRow : OpenClaim := { program := "ytiapbmgpjloafaa", sum := "b393f3c68c03a44ee90165b233b047d10b5efad524c686b1134ce7faf1bf8f58", func := "loop.example/g01209/laws.FnExactGoodPlaces", spec := "fnExactGoodPlaces", unfollowed := true, recurses := true, apart := false }
def FnExactGoodPlacesSaid : Prop := fnExactGoodPlacesRow.holds Try.pinned (OpenSpec.ofChange fnExactGoodPlacesSpec)

/-- ITS FALSE NEIGHBOUR: 'it returns false'. Refute it at one input. -/
def fnExactGoodPlacesWrong : ChangeSpec := { name := "fnExactGoodPlaces", fn := fun _ => fun
  | [d1, d2, d3, d4] => { results := [.lit (.bool false)], args := [d1, d2, d3, d4] }
  | _ => none }
def FnExactGoodPlacesWrongFalsely : Prop := fnExactGoodPlacesRow.holds Try.pinned (OpenSpec.ofChange fnExactGoodPlacesWrong)

/-- 'laws.FnExactPlacesWon': WHATEVER THE INPUT: true; the input reads as it did. -/
def fnExactPlacesWonSpec : ChangeSpec := { name := "fnExactPlacesWon", fn := fun _ => fun
  | [d1, d2, d3] => { results := [.lit (.bool true)], args := [d1, d2, d3] }
  | _ => none }
def fnExactPlacesWonRow : OpenClaim := { program := "ytiapbmgpjloafaa", sum := "b393f3c68c03a44ee90165b233b047d10b5efad524c686b1134ce7faf1bf8f58", func := "loop.example/g01209/laws.FnExactPlacesWon", spec := "fnExactPlacesWon", unfollowed := true, recurses := true, apart := false }
def FnExactPlacesWonSaid : Prop := fnExactPlacesWonRow.holds Try.pinned (OpenSpec.ofChange fnExactPlacesWonSpec)

/-- ITS FALSE NEIGHBOUR: 'it returns false'. Refute it at one input. -/
def fnExactPlacesWonWrong : ChangeSpec := { name := "fnExactPlacesWon", fn := fun _ => fun
  | [d1, d2, d3] => { results := [.lit (.bool false)], args := [d1, d2, d3] }
  | _ => none }
def FnExactPlacesWonWrongFalsely : Prop := fnExactPlacesWonRow.holds Try.pinned (OpenSpec.ofChange fnExactPlacesWonWrong)

/- THE SECOND FORM. 'bulk': how many values and letters a reading holds, each counted each time it is reached (what is shared counts as often as it is met; a slice's spare places count too). A statement '..UptoSaid' is the law's where the arguments, and the package variables that the reading takes, are together of bulk at most 1048576: NARROWER than '..Said'. Prove '..Said' where nothing that the law and all that it calls make is longer than what came in: it says more and counts as full. Else prove '..UptoSaid'. A law counts once. -/
mutual
def uptoBulk {H : Type} : DataW H → Nat
  | .lit (.string bytes) => bytes.length + 1
  | .lit _ => 1
  | .nil => 1
  | .ptr d => uptoBulk d + 1
  | .slice elems spare => uptoBulkAll elems + uptoBulkAll spare + 1
  | .agg parts => uptoBulkAll parts + 1
  | .iface _ d => uptoBulk d + 1
  | .map entries => uptoBulkEntries entries + 1
  | .held _ => 1
def uptoBulkAll {H : Type} : List (DataW H) → Nat
  | [] => 0
  | d :: r => uptoBulk d + uptoBulkAll r
def uptoBulkEntries {H : Type} : List (Lit × DataW H) → Nat
  | [] => 0
  | x :: r => uptoBulkEntry x + uptoBulkEntries r
def uptoBulkEntry {H : Type} : Lit × DataW H → Nat
  | (.string bytes, d) => bytes.length + uptoBulk d + 1
  | (_, d) => uptoBulk d + 1
 end
def uptoSmall : (H : Type) → List (DataW H) → Bool := fun _ ds => decide (uptoBulkAll ds ≤ 1048576)
def OpenSpec.upto (s : _root_.Go.ChangeSpec) : _root_.Go.OpenSpec := { _root_.Go.OpenSpec.ofChange s with cond := some uptoSmall }

/-- 'laws.FnExactTakeWinner', WHERE WHAT IT READS IS OF BULK AT MOST 1048576: true; the input reads as it did. -/
def fnExactTakeWinnerUptoRow : OpenClaim := { program := "ytiapbmgpjloafaa", sum := "b393f3c68c03a44ee90165b233b047d10b5efad524c686b1134ce7faf1bf8f58", func := "loop.example/g01209/laws.FnExactTakeWinner", spec := "fnExactTakeWinner", unfollowed := true, recurses := true, apart := false, narrowed := true }
def FnExactTakeWinnerUptoSaid : Prop := fnExactTakeWinnerUptoRow.holds Try.pinned (OpenSpec.upto fnExactTakeWinnerSpec)

/-- 'laws.FnExactGoodTakes', WHERE WHAT IT READS IS OF BULK AT MOST 1048576: true; the input reads as it did. -/
def fnExactGoodTakesUptoRow : OpenClaim := { program := "ytiapbmgpjloafaa", sum := "b393f3c68c03a44ee90165b233b047d10b5efad524c686b1134ce7faf1bf8f58", func := "loop.example/g01209/laws.FnExactGoodTakes", spec := "fnExactGoodTakes", unfollowed := true, recurses := true, apart := false, narrowed := true }
def FnExactGoodTakesUptoSaid : Prop := fnExactGoodTakesUptoRow.holds Try.pinned (OpenSpec.upto fnExactGoodTakesSpec)

/-- 'laws.FnExactTakeLength', WHERE WHAT IT READS IS OF BULK AT MOST 1048576: true; the input reads as it did. -/
def fnExactTakeLengthUptoRow : OpenClaim := { program := "ytiapbmgpjloafaa", sum := "b393f3c68c03a44ee90165b233b047d10b5efad524c686b1134ce7faf1bf8f58", func := "loop.example/g01209/laws.FnExactTakeLength", spec := "fnExactTakeLength", unfollowed := true, recurses := true, apart := false, narrowed := true }
def FnExactTakeLengthUptoSaid : Prop := fnExactTakeLengthUptoRow.holds Try.pinned (OpenSpec.upto fnExactTakeLengthSpec)

/-- 'laws.FnExactTakeLine', WHERE WHAT IT READS IS OF BULK AT MOST 1048576: true; the input reads as it did. -/
def fnExactTakeLineUptoRow : OpenClaim := { program := "ytiapbmgpjloafaa", sum := "b393f3c68c03a44ee90165b233b047d10b5efad524c686b1134ce7faf1bf8f58", func := "loop.example/g01209/laws.FnExactTakeLine", spec := "fnExactTakeLine", unfollowed := true, recurses := true, apart := false, narrowed := true }
def FnExactTakeLineUptoSaid : Prop := fnExactTakeLineUptoRow.holds Try.pinned (OpenSpec.upto fnExactTakeLineSpec)

/-- 'laws.FnExactPlaceWinner', WHERE WHAT IT READS IS OF BULK AT MOST 1048576: true; the input reads as it did. -/
def fnExactPlaceWinnerUptoRow : OpenClaim := { program := "ytiapbmgpjloafaa", sum := "b393f3c68c03a44ee90165b233b047d10b5efad524c686b1134ce7faf1bf8f58", func := "loop.example/g01209/laws.FnExactPlaceWinner", spec := "fnExactPlaceWinner", unfollowed := true, recurses := true, apart := false, narrowed := true }
def FnExactPlaceWinnerUptoSaid : Prop := fnExactPlaceWinnerUptoRow.holds Try.pinned (OpenSpec.upto fnExactPlaceWinnerSpec)

/-- 'laws.FnExactGoodPlaces', WHERE WHAT IT READS IS OF BULK AT MOST 1048576: true; the input reads as it did. -/
def fnExactGoodPlacesUptoRow : OpenClaim := { program := "ytiapbmgpjloafaa", sum := "b393f3c68c03a44ee90165b233b047d10b5efad524c686b1134ce7faf1bf8f58", func := "loop.example/g01209/laws.FnExactGoodPlaces", spec := "fnExactGoodPlaces", unfollowed := true, recurses := true, apart := false, narrowed := true }
def FnExactGoodPlacesUptoSaid : Prop := fnExactGoodPlacesUptoRow.holds Try.pinned (OpenSpec.upto fnExactGoodPlacesSpec)

/-- 'laws.FnExactPlacesWon', WHERE WHAT IT READS IS OF BULK AT MOST 1048576: true; the input reads as it did. -/
def fnExactPlacesWonUptoRow : OpenClaim := { program := "ytiapbmgpjloafaa", sum := "b393f3c68c03a44ee90165b233b047d10b5efad524c686b1134ce7faf1bf8f58", func := "loop.example/g01209/laws.FnExactPlacesWon", spec := "fnExactPlacesWon", unfollowed := true, recurses := true, apart := false, narrowed := true }
def FnExactPlacesWonUptoSaid : Prop := fnExactPlacesWonUptoRow.holds Try.pinned (OpenSpec.upto fnExactPlacesWonSpec)

end Rows
end Go.Proofs.Ytiapbmgpjloafaa
