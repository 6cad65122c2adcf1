/-
  No cell of these rows narrows 'for every input' (looked for: loops, veiled, ifaces, maps, wideKeys, modest, calm, conditions, laid).
  DERIVED. THE GIVEN ROWS OF THIS SEAT. 8 by the template 'for every input the law returns true; each argument reads behind the call as it read before'; 0 by the template 'total and deterministic' (their statements: YthalcjgpjagcoaaTotals.lean).
  GIVEN WITH THE SEED: the statements are not yours to turn. If you find one false, say at which input.
  Laid BY PROGRAM, IN A SANDBOX (cutbox-rows.mjs): the forced cells as the released guide's own fill.sh prints them over the translation f567ca825db5d312… (all of the seat's roots in one cut). By AI agents, Wed Nov 11 2026. No macro, syntax, notation, axiom, sorry.
-/
import Derived.Test.YthalcjgpjagcoaaChecked
import GoSem.Claim
import GoSem.ClaimJoined
import GoSem.ClaimMapViews
import Derived.JoinedTies
import Derived.KernelRfl
namespace Go.Proofs.Ythalcjgpjagcoaa
/- THE CELL 'sum', in the pinned program and in every row, IS THE sha256 OF THE DUMP (.gsa) THAT YthalcjgpjagcoaaProg.lean LOADS. Nothing in Lean hashes anything: it is a label: what it is worth is what the hold of that sum in a sandbox is worth. -/
noncomputable def Try.pinned : Pinned := { name := "ythalcjgpjagcoaa", sum := "f567ca825db5d312fce3ecddd7247346c0e4c004053e8415441a1f3e6333c82c", checked := Try.checked }
namespace Rows
def none {H : Type} : Left H := { results := [], args := [] }

/-- 'laws.FnExactMeetingTable': WHATEVER THE INPUT: true; the input reads as it did. -/
def fnExactMeetingTableSpec : ChangeSpec := { name := "fnExactMeetingTable", fn := fun _ => fun
  | [d] => { results := [.lit (.bool true)], args := [d] }
  | _ => none }
def fnExactMeetingTableRow : OpenClaim := { program := "ythalcjgpjagcoaa", sum := "f567ca825db5d312fce3ecddd7247346c0e4c004053e8415441a1f3e6333c82c", func := "loop.example/g01209/laws.FnExactMeetingTable", spec := "fnExactMeetingTable", apart := false }
def FnExactMeetingTableSaid : Prop := fnExactMeetingTableRow.holds Try.pinned (OpenSpec.ofChange fnExactMeetingTableSpec)

/-- ITS FALSE NEIGHBOUR: 'it returns false'. Refute it at one input. -/
def fnExactMeetingTableWrong : ChangeSpec := { name := "fnExactMeetingTable", fn := fun _ => fun
  | [d] => { results := [.lit (.bool false)], args := [d] }
  | _ => none }
def FnExactMeetingTableWrongFalsely : Prop := fnExactMeetingTableRow.holds Try.pinned (OpenSpec.ofChange fnExactMeetingTableWrong)

/-- 'laws.FnExactPatternOf': WHATEVER THE INPUT: true; the input reads as it did. -/
def fnExactPatternOfSpec : ChangeSpec := { name := "fnExactPatternOf", fn := fun _ => fun
  | [d1, d2] => { results := [.lit (.bool true)], args := [d1, d2] }
  | _ => none }
def fnExactPatternOfRow : OpenClaim := { program := "ythalcjgpjagcoaa", sum := "f567ca825db5d312fce3ecddd7247346c0e4c004053e8415441a1f3e6333c82c", func := "loop.example/g01209/laws.FnExactPatternOf", spec := "fnExactPatternOf", recurses := true, apart := false }
def FnExactPatternOfSaid : Prop := fnExactPatternOfRow.holds Try.pinned (OpenSpec.ofChange fnExactPatternOfSpec)

/-- ITS FALSE NEIGHBOUR: 'it returns false'. Refute it at one input. -/
def fnExactPatternOfWrong : ChangeSpec := { name := "fnExactPatternOf", fn := fun _ => fun
  | [d1, d2] => { results := [.lit (.bool false)], args := [d1, d2] }
  | _ => none }
def FnExactPatternOfWrongFalsely : Prop := fnExactPatternOfRow.holds Try.pinned (OpenSpec.ofChange fnExactPatternOfWrong)

/-- 'laws.FnExactCountPattern': WHATEVER THE INPUT: true; the input reads as it did. -/
def fnExactCountPatternSpec : ChangeSpec := { name := "fnExactCountPattern", fn := fun _ => fun
  | [d1, d2] => { results := [.lit (.bool true)], args := [d1, d2] }
  | _ => none }
def fnExactCountPatternRow : OpenClaim := { program := "ythalcjgpjagcoaa", sum := "f567ca825db5d312fce3ecddd7247346c0e4c004053e8415441a1f3e6333c82c", func := "loop.example/g01209/laws.FnExactCountPattern", spec := "fnExactCountPattern", recurses := true, apart := false }
def FnExactCountPatternSaid : Prop := fnExactCountPatternRow.holds Try.pinned (OpenSpec.ofChange fnExactCountPatternSpec)

/-- ITS FALSE NEIGHBOUR: 'it returns false'. Refute it at one input. -/
def fnExactCountPatternWrong : ChangeSpec := { name := "fnExactCountPattern", fn := fun _ => fun
  | [d1, d2] => { results := [.lit (.bool false)], args := [d1, d2] }
  | _ => none }
def FnExactCountPatternWrongFalsely : Prop := fnExactCountPatternRow.holds Try.pinned (OpenSpec.ofChange fnExactCountPatternWrong)

/-- 'laws.FnExactPrizesOf': WHATEVER THE INPUT: true; the input reads as it did. -/
def fnExactPrizesOfSpec : ChangeSpec := { name := "fnExactPrizesOf", fn := fun _ => fun
  | [d1, d2] => { results := [.lit (.bool true)], args := [d1, d2] }
  | _ => none }
def fnExactPrizesOfRow : OpenClaim := { program := "ythalcjgpjagcoaa", sum := "f567ca825db5d312fce3ecddd7247346c0e4c004053e8415441a1f3e6333c82c", func := "loop.example/g01209/laws.FnExactPrizesOf", spec := "fnExactPrizesOf", apart := false }
def FnExactPrizesOfSaid : Prop := fnExactPrizesOfRow.holds Try.pinned (OpenSpec.ofChange fnExactPrizesOfSpec)

/-- ITS FALSE NEIGHBOUR: 'it returns false'. Refute it at one input. -/
def fnExactPrizesOfWrong : ChangeSpec := { name := "fnExactPrizesOf", fn := fun _ => fun
  | [d1, d2] => { results := [.lit (.bool false)], args := [d1, d2] }
  | _ => none }
def FnExactPrizesOfWrongFalsely : Prop := fnExactPrizesOfRow.holds Try.pinned (OpenSpec.ofChange fnExactPrizesOfWrong)

/-- 'laws.FnExactStartsFor': WHATEVER THE INPUT: true; the input reads as it did. -/
def fnExactStartsForSpec : ChangeSpec := { name := "fnExactStartsFor", fn := fun _ => fun
  | [d1, d2, d3] => { results := [.lit (.bool true)], args := [d1, d2, d3] }
  | _ => none }
def fnExactStartsForRow : OpenClaim := { program := "ythalcjgpjagcoaa", sum := "f567ca825db5d312fce3ecddd7247346c0e4c004053e8415441a1f3e6333c82c", func := "loop.example/g01209/laws.FnExactStartsFor", spec := "fnExactStartsFor", unfollowed := true, recurses := true, apart := false }
def FnExactStartsForSaid : Prop := fnExactStartsForRow.holds Try.pinned (OpenSpec.ofChange fnExactStartsForSpec)

/-- ITS FALSE NEIGHBOUR: 'it returns false'. Refute it at one input. -/
def fnExactStartsForWrong : ChangeSpec := { name := "fnExactStartsFor", fn := fun _ => fun
  | [d1, d2, d3] => { results := [.lit (.bool false)], args := [d1, d2, d3] }
  | _ => none }
def FnExactStartsForWrongFalsely : Prop := fnExactStartsForRow.holds Try.pinned (OpenSpec.ofChange fnExactStartsForWrong)

/-- 'laws.FnExactAreSameFor': WHATEVER THE INPUT: true; the input reads as it did. -/
def fnExactAreSameForSpec : ChangeSpec := { name := "fnExactAreSameFor", fn := fun _ => fun
  | [d1, d2, d3] => { results := [.lit (.bool true)], args := [d1, d2, d3] }
  | _ => none }
def fnExactAreSameForRow : OpenClaim := { program := "ythalcjgpjagcoaa", sum := "f567ca825db5d312fce3ecddd7247346c0e4c004053e8415441a1f3e6333c82c", func := "loop.example/g01209/laws.FnExactAreSameFor", spec := "fnExactAreSameFor", apart := false }
def FnExactAreSameForSaid : Prop := fnExactAreSameForRow.holds Try.pinned (OpenSpec.ofChange fnExactAreSameForSpec)

/-- ITS FALSE NEIGHBOUR: 'it returns false'. Refute it at one input. -/
def fnExactAreSameForWrong : ChangeSpec := { name := "fnExactAreSameFor", fn := fun _ => fun
  | [d1, d2, d3] => { results := [.lit (.bool false)], args := [d1, d2, d3] }
  | _ => none }
def FnExactAreSameForWrongFalsely : Prop := fnExactAreSameForRow.holds Try.pinned (OpenSpec.ofChange fnExactAreSameForWrong)

/-- 'laws.FnExactStaysOn': WHATEVER THE INPUT: true; the input reads as it did. -/
def fnExactStaysOnSpec : ChangeSpec := { name := "fnExactStaysOn", fn := fun _ => fun
  | [d] => { results := [.lit (.bool true)], args := [d] }
  | _ => none }
def fnExactStaysOnRow : OpenClaim := { program := "ythalcjgpjagcoaa", sum := "f567ca825db5d312fce3ecddd7247346c0e4c004053e8415441a1f3e6333c82c", func := "loop.example/g01209/laws.FnExactStaysOn", spec := "fnExactStaysOn", unfollowed := true, recurses := true, apart := false }
def FnExactStaysOnSaid : Prop := fnExactStaysOnRow.holds Try.pinned (OpenSpec.ofChange fnExactStaysOnSpec)

/-- ITS FALSE NEIGHBOUR: 'it returns false'. Refute it at one input. -/
def fnExactStaysOnWrong : ChangeSpec := { name := "fnExactStaysOn", fn := fun _ => fun
  | [d] => { results := [.lit (.bool false)], args := [d] }
  | _ => none }
def FnExactStaysOnWrongFalsely : Prop := fnExactStaysOnRow.holds Try.pinned (OpenSpec.ofChange fnExactStaysOnWrong)

/-- 'laws.FnExactRungsOn': WHATEVER THE INPUT: true; the input reads as it did. -/
def fnExactRungsOnSpec : ChangeSpec := { name := "fnExactRungsOn", fn := fun _ => fun
  | [d] => { results := [.lit (.bool true)], args := [d] }
  | _ => none }
def fnExactRungsOnRow : OpenClaim := { program := "ythalcjgpjagcoaa", sum := "f567ca825db5d312fce3ecddd7247346c0e4c004053e8415441a1f3e6333c82c", func := "loop.example/g01209/laws.FnExactRungsOn", spec := "fnExactRungsOn", apart := false }
def FnExactRungsOnSaid : Prop := fnExactRungsOnRow.holds Try.pinned (OpenSpec.ofChange fnExactRungsOnSpec)

/-- ITS FALSE NEIGHBOUR: 'it returns false'. Refute it at one input. -/
def fnExactRungsOnWrong : ChangeSpec := { name := "fnExactRungsOn", fn := fun _ => fun
  | [d] => { results := [.lit (.bool false)], args := [d] }
  | _ => none }
def FnExactRungsOnWrongFalsely : Prop := fnExactRungsOnRow.holds Try.pinned (OpenSpec.ofChange fnExactRungsOnWrong)

/- THE SECOND FORM. 'bulk': how many values and letters a reading holds, each counted each time it is reached (what is shared counts as often as it is met; a slice's spare places count too). A statement '..UptoSaid' is the law's where the arguments, and the package variables that the reading takes, are together of bulk at most 1048576: NARROWER than '..Said'. Prove '..Said' where nothing that the law and all that it calls make is longer than what came in: it says more and counts as full. Else prove '..UptoSaid'. A law counts once. -/
mutual
def uptoBulk {H : Type} : DataW H → Nat
  | .lit (.string bytes) => bytes.length + 1
  | .lit _ => 1
  | .nil => 1
  | .ptr d => uptoBulk d + 1
  | .slice elems spare => uptoBulkAll elems + uptoBulkAll spare + 1
  | .agg parts => uptoBulkAll parts + 1
  | .iface _ d => uptoBulk d + 1
  | .map entries => uptoBulkEntries entries + 1
  | .held _ => 1
def uptoBulkAll {H : Type} : List (DataW H) → Nat
  | [] => 0
  | d :: r => uptoBulk d + uptoBulkAll r
def uptoBulkEntries {H : Type} : List (Lit × DataW H) → Nat
  | [] => 0
  | x :: r => uptoBulkEntry x + uptoBulkEntries r
def uptoBulkEntry {H : Type} : Lit × DataW H → Nat
  | (.string bytes, d) => bytes.length + uptoBulk d + 1
  | (_, d) => uptoBulk d + 1
 end
def uptoSmall : (H : Type) → List (DataW H) → Bool := fun _ ds => decide (uptoBulkAll ds ≤ 1048576)
def OpenSpec.upto (s : _root_.Go.ChangeSpec) : _root_.Go.OpenSpec := { _root_.Go.OpenSpec.ofChange s with cond := some uptoSmall }

/-- 'laws.FnExactMeetingTable', WHERE WHAT IT READS IS OF BULK AT MOST 1048576: true; the input reads as it did. -/
def fnExactMeetingTableUptoRow : OpenClaim := { program := "ythalcjgpjagcoaa", sum := "f567ca825db5d312fce3ecddd7247346c0e4c004053e8415441a1f3e6333c82c", func := "loop.example/g01209/laws.FnExactMeetingTable", spec := "fnExactMeetingTable", apart := false, narrowed := true }
def FnExactMeetingTableUptoSaid : Prop := fnExactMeetingTableUptoRow.holds Try.pinned (OpenSpec.upto fnExactMeetingTableSpec)

/-- 'laws.FnExactPatternOf', WHERE WHAT IT READS IS OF BULK AT MOST 1048576: true; the input reads as it did. -/
def fnExactPatternOfUptoRow : OpenClaim := { program := "ythalcjgpjagcoaa", sum := "f567ca825db5d312fce3ecddd7247346c0e4c004053e8415441a1f3e6333c82c", func := "loop.example/g01209/laws.FnExactPatternOf", spec := "fnExactPatternOf", recurses := true, apart := false, narrowed := true }
def FnExactPatternOfUptoSaid : Prop := fnExactPatternOfUptoRow.holds Try.pinned (OpenSpec.upto fnExactPatternOfSpec)

/-- 'laws.FnExactCountPattern', WHERE WHAT IT READS IS OF BULK AT MOST 1048576: true; the input reads as it did. -/
def fnExactCountPatternUptoRow : OpenClaim := { program := "ythalcjgpjagcoaa", sum := "f567ca825db5d312fce3ecddd7247346c0e4c004053e8415441a1f3e6333c82c", func := "loop.example/g01209/laws.FnExactCountPattern", spec := "fnExactCountPattern", recurses := true, apart := false, narrowed := true }
def FnExactCountPatternUptoSaid : Prop := fnExactCountPatternUptoRow.holds Try.pinned (OpenSpec.upto fnExactCountPatternSpec)

/-- 'laws.FnExactPrizesOf', WHERE WHAT IT READS IS OF BULK AT MOST 1048576: true; the input reads as it did. -/
def fnExactPrizesOfUptoRow : OpenClaim := { program := "ythalcjgpjagcoaa", sum := "f567ca825db5d312fce3ecddd7247346c0e4c004053e8415441a1f3e6333c82c", func := "loop.example/g01209/laws.FnExactPrizesOf", spec := "fnExactPrizesOf", apart := false, narrowed := true }
def FnExactPrizesOfUptoSaid : Prop := fnExactPrizesOfUptoRow.holds Try.pinned (OpenSpec.upto fnExactPrizesOfSpec)

/-- 'laws.FnExactStartsFor', WHERE WHAT IT READS IS OF BULK AT MOST 1048576: true; the input reads as it did. -/
def fnExactStartsForUptoRow : OpenClaim := { program := "ythalcjgpjagcoaa", sum := "f567ca825db5d312fce3ecddd7247346c0e4c004053e8415441a1f3e6333c82c", func := "loop.example/g01209/laws.FnExactStartsFor", spec := "fnExactStartsFor", unfollowed := true, recurses := true, apart := false, narrowed := true }
def FnExactStartsForUptoSaid : Prop := fnExactStartsForUptoRow.holds Try.pinned (OpenSpec.upto fnExactStartsForSpec)

/-- 'laws.FnExactAreSameFor', WHERE WHAT IT READS IS OF BULK AT MOST 1048576: true; the input reads as it did. -/
def fnExactAreSameForUptoRow : OpenClaim := { program := "ythalcjgpjagcoaa", sum := "f567ca825db5d312fce3ecddd7247346c0e4c004053e8415441a1f3e6333c82c", func := "loop.example/g01209/laws.FnExactAreSameFor", spec := "fnExactAreSameFor", apart := false, narrowed := true }
def FnExactAreSameForUptoSaid : Prop := fnExactAreSameForUptoRow.holds Try.pinned (OpenSpec.upto fnExactAreSameForSpec)

/-- 'laws.FnExactStaysOn', WHERE WHAT IT READS IS OF BULK AT MOST 1048576: true; the input reads as it did. -/
def fnExactStaysOnUptoRow : OpenClaim := { program := "ythalcjgpjagcoaa", sum := "f567ca825db5d312fce3ecddd7247346c0e4c004053e8415441a1f3e6333c82c", func := "loop.example/g01209/laws.FnExactStaysOn", spec := "fnExactStaysOn", unfollowed := true, recurses := true, apart := false, narrowed := true }
def FnExactStaysOnUptoSaid : Prop := fnExactStaysOnUptoRow.holds Try.pinned (OpenSpec.upto fnExactStaysOnSpec)

/-- 'laws.FnExactRungsOn', WHERE WHAT IT READS IS OF BULK AT MOST 1048576: true; the input reads as it did. -/
def fnExactRungsOnUptoRow : OpenClaim := { program := "ythalcjgpjagcoaa", sum := "f567ca825db5d312fce3ecddd7247346c0e4c004053e8415441a1f3e6333c82c", func := "loop.example/g01209/laws.FnExactRungsOn", spec := "fnExactRungsOn", apart := false, narrowed := true }
def FnExactRungsOnUptoSaid : Prop := fnExactRungsOnUptoRow.holds Try.pinned (OpenSpec.upto fnExactRungsOnSpec)

end Rows
end Go.Proofs.Ythalcjgpjagcoaa
