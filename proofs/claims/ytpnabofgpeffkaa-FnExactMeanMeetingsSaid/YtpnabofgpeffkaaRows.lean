/-
  No cell of these rows narrows 'for every input' (looked for: loops, veiled, ifaces, maps, wideKeys, modest, calm, conditions, laid).
  DERIVED. THE GIVEN ROWS OF THIS SEAT. 7 by the template 'for every input the law returns true; each argument reads behind the call as it read before'; 0 by the template 'total and deterministic' (their statements: YtpnabofgpeffkaaTotals.lean).
  GIVEN WITH THE SEED: the statements are not yours to turn. If you find one false, say at which input.
  Laid BY PROGRAM, IN A SANDBOX (cutbox-rows.mjs): the forced cells as the released guide's own fill.sh prints them over the translation c312525fe36d6689… (all of the seat's roots in one cut). By AI agents, Wed Nov 11 2026. No macro, syntax, notation, axiom, sorry.
-/
import Derived.Test.YtpnabofgpeffkaaChecked
import GoSem.Claim
import GoSem.ClaimJoined
import GoSem.ClaimMapViews
import Derived.JoinedTies
import Derived.KernelRfl
namespace Go.Proofs.Ytpnabofgpeffkaa
/- THE CELL 'sum', in the pinned program and in every row, IS THE sha256 OF THE DUMP (.gsa) THAT YtpnabofgpeffkaaProg.lean LOADS. Nothing in Lean hashes anything: it is a label: what it is worth is what the hold of that sum in a sandbox is worth. -/
noncomputable def Try.pinned : Pinned := { name := "ytpnabofgpeffkaa", sum := "c312525fe36d6689c904d328879f53a3353d3b66d893769c91be22732d569793", checked := Try.checked }
namespace Rows
def none {H : Type} : Left H := { results := [], args := [] }

/-- 'laws.FnExactCountLadders': WHATEVER THE INPUT: true; the input reads as it did. -/
def fnExactCountLaddersSpec : ChangeSpec := { name := "fnExactCountLadders", fn := fun _ => fun
  | [d1, d2] => { results := [.lit (.bool true)], args := [d1, d2] }
  | _ => none }
def fnExactCountLaddersRow : OpenClaim := { program := "ytpnabofgpeffkaa", sum := "c312525fe36d6689c904d328879f53a3353d3b66d893769c91be22732d569793", func := "loop.example/g01209/laws.FnExactCountLadders", spec := "fnExactCountLadders", plainKeys := false, apart := false }
def FnExactCountLaddersSaid : Prop := fnExactCountLaddersRow.holds Try.pinned (OpenSpec.ofChange fnExactCountLaddersSpec)

/-- ITS FALSE NEIGHBOUR: 'it returns false'. Refute it at one input. -/
def fnExactCountLaddersWrong : ChangeSpec := { name := "fnExactCountLadders", fn := fun _ => fun
  | [d1, d2] => { results := [.lit (.bool false)], args := [d1, d2] }
  | _ => none }
def FnExactCountLaddersWrongFalsely : Prop := fnExactCountLaddersRow.holds Try.pinned (OpenSpec.ofChange fnExactCountLaddersWrong)

/-- 'laws.FnExactCountEnds': WHATEVER THE INPUT: true; the input reads as it did. -/
def fnExactCountEndsSpec : ChangeSpec := { name := "fnExactCountEnds", fn := fun _ => fun
  | [d1, d2, d3, d4] => { results := [.lit (.bool true)], args := [d1, d2, d3, d4] }
  | _ => none }
def fnExactCountEndsRow : OpenClaim := { program := "ytpnabofgpeffkaa", sum := "c312525fe36d6689c904d328879f53a3353d3b66d893769c91be22732d569793", func := "loop.example/g01209/laws.FnExactCountEnds", spec := "fnExactCountEnds", plainKeys := false, apart := false }
def FnExactCountEndsSaid : Prop := fnExactCountEndsRow.holds Try.pinned (OpenSpec.ofChange fnExactCountEndsSpec)

/-- ITS FALSE NEIGHBOUR: 'it returns false'. Refute it at one input. -/
def fnExactCountEndsWrong : ChangeSpec := { name := "fnExactCountEnds", fn := fun _ => fun
  | [d1, d2, d3, d4] => { results := [.lit (.bool false)], args := [d1, d2, d3, d4] }
  | _ => none }
def FnExactCountEndsWrongFalsely : Prop := fnExactCountEndsRow.holds Try.pinned (OpenSpec.ofChange fnExactCountEndsWrong)

/-- 'laws.FnExactChanceOf': WHATEVER THE INPUT: true; the input reads as it did. -/
def fnExactChanceOfSpec : ChangeSpec := { name := "fnExactChanceOf", fn := fun _ => fun
  | [d1, d2, d3, d4] => { results := [.lit (.bool true)], args := [d1, d2, d3, d4] }
  | _ => none }
def fnExactChanceOfRow : OpenClaim := { program := "ytpnabofgpeffkaa", sum := "c312525fe36d6689c904d328879f53a3353d3b66d893769c91be22732d569793", func := "loop.example/g01209/laws.FnExactChanceOf", spec := "fnExactChanceOf", plainKeys := false, apart := false }
def FnExactChanceOfSaid : Prop := fnExactChanceOfRow.holds Try.pinned (OpenSpec.ofChange fnExactChanceOfSpec)

/-- ITS FALSE NEIGHBOUR: 'it returns false'. Refute it at one input. -/
def fnExactChanceOfWrong : ChangeSpec := { name := "fnExactChanceOf", fn := fun _ => fun
  | [d1, d2, d3, d4] => { results := [.lit (.bool false)], args := [d1, d2, d3, d4] }
  | _ => none }
def FnExactChanceOfWrongFalsely : Prop := fnExactChanceOfRow.holds Try.pinned (OpenSpec.ofChange fnExactChanceOfWrong)

/-- 'laws.FnExactChancesFrom': WHATEVER THE INPUT: true; the input reads as it did. -/
def fnExactChancesFromSpec : ChangeSpec := { name := "fnExactChancesFrom", fn := fun _ => fun
  | [d1, d2, d3] => { results := [.lit (.bool true)], args := [d1, d2, d3] }
  | _ => none }
def fnExactChancesFromRow : OpenClaim := { program := "ytpnabofgpeffkaa", sum := "c312525fe36d6689c904d328879f53a3353d3b66d893769c91be22732d569793", func := "loop.example/g01209/laws.FnExactChancesFrom", spec := "fnExactChancesFrom", plainKeys := false, apart := false }
def FnExactChancesFromSaid : Prop := fnExactChancesFromRow.holds Try.pinned (OpenSpec.ofChange fnExactChancesFromSpec)

/-- ITS FALSE NEIGHBOUR: 'it returns false'. Refute it at one input. -/
def fnExactChancesFromWrong : ChangeSpec := { name := "fnExactChancesFrom", fn := fun _ => fun
  | [d1, d2, d3] => { results := [.lit (.bool false)], args := [d1, d2, d3] }
  | _ => none }
def FnExactChancesFromWrongFalsely : Prop := fnExactChancesFromRow.holds Try.pinned (OpenSpec.ofChange fnExactChancesFromWrong)

/-- 'laws.FnExactGapOf': WHATEVER THE INPUT: true; the input reads as it did. -/
def fnExactGapOfSpec : ChangeSpec := { name := "fnExactGapOf", fn := fun _ => fun
  | [d1, d2] => { results := [.lit (.bool true)], args := [d1, d2] }
  | _ => none }
def fnExactGapOfRow : OpenClaim := { program := "ytpnabofgpeffkaa", sum := "c312525fe36d6689c904d328879f53a3353d3b66d893769c91be22732d569793", func := "loop.example/g01209/laws.FnExactGapOf", spec := "fnExactGapOf", plainKeys := false, apart := false }
def FnExactGapOfSaid : Prop := fnExactGapOfRow.holds Try.pinned (OpenSpec.ofChange fnExactGapOfSpec)

/-- ITS FALSE NEIGHBOUR: 'it returns false'. Refute it at one input. -/
def fnExactGapOfWrong : ChangeSpec := { name := "fnExactGapOf", fn := fun _ => fun
  | [d1, d2] => { results := [.lit (.bool false)], args := [d1, d2] }
  | _ => none }
def FnExactGapOfWrongFalsely : Prop := fnExactGapOfRow.holds Try.pinned (OpenSpec.ofChange fnExactGapOfWrong)

/-- 'laws.FnExactMeanMeetings': WHATEVER THE INPUT: true; the input reads as it did. -/
def fnExactMeanMeetingsSpec : ChangeSpec := { name := "fnExactMeanMeetings", fn := fun _ => fun
  | [d1, d2, d3, d4] => { results := [.lit (.bool true)], args := [d1, d2, d3, d4] }
  | _ => none }
def fnExactMeanMeetingsRow : OpenClaim := { program := "ytpnabofgpeffkaa", sum := "c312525fe36d6689c904d328879f53a3353d3b66d893769c91be22732d569793", func := "loop.example/g01209/laws.FnExactMeanMeetings", spec := "fnExactMeanMeetings", plainKeys := false, apart := false }
def FnExactMeanMeetingsSaid : Prop := fnExactMeanMeetingsRow.holds Try.pinned (OpenSpec.ofChange fnExactMeanMeetingsSpec)

/-- ITS FALSE NEIGHBOUR: 'it returns false'. Refute it at one input. -/
def fnExactMeanMeetingsWrong : ChangeSpec := { name := "fnExactMeanMeetings", fn := fun _ => fun
  | [d1, d2, d3, d4] => { results := [.lit (.bool false)], args := [d1, d2, d3, d4] }
  | _ => none }
def FnExactMeanMeetingsWrongFalsely : Prop := fnExactMeanMeetingsRow.holds Try.pinned (OpenSpec.ofChange fnExactMeanMeetingsWrong)

/-- 'laws.FnExactMeanAtHome': WHATEVER THE INPUT: true; the input reads as it did. -/
def fnExactMeanAtHomeSpec : ChangeSpec := { name := "fnExactMeanAtHome", fn := fun _ => fun
  | [d1, d2] => { results := [.lit (.bool true)], args := [d1, d2] }
  | _ => none }
def fnExactMeanAtHomeRow : OpenClaim := { program := "ytpnabofgpeffkaa", sum := "c312525fe36d6689c904d328879f53a3353d3b66d893769c91be22732d569793", func := "loop.example/g01209/laws.FnExactMeanAtHome", spec := "fnExactMeanAtHome", plainKeys := false, apart := false }
def FnExactMeanAtHomeSaid : Prop := fnExactMeanAtHomeRow.holds Try.pinned (OpenSpec.ofChange fnExactMeanAtHomeSpec)

/-- ITS FALSE NEIGHBOUR: 'it returns false'. Refute it at one input. -/
def fnExactMeanAtHomeWrong : ChangeSpec := { name := "fnExactMeanAtHome", fn := fun _ => fun
  | [d1, d2] => { results := [.lit (.bool false)], args := [d1, d2] }
  | _ => none }
def FnExactMeanAtHomeWrongFalsely : Prop := fnExactMeanAtHomeRow.holds Try.pinned (OpenSpec.ofChange fnExactMeanAtHomeWrong)

/- THE SECOND FORM. 'bulk': how many values and letters a reading holds, each counted each time it is reached (what is shared counts as often as it is met; a slice's spare places count too). A statement '..UptoSaid' is the law's where the arguments, and the package variables that the reading takes, are together of bulk at most 1048576: NARROWER than '..Said'. Prove '..Said' where nothing that the law and all that it calls make is longer than what came in: it says more and counts as full. Else prove '..UptoSaid'. A law counts once. -/
mutual
def uptoBulk {H : Type} : DataW H → Nat
  | .lit (.string bytes) => bytes.length + 1
  | .lit _ => 1
  | .nil => 1
  | .ptr d => uptoBulk d + 1
  | .slice elems spare => uptoBulkAll elems + uptoBulkAll spare + 1
  | .agg parts => uptoBulkAll parts + 1
  | .iface _ d => uptoBulk d + 1
  | .map entries => uptoBulkEntries entries + 1
  | .held _ => 1
def uptoBulkAll {H : Type} : List (DataW H) → Nat
  | [] => 0
  | d :: r => uptoBulk d + uptoBulkAll r
def uptoBulkEntries {H : Type} : List (Lit × DataW H) → Nat
  | [] => 0
  | x :: r => uptoBulkEntry x + uptoBulkEntries r
def uptoBulkEntry {H : Type} : Lit × DataW H → Nat
  | (.string bytes, d) => bytes.length + uptoBulk d + 1
  | (_, d) => uptoBulk d + 1
 end
def uptoSmall : (H : Type) → List (DataW H) → Bool := fun _ ds => decide (uptoBulkAll ds ≤ 1048576)
def OpenSpec.upto (s : _root_.Go.ChangeSpec) : _root_.Go.OpenSpec := { _root_.Go.OpenSpec.ofChange s with cond := some uptoSmall }

/-- 'laws.FnExactCountLadders', WHERE WHAT IT READS IS OF BULK AT MOST 1048576: true; the input reads as it did. -/
def fnExactCountLaddersUptoRow : OpenClaim := { program := "ytpnabofgpeffkaa", sum := "c312525fe36d6689c904d328879f53a3353d3b66d893769c91be22732d569793", func := "loop.example/g01209/laws.FnExactCountLadders", spec := "fnExactCountLadders", plainKeys := false, apart := false, narrowed := true }
def FnExactCountLaddersUptoSaid : Prop := fnExactCountLaddersUptoRow.holds Try.pinned (OpenSpec.upto fnExactCountLaddersSpec)

/-- 'laws.FnExactCountEnds', WHERE WHAT IT READS IS OF BULK AT MOST 1048576: true; the input reads as it did. -/
def fnExactCountEndsUptoRow : OpenClaim := { program := "ytpnabofgpeffkaa", sum := "c312525fe36d6689c904d328879f53a3353d3b66d893769c91be22732d569793", func := "loop.example/g01209/laws.FnExactCountEnds", spec := "fnExactCountEnds", plainKeys := false, apart := false, narrowed := true }
def FnExactCountEndsUptoSaid : Prop := fnExactCountEndsUptoRow.holds Try.pinned (OpenSpec.upto fnExactCountEndsSpec)

/-- 'laws.FnExactChanceOf', WHERE WHAT IT READS IS OF BULK AT MOST 1048576: true; the input reads as it did. -/
def fnExactChanceOfUptoRow : OpenClaim := { program := "ytpnabofgpeffkaa", sum := "c312525fe36d6689c904d328879f53a3353d3b66d893769c91be22732d569793", func := "loop.example/g01209/laws.FnExactChanceOf", spec := "fnExactChanceOf", plainKeys := false, apart := false, narrowed := true }
def FnExactChanceOfUptoSaid : Prop := fnExactChanceOfUptoRow.holds Try.pinned (OpenSpec.upto fnExactChanceOfSpec)

/-- 'laws.FnExactChancesFrom', WHERE WHAT IT READS IS OF BULK AT MOST 1048576: true; the input reads as it did. -/
def fnExactChancesFromUptoRow : OpenClaim := { program := "ytpnabofgpeffkaa", sum := "c312525fe36d6689c904d328879f53a3353d3b66d893769c91be22732d569793", func := "loop.example/g01209/laws.FnExactChancesFrom", spec := "fnExactChancesFrom", plainKeys := false, apart := false, narrowed := true }
def FnExactChancesFromUptoSaid : Prop := fnExactChancesFromUptoRow.holds Try.pinned (OpenSpec.upto fnExactChancesFromSpec)

/-- 'laws.FnExactGapOf', WHERE WHAT IT READS IS OF BULK AT MOST 1048576: true; the input reads as it did. -/
def fnExactGapOfUptoRow : OpenClaim := { program := "ytpnabofgpeffkaa", sum := "c312525fe36d6689c904d328879f53a3353d3b66d893769c91be22732d569793", func := "loop.example/g01209/laws.FnExactGapOf", spec := "fnExactGapOf", plainKeys := false, apart := false, narrowed := true }
def FnExactGapOfUptoSaid : Prop := fnExactGapOfUptoRow.holds Try.pinned (OpenSpec.upto fnExactGapOfSpec)

/-- 'laws.FnExactMeanMeetings', WHERE WHAT IT READS IS OF BULK AT MOST 1048576: true; the input reads as it did. -/
def fnExactMeanMeetingsUptoRow : OpenClaim := { program := "ytpnabofgpeffkaa", sum := "c312525fe36d6689c904d328879f53a3353d3b66d893769c91be22732d569793", func := "loop.example/g01209/laws.FnExactMeanMeetings", spec := "fnExactMeanMeetings", plainKeys := false, apart := false, narrowed := true }
def FnExactMeanMeetingsUptoSaid : Prop := fnExactMeanMeetingsUptoRow.holds Try.pinned (OpenSpec.upto fnExactMeanMeetingsSpec)

/-- 'laws.FnExactMeanAtHome', WHERE WHAT IT READS IS OF BULK AT MOST 1048576: true; the input reads as it did. -/
def fnExactMeanAtHomeUptoRow : OpenClaim := { program := "ytpnabofgpeffkaa", sum := "c312525fe36d6689c904d328879f53a3353d3b66d893769c91be22732d569793", func := "loop.example/g01209/laws.FnExactMeanAtHome", spec := "fnExactMeanAtHome", plainKeys := false, apart := false, narrowed := true }
def FnExactMeanAtHomeUptoSaid : Prop := fnExactMeanAtHomeUptoRow.holds Try.pinned (OpenSpec.upto fnExactMeanAtHomeSpec)

end Rows
end Go.Proofs.Ytpnabofgpeffkaa
