/-
  No cell of these rows narrows 'for every input' (looked for: loops, veiled, ifaces, maps, wideKeys, modest, calm, conditions, laid).
  DERIVED. THE GIVEN ROWS OF THIS SEAT. 4 by the template 'for every input the law returns true; each argument reads behind the call as it read before'; 0 by the template 'total and deterministic' (their statements: YtpkdeoehfnnchaaTotals.lean).
  GIVEN WITH THE SEED: the statements are not yours to turn. If you find one false, say at which input.
  Laid BY PROGRAM, IN A SANDBOX (cutbox-rows.mjs): the forced cells as the released guide's own fill.sh prints them over the translation 06d7ed953fca27e4… (all of the seat's roots in one cut). By AI agents, Wed Nov 11 2026. No macro, syntax, notation, axiom, sorry.
-/
import Derived.Test.YtpkdeoehfnnchaaChecked
import GoSem.Claim
import GoSem.ClaimJoined
import GoSem.ClaimMapViews
import Derived.JoinedTies
import Derived.KernelRfl
namespace Go.Proofs.Ytpkdeoehfnnchaa
/- THE CELL 'sum', in the pinned program and in every row, IS THE sha256 OF THE DUMP (.gsa) THAT YtpkdeoehfnnchaaProg.lean LOADS. Nothing in Lean hashes anything: it is a label: what it is worth is what the hold of that sum in a sandbox is worth. -/
noncomputable def Try.pinned : Pinned := { name := "ytpkdeoehfnnchaa", sum := "06d7ed953fca27e4bfaffb09e6b978026f593f28f94c27a07f1c29b321b5ddd6", checked := Try.checked }
namespace Rows
def none {H : Type} : Left H := { results := [], args := [] }

/-- 'laws.FnExactLeastPole': WHATEVER THE INPUT: true; the input reads as it did. -/
def fnExactLeastPoleSpec : ChangeSpec := { name := "fnExactLeastPole", fn := fun _ => fun
  | [d] => { results := [.lit (.bool true)], args := [d] }
  | _ => none }
def fnExactLeastPoleRow : OpenClaim := { program := "ytpkdeoehfnnchaa", sum := "06d7ed953fca27e4bfaffb09e6b978026f593f28f94c27a07f1c29b321b5ddd6", func := "loop.example/g01209/laws.FnExactLeastPole", spec := "fnExactLeastPole", unfollowed := true, recurses := true, apart := false }
def FnExactLeastPoleSaid : Prop := fnExactLeastPoleRow.holds Try.pinned (OpenSpec.ofChange fnExactLeastPoleSpec)

/-- ITS FALSE NEIGHBOUR: 'it returns false'. Refute it at one input. -/
def fnExactLeastPoleWrong : ChangeSpec := { name := "fnExactLeastPole", fn := fun _ => fun
  | [d] => { results := [.lit (.bool false)], args := [d] }
  | _ => none }
def FnExactLeastPoleWrongFalsely : Prop := fnExactLeastPoleRow.holds Try.pinned (OpenSpec.ofChange fnExactLeastPoleWrong)

/-- 'laws.FnExactPoleDescents': WHATEVER THE INPUT: true; the input reads as it did. -/
def fnExactPoleDescentsSpec : ChangeSpec := { name := "fnExactPoleDescents", fn := fun _ => fun
  | [d] => { results := [.lit (.bool true)], args := [d] }
  | _ => none }
def fnExactPoleDescentsRow : OpenClaim := { program := "ytpkdeoehfnnchaa", sum := "06d7ed953fca27e4bfaffb09e6b978026f593f28f94c27a07f1c29b321b5ddd6", func := "loop.example/g01209/laws.FnExactPoleDescents", spec := "fnExactPoleDescents", unfollowed := true, recurses := true, apart := false }
def FnExactPoleDescentsSaid : Prop := fnExactPoleDescentsRow.holds Try.pinned (OpenSpec.ofChange fnExactPoleDescentsSpec)

/-- ITS FALSE NEIGHBOUR: 'it returns false'. Refute it at one input. -/
def fnExactPoleDescentsWrong : ChangeSpec := { name := "fnExactPoleDescents", fn := fun _ => fun
  | [d] => { results := [.lit (.bool false)], args := [d] }
  | _ => none }
def FnExactPoleDescentsWrongFalsely : Prop := fnExactPoleDescentsRow.holds Try.pinned (OpenSpec.ofChange fnExactPoleDescentsWrong)

/-- 'laws.FnExactPoleInversions': WHATEVER THE INPUT: true; the input reads as it did. -/
def fnExactPoleInversionsSpec : ChangeSpec := { name := "fnExactPoleInversions", fn := fun _ => fun
  | [d] => { results := [.lit (.bool true)], args := [d] }
  | _ => none }
def fnExactPoleInversionsRow : OpenClaim := { program := "ytpkdeoehfnnchaa", sum := "06d7ed953fca27e4bfaffb09e6b978026f593f28f94c27a07f1c29b321b5ddd6", func := "loop.example/g01209/laws.FnExactPoleInversions", spec := "fnExactPoleInversions", unfollowed := true, recurses := true, apart := false }
def FnExactPoleInversionsSaid : Prop := fnExactPoleInversionsRow.holds Try.pinned (OpenSpec.ofChange fnExactPoleInversionsSpec)

/-- ITS FALSE NEIGHBOUR: 'it returns false'. Refute it at one input. -/
def fnExactPoleInversionsWrong : ChangeSpec := { name := "fnExactPoleInversions", fn := fun _ => fun
  | [d] => { results := [.lit (.bool false)], args := [d] }
  | _ => none }
def FnExactPoleInversionsWrongFalsely : Prop := fnExactPoleInversionsRow.holds Try.pinned (OpenSpec.ofChange fnExactPoleInversionsWrong)

/-- 'laws.FnExactBackTurned': WHATEVER THE INPUT: true; the input reads as it did. -/
def fnExactBackTurnedSpec : ChangeSpec := { name := "fnExactBackTurned", fn := fun _ => fun
  | [d] => { results := [.lit (.bool true)], args := [d] }
  | _ => none }
def fnExactBackTurnedRow : OpenClaim := { program := "ytpkdeoehfnnchaa", sum := "06d7ed953fca27e4bfaffb09e6b978026f593f28f94c27a07f1c29b321b5ddd6", func := "loop.example/g01209/laws.FnExactBackTurned", spec := "fnExactBackTurned", unfollowed := true, recurses := true, apart := false }
def FnExactBackTurnedSaid : Prop := fnExactBackTurnedRow.holds Try.pinned (OpenSpec.ofChange fnExactBackTurnedSpec)

/-- ITS FALSE NEIGHBOUR: 'it returns false'. Refute it at one input. -/
def fnExactBackTurnedWrong : ChangeSpec := { name := "fnExactBackTurned", fn := fun _ => fun
  | [d] => { results := [.lit (.bool false)], args := [d] }
  | _ => none }
def FnExactBackTurnedWrongFalsely : Prop := fnExactBackTurnedRow.holds Try.pinned (OpenSpec.ofChange fnExactBackTurnedWrong)

/- THE SECOND FORM. 'bulk': how many values and letters a reading holds, each counted each time it is reached (what is shared counts as often as it is met; a slice's spare places count too). A statement '..UptoSaid' is the law's where the arguments, and the package variables that the reading takes, are together of bulk at most 1048576: NARROWER than '..Said'. Prove '..Said' where nothing that the law and all that it calls make is longer than what came in: it says more and counts as full. Else prove '..UptoSaid'. A law counts once. -/
mutual
def uptoBulk {H : Type} : DataW H → Nat
  | .lit (.string bytes) => bytes.length + 1
  | .lit _ => 1
  | .nil => 1
  | .ptr d => uptoBulk d + 1
  | .slice elems spare => uptoBulkAll elems + uptoBulkAll spare + 1
  | .agg parts => uptoBulkAll parts + 1
  | .iface _ d => uptoBulk d + 1
  | .map entries => uptoBulkEntries entries + 1
  | .held _ => 1
def uptoBulkAll {H : Type} : List (DataW H) → Nat
  | [] => 0
  | d :: r => uptoBulk d + uptoBulkAll r
def uptoBulkEntries {H : Type} : List (Lit × DataW H) → Nat
  | [] => 0
  | x :: r => uptoBulkEntry x + uptoBulkEntries r
def uptoBulkEntry {H : Type} : Lit × DataW H → Nat
  | (.string bytes, d) => bytes.length + uptoBulk d + 1
  | (_, d) => uptoBulk d + 1
 end
def uptoSmall : (H : Type) → List (DataW H) → Bool := fun _ ds => decide (uptoBulkAll ds ≤ 1048576)
def OpenSpec.upto (s : _root_.Go.ChangeSpec) : _root_.Go.OpenSpec := { _root_.Go.OpenSpec.ofChange s with cond := some uptoSmall }

/-- 'laws.FnExactLeastPole', WHERE WHAT IT READS IS OF BULK AT MOST 1048576: true; the input reads as it did. -/
def fnExactLeastPoleUptoRow : OpenClaim := { program := "ytpkdeoehfnnchaa", sum := "06d7ed953fca27e4bfaffb09e6b978026f593f28f94c27a07f1c29b321b5ddd6", func := "loop.example/g01209/laws.FnExactLeastPole", spec := "fnExactLeastPole", unfollowed := true, recurses := true, apart := false, narrowed := true }
def FnExactLeastPoleUptoSaid : Prop := fnExactLeastPoleUptoRow.holds Try.pinned (OpenSpec.upto fnExactLeastPoleSpec)

/-- 'laws.FnExactPoleDescents', WHERE WHAT IT READS IS OF BULK AT MOST 1048576: true; the input reads as it did. -/
def fnExactPoleDescentsUptoRow : OpenClaim := { program := "ytpkdeoehfnnchaa", sum := "06d7ed953fca27e4bfaffb09e6b978026f593f28f94c27a07f1c29b321b5ddd6", func := "loop.example/g01209/laws.FnExactPoleDescents", spec := "fnExactPoleDescents", unfollowed := true, recurses := true, apart := false, narrowed := true }
def FnExactPoleDescentsUptoSaid : Prop := fnExactPoleDescentsUptoRow.holds Try.pinned (OpenSpec.upto fnExactPoleDescentsSpec)

/-- 'laws.FnExactPoleInversions', WHERE WHAT IT READS IS OF BULK AT MOST 1048576: true; the input reads as it did. -/
def fnExactPoleInversionsUptoRow : OpenClaim := { program := "ytpkdeoehfnnchaa", sum := "06d7ed953fca27e4bfaffb09e6b978026f593f28f94c27a07f1c29b321b5ddd6", func := "loop.example/g01209/laws.FnExactPoleInversions", spec := "fnExactPoleInversions", unfollowed := true, recurses := true, apart := false, narrowed := true }
def FnExactPoleInversionsUptoSaid : Prop := fnExactPoleInversionsUptoRow.holds Try.pinned (OpenSpec.upto fnExactPoleInversionsSpec)

/-- 'laws.FnExactBackTurned', WHERE WHAT IT READS IS OF BULK AT MOST 1048576: true; the input reads as it did. -/
def fnExactBackTurnedUptoRow : OpenClaim := { program := "ytpkdeoehfnnchaa", sum := "06d7ed953fca27e4bfaffb09e6b978026f593f28f94c27a07f1c29b321b5ddd6", func := "loop.example/g01209/laws.FnExactBackTurned", spec := "fnExactBackTurned", unfollowed := true, recurses := true, apart := false, narrowed := true }
def FnExactBackTurnedUptoSaid : Prop := fnExactBackTurnedUptoRow.holds Try.pinned (OpenSpec.upto fnExactBackTurnedSpec)

end Rows
end Go.Proofs.Ytpkdeoehfnnchaa
