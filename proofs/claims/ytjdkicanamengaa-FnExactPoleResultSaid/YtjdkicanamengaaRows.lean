/-
  No cell of these rows narrows 'for every input' (looked for: loops, veiled, ifaces, maps, wideKeys, modest, calm, conditions, laid).
  DERIVED. THE GIVEN ROWS OF THIS SEAT. 9 by the template 'for every input the law returns true; each argument reads behind the call as it read before'; 0 by the template 'total and deterministic' (their statements: YtjdkicanamengaaTotals.lean).
  GIVEN WITH THE SEED: the statements are not yours to turn. If you find one false, say at which input.
  Laid BY PROGRAM, IN A SANDBOX (cutbox-rows.mjs): the forced cells as the released guide's own fill.sh prints them over the translation f113ac548bf4ad80… (all of the seat's roots in one cut). By AI agents, Wed Nov 11 2026. No macro, syntax, notation, axiom, sorry.
-/
import Derived.Test.YtjdkicanamengaaChecked
import GoSem.Claim
import GoSem.ClaimJoined
import GoSem.ClaimMapViews
import Derived.JoinedTies
import Derived.KernelRfl
namespace Go.Proofs.Ytjdkicanamengaa
/- THE CELL 'sum', in the pinned program and in every row, IS THE sha256 OF THE DUMP (.gsa) THAT YtjdkicanamengaaProg.lean LOADS. Nothing in Lean hashes anything: it is a label: what it is worth is what the hold of that sum in a sandbox is worth. -/
noncomputable def Try.pinned : Pinned := { name := "ytjdkicanamengaa", sum := "f113ac548bf4ad80d268bf2eb1b8e43c4b6748ecac0fbec35ef49765f28b9e98", checked := Try.checked }
namespace Rows
def none {H : Type} : Left H := { results := [], args := [] }

/-- 'laws.FnExactIsPole': WHATEVER THE INPUT: true; the input reads as it did. -/
def fnExactIsPoleSpec : ChangeSpec := { name := "fnExactIsPole", fn := fun _ => fun
  | [d] => { results := [.lit (.bool true)], args := [d] }
  | _ => none }
def fnExactIsPoleRow : OpenClaim := { program := "ytjdkicanamengaa", sum := "f113ac548bf4ad80d268bf2eb1b8e43c4b6748ecac0fbec35ef49765f28b9e98", func := "loop.example/g01209/laws.FnExactIsPole", spec := "fnExactIsPole", apart := false }
def FnExactIsPoleSaid : Prop := fnExactIsPoleRow.holds Try.pinned (OpenSpec.ofChange fnExactIsPoleSpec)

/-- ITS FALSE NEIGHBOUR: 'it returns false'. Refute it at one input. -/
def fnExactIsPoleWrong : ChangeSpec := { name := "fnExactIsPole", fn := fun _ => fun
  | [d] => { results := [.lit (.bool false)], args := [d] }
  | _ => none }
def FnExactIsPoleWrongFalsely : Prop := fnExactIsPoleRow.holds Try.pinned (OpenSpec.ofChange fnExactIsPoleWrong)

/-- 'laws.FnExactPoleEnd': WHATEVER THE INPUT: true; the input reads as it did. -/
def fnExactPoleEndSpec : ChangeSpec := { name := "fnExactPoleEnd", fn := fun _ => fun
  | [d1, d2] => { results := [.lit (.bool true)], args := [d1, d2] }
  | _ => none }
def fnExactPoleEndRow : OpenClaim := { program := "ytjdkicanamengaa", sum := "f113ac548bf4ad80d268bf2eb1b8e43c4b6748ecac0fbec35ef49765f28b9e98", func := "loop.example/g01209/laws.FnExactPoleEnd", spec := "fnExactPoleEnd", apart := false }
def FnExactPoleEndSaid : Prop := fnExactPoleEndRow.holds Try.pinned (OpenSpec.ofChange fnExactPoleEndSpec)

/-- ITS FALSE NEIGHBOUR: 'it returns false'. Refute it at one input. -/
def fnExactPoleEndWrong : ChangeSpec := { name := "fnExactPoleEnd", fn := fun _ => fun
  | [d1, d2] => { results := [.lit (.bool false)], args := [d1, d2] }
  | _ => none }
def FnExactPoleEndWrongFalsely : Prop := fnExactPoleEndRow.holds Try.pinned (OpenSpec.ofChange fnExactPoleEndWrong)

/-- 'laws.FnExactPoleWay': WHATEVER THE INPUT: true; the input reads as it did. -/
def fnExactPoleWaySpec : ChangeSpec := { name := "fnExactPoleWay", fn := fun _ => fun
  | [d1, d2] => { results := [.lit (.bool true)], args := [d1, d2] }
  | _ => none }
def fnExactPoleWayRow : OpenClaim := { program := "ytjdkicanamengaa", sum := "f113ac548bf4ad80d268bf2eb1b8e43c4b6748ecac0fbec35ef49765f28b9e98", func := "loop.example/g01209/laws.FnExactPoleWay", spec := "fnExactPoleWay", apart := false }
def FnExactPoleWaySaid : Prop := fnExactPoleWayRow.holds Try.pinned (OpenSpec.ofChange fnExactPoleWaySpec)

/-- ITS FALSE NEIGHBOUR: 'it returns false'. Refute it at one input. -/
def fnExactPoleWayWrong : ChangeSpec := { name := "fnExactPoleWay", fn := fun _ => fun
  | [d1, d2] => { results := [.lit (.bool false)], args := [d1, d2] }
  | _ => none }
def FnExactPoleWayWrongFalsely : Prop := fnExactPoleWayRow.holds Try.pinned (OpenSpec.ofChange fnExactPoleWayWrong)

/-- 'laws.FnExactPoleResult': WHATEVER THE INPUT: true; the input reads as it did. -/
def fnExactPoleResultSpec : ChangeSpec := { name := "fnExactPoleResult", fn := fun _ => fun
  | [d] => { results := [.lit (.bool true)], args := [d] }
  | _ => none }
def fnExactPoleResultRow : OpenClaim := { program := "ytjdkicanamengaa", sum := "f113ac548bf4ad80d268bf2eb1b8e43c4b6748ecac0fbec35ef49765f28b9e98", func := "loop.example/g01209/laws.FnExactPoleResult", spec := "fnExactPoleResult", unfollowed := true, recurses := true, apart := false }
def FnExactPoleResultSaid : Prop := fnExactPoleResultRow.holds Try.pinned (OpenSpec.ofChange fnExactPoleResultSpec)

/-- ITS FALSE NEIGHBOUR: 'it returns false'. Refute it at one input. -/
def fnExactPoleResultWrong : ChangeSpec := { name := "fnExactPoleResult", fn := fun _ => fun
  | [d] => { results := [.lit (.bool false)], args := [d] }
  | _ => none }
def FnExactPoleResultWrongFalsely : Prop := fnExactPoleResultRow.holds Try.pinned (OpenSpec.ofChange fnExactPoleResultWrong)

/-- 'laws.FnExactBelowPole': WHATEVER THE INPUT: true; the input reads as it did. -/
def fnExactBelowPoleSpec : ChangeSpec := { name := "fnExactBelowPole", fn := fun _ => fun
  | [d1, d2] => { results := [.lit (.bool true)], args := [d1, d2] }
  | _ => none }
def fnExactBelowPoleRow : OpenClaim := { program := "ytjdkicanamengaa", sum := "f113ac548bf4ad80d268bf2eb1b8e43c4b6748ecac0fbec35ef49765f28b9e98", func := "loop.example/g01209/laws.FnExactBelowPole", spec := "fnExactBelowPole", apart := false }
def FnExactBelowPoleSaid : Prop := fnExactBelowPoleRow.holds Try.pinned (OpenSpec.ofChange fnExactBelowPoleSpec)

/-- ITS FALSE NEIGHBOUR: 'it returns false'. Refute it at one input. -/
def fnExactBelowPoleWrong : ChangeSpec := { name := "fnExactBelowPole", fn := fun _ => fun
  | [d1, d2] => { results := [.lit (.bool false)], args := [d1, d2] }
  | _ => none }
def FnExactBelowPoleWrongFalsely : Prop := fnExactBelowPoleRow.holds Try.pinned (OpenSpec.ofChange fnExactBelowPoleWrong)

/-- 'laws.FnExactTurnPole': WHATEVER THE INPUT: true; the input reads as it did. -/
def fnExactTurnPoleSpec : ChangeSpec := { name := "fnExactTurnPole", fn := fun _ => fun
  | [d] => { results := [.lit (.bool true)], args := [d] }
  | _ => none }
def fnExactTurnPoleRow : OpenClaim := { program := "ytjdkicanamengaa", sum := "f113ac548bf4ad80d268bf2eb1b8e43c4b6748ecac0fbec35ef49765f28b9e98", func := "loop.example/g01209/laws.FnExactTurnPole", spec := "fnExactTurnPole", apart := false }
def FnExactTurnPoleSaid : Prop := fnExactTurnPoleRow.holds Try.pinned (OpenSpec.ofChange fnExactTurnPoleSpec)

/-- ITS FALSE NEIGHBOUR: 'it returns false'. Refute it at one input. -/
def fnExactTurnPoleWrong : ChangeSpec := { name := "fnExactTurnPole", fn := fun _ => fun
  | [d] => { results := [.lit (.bool false)], args := [d] }
  | _ => none }
def FnExactTurnPoleWrongFalsely : Prop := fnExactTurnPoleRow.holds Try.pinned (OpenSpec.ofChange fnExactTurnPoleWrong)

/-- 'laws.FnExactSpinPole': WHATEVER THE INPUT: true; the input reads as it did. -/
def fnExactSpinPoleSpec : ChangeSpec := { name := "fnExactSpinPole", fn := fun _ => fun
  | [d1, d2] => { results := [.lit (.bool true)], args := [d1, d2] }
  | _ => none }
def fnExactSpinPoleRow : OpenClaim := { program := "ytjdkicanamengaa", sum := "f113ac548bf4ad80d268bf2eb1b8e43c4b6748ecac0fbec35ef49765f28b9e98", func := "loop.example/g01209/laws.FnExactSpinPole", spec := "fnExactSpinPole", apart := false }
def FnExactSpinPoleSaid : Prop := fnExactSpinPoleRow.holds Try.pinned (OpenSpec.ofChange fnExactSpinPoleSpec)

/-- ITS FALSE NEIGHBOUR: 'it returns false'. Refute it at one input. -/
def fnExactSpinPoleWrong : ChangeSpec := { name := "fnExactSpinPole", fn := fun _ => fun
  | [d1, d2] => { results := [.lit (.bool false)], args := [d1, d2] }
  | _ => none }
def FnExactSpinPoleWrongFalsely : Prop := fnExactSpinPoleRow.holds Try.pinned (OpenSpec.ofChange fnExactSpinPoleWrong)

/-- 'laws.FnExactOpenPole': WHATEVER THE INPUT: true; the input reads as it did. -/
def fnExactOpenPoleSpec : ChangeSpec := { name := "fnExactOpenPole", fn := fun _ => fun
  | [d] => { results := [.lit (.bool true)], args := [d] }
  | _ => none }
def fnExactOpenPoleRow : OpenClaim := { program := "ytjdkicanamengaa", sum := "f113ac548bf4ad80d268bf2eb1b8e43c4b6748ecac0fbec35ef49765f28b9e98", func := "loop.example/g01209/laws.FnExactOpenPole", spec := "fnExactOpenPole", apart := false }
def FnExactOpenPoleSaid : Prop := fnExactOpenPoleRow.holds Try.pinned (OpenSpec.ofChange fnExactOpenPoleSpec)

/-- ITS FALSE NEIGHBOUR: 'it returns false'. Refute it at one input. -/
def fnExactOpenPoleWrong : ChangeSpec := { name := "fnExactOpenPole", fn := fun _ => fun
  | [d] => { results := [.lit (.bool false)], args := [d] }
  | _ => none }
def FnExactOpenPoleWrongFalsely : Prop := fnExactOpenPoleRow.holds Try.pinned (OpenSpec.ofChange fnExactOpenPoleWrong)

/-- 'laws.FnExactClosePole': WHATEVER THE INPUT: true; the input reads as it did. -/
def fnExactClosePoleSpec : ChangeSpec := { name := "fnExactClosePole", fn := fun _ => fun
  | [d] => { results := [.lit (.bool true)], args := [d] }
  | _ => none }
def fnExactClosePoleRow : OpenClaim := { program := "ytjdkicanamengaa", sum := "f113ac548bf4ad80d268bf2eb1b8e43c4b6748ecac0fbec35ef49765f28b9e98", func := "loop.example/g01209/laws.FnExactClosePole", spec := "fnExactClosePole", apart := false }
def FnExactClosePoleSaid : Prop := fnExactClosePoleRow.holds Try.pinned (OpenSpec.ofChange fnExactClosePoleSpec)

/-- ITS FALSE NEIGHBOUR: 'it returns false'. Refute it at one input. -/
def fnExactClosePoleWrong : ChangeSpec := { name := "fnExactClosePole", fn := fun _ => fun
  | [d] => { results := [.lit (.bool false)], args := [d] }
  | _ => none }
def FnExactClosePoleWrongFalsely : Prop := fnExactClosePoleRow.holds Try.pinned (OpenSpec.ofChange fnExactClosePoleWrong)

/- THE SECOND FORM. 'bulk': how many values and letters a reading holds, each counted each time it is reached (what is shared counts as often as it is met; a slice's spare places count too). A statement '..UptoSaid' is the law's where the arguments, and the package variables that the reading takes, are together of bulk at most 1048576: NARROWER than '..Said'. Prove '..Said' where nothing that the law and all that it calls make is longer than what came in: it says more and counts as full. Else prove '..UptoSaid'. A law counts once. -/
mutual
def uptoBulk {H : Type} : DataW H → Nat
  | .lit (.string bytes) => bytes.length + 1
  | .lit _ => 1
  | .nil => 1
  | .ptr d => uptoBulk d + 1
  | .slice elems spare => uptoBulkAll elems + uptoBulkAll spare + 1
  | .agg parts => uptoBulkAll parts + 1
  | .iface _ d => uptoBulk d + 1
  | .map entries => uptoBulkEntries entries + 1
  | .held _ => 1
def uptoBulkAll {H : Type} : List (DataW H) → Nat
  | [] => 0
  | d :: r => uptoBulk d + uptoBulkAll r
def uptoBulkEntries {H : Type} : List (Lit × DataW H) → Nat
  | [] => 0
  | x :: r => uptoBulkEntry x + uptoBulkEntries r
def uptoBulkEntry {H : Type} : Lit × DataW H → Nat
  | (.string bytes, d) => bytes.length + uptoBulk d + 1
  | (_, d) => uptoBulk d + 1
 end
def uptoSmall : (H : Type) → List (DataW H) → Bool := fun _ ds => decide (uptoBulkAll ds ≤ 1048576)
def OpenSpec.upto (s : _root_.Go.ChangeSpec) : _root_.Go.OpenSpec := { _root_.Go.OpenSpec.ofChange s with cond := some uptoSmall }

/-- 'laws.FnExactIsPole', WHERE WHAT IT READS IS OF BULK AT MOST 1048576: true; the input reads as it did. -/
def fnExactIsPoleUptoRow : OpenClaim := { program := "ytjdkicanamengaa", sum := "f113ac548bf4ad80d268bf2eb1b8e43c4b6748ecac0fbec35ef49765f28b9e98", func := "loop.example/g01209/laws.FnExactIsPole", spec := "fnExactIsPole", apart := false, narrowed := true }
def FnExactIsPoleUptoSaid : Prop := fnExactIsPoleUptoRow.holds Try.pinned (OpenSpec.upto fnExactIsPoleSpec)

/-- 'laws.FnExactPoleEnd', WHERE WHAT IT READS IS OF BULK AT MOST 1048576: true; the input reads as it did. -/
def fnExactPoleEndUptoRow : OpenClaim := { program := "ytjdkicanamengaa", sum := "f113ac548bf4ad80d268bf2eb1b8e43c4b6748ecac0fbec35ef49765f28b9e98", func := "loop.example/g01209/laws.FnExactPoleEnd", spec := "fnExactPoleEnd", apart := false, narrowed := true }
def FnExactPoleEndUptoSaid : Prop := fnExactPoleEndUptoRow.holds Try.pinned (OpenSpec.upto fnExactPoleEndSpec)

/-- 'laws.FnExactPoleWay', WHERE WHAT IT READS IS OF BULK AT MOST 1048576: true; the input reads as it did. -/
def fnExactPoleWayUptoRow : OpenClaim := { program := "ytjdkicanamengaa", sum := "f113ac548bf4ad80d268bf2eb1b8e43c4b6748ecac0fbec35ef49765f28b9e98", func := "loop.example/g01209/laws.FnExactPoleWay", spec := "fnExactPoleWay", apart := false, narrowed := true }
def FnExactPoleWayUptoSaid : Prop := fnExactPoleWayUptoRow.holds Try.pinned (OpenSpec.upto fnExactPoleWaySpec)

/-- 'laws.FnExactPoleResult', WHERE WHAT IT READS IS OF BULK AT MOST 1048576: true; the input reads as it did. -/
def fnExactPoleResultUptoRow : OpenClaim := { program := "ytjdkicanamengaa", sum := "f113ac548bf4ad80d268bf2eb1b8e43c4b6748ecac0fbec35ef49765f28b9e98", func := "loop.example/g01209/laws.FnExactPoleResult", spec := "fnExactPoleResult", unfollowed := true, recurses := true, apart := false, narrowed := true }
def FnExactPoleResultUptoSaid : Prop := fnExactPoleResultUptoRow.holds Try.pinned (OpenSpec.upto fnExactPoleResultSpec)

/-- 'laws.FnExactBelowPole', WHERE WHAT IT READS IS OF BULK AT MOST 1048576: true; the input reads as it did. -/
def fnExactBelowPoleUptoRow : OpenClaim := { program := "ytjdkicanamengaa", sum := "f113ac548bf4ad80d268bf2eb1b8e43c4b6748ecac0fbec35ef49765f28b9e98", func := "loop.example/g01209/laws.FnExactBelowPole", spec := "fnExactBelowPole", apart := false, narrowed := true }
def FnExactBelowPoleUptoSaid : Prop := fnExactBelowPoleUptoRow.holds Try.pinned (OpenSpec.upto fnExactBelowPoleSpec)

/-- 'laws.FnExactTurnPole', WHERE WHAT IT READS IS OF BULK AT MOST 1048576: true; the input reads as it did. -/
def fnExactTurnPoleUptoRow : OpenClaim := { program := "ytjdkicanamengaa", sum := "f113ac548bf4ad80d268bf2eb1b8e43c4b6748ecac0fbec35ef49765f28b9e98", func := "loop.example/g01209/laws.FnExactTurnPole", spec := "fnExactTurnPole", apart := false, narrowed := true }
def FnExactTurnPoleUptoSaid : Prop := fnExactTurnPoleUptoRow.holds Try.pinned (OpenSpec.upto fnExactTurnPoleSpec)

/-- 'laws.FnExactSpinPole', WHERE WHAT IT READS IS OF BULK AT MOST 1048576: true; the input reads as it did. -/
def fnExactSpinPoleUptoRow : OpenClaim := { program := "ytjdkicanamengaa", sum := "f113ac548bf4ad80d268bf2eb1b8e43c4b6748ecac0fbec35ef49765f28b9e98", func := "loop.example/g01209/laws.FnExactSpinPole", spec := "fnExactSpinPole", apart := false, narrowed := true }
def FnExactSpinPoleUptoSaid : Prop := fnExactSpinPoleUptoRow.holds Try.pinned (OpenSpec.upto fnExactSpinPoleSpec)

/-- 'laws.FnExactOpenPole', WHERE WHAT IT READS IS OF BULK AT MOST 1048576: true; the input reads as it did. -/
def fnExactOpenPoleUptoRow : OpenClaim := { program := "ytjdkicanamengaa", sum := "f113ac548bf4ad80d268bf2eb1b8e43c4b6748ecac0fbec35ef49765f28b9e98", func := "loop.example/g01209/laws.FnExactOpenPole", spec := "fnExactOpenPole", apart := false, narrowed := true }
def FnExactOpenPoleUptoSaid : Prop := fnExactOpenPoleUptoRow.holds Try.pinned (OpenSpec.upto fnExactOpenPoleSpec)

/-- 'laws.FnExactClosePole', WHERE WHAT IT READS IS OF BULK AT MOST 1048576: true; the input reads as it did. -/
def fnExactClosePoleUptoRow : OpenClaim := { program := "ytjdkicanamengaa", sum := "f113ac548bf4ad80d268bf2eb1b8e43c4b6748ecac0fbec35ef49765f28b9e98", func := "loop.example/g01209/laws.FnExactClosePole", spec := "fnExactClosePole", apart := false, narrowed := true }
def FnExactClosePoleUptoSaid : Prop := fnExactClosePoleUptoRow.holds Try.pinned (OpenSpec.upto fnExactClosePoleSpec)

end Rows
end Go.Proofs.Ytjdkicanamengaa
