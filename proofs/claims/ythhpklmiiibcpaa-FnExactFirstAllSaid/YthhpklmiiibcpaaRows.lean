/-
  No cell of these rows narrows 'for every input' (looked for: loops, veiled, ifaces, maps, wideKeys, modest, calm, conditions, laid).
  DERIVED. THE GIVEN ROWS OF THIS SEAT. 6 by the template 'for every input the law returns true; each argument reads behind the call as it read before'; 0 by the template 'total and deterministic' (their statements: YthhpklmiiibcpaaTotals.lean).
  GIVEN WITH THE SEED: the statements are not yours to turn. If you find one false, say at which input.
  Laid BY PROGRAM, IN A SANDBOX (cutbox-rows.mjs): the forced cells as the released guide's own fill.sh prints them over the translation 7683ca77d297b29c… (all of the seat's roots in one cut). By AI agents, Wed Nov 11 2026. No macro, syntax, notation, axiom, sorry.
-/
import Derived.Test.YthhpklmiiibcpaaChecked
import GoSem.Claim
import GoSem.ClaimJoined
import GoSem.ClaimMapViews
import Derived.JoinedTies
import Derived.KernelRfl
namespace Go.Proofs.Ythhpklmiiibcpaa
/- THE CELL 'sum', in the pinned program and in every row, IS THE sha256 OF THE DUMP (.gsa) THAT YthhpklmiiibcpaaProg.lean LOADS. Nothing in Lean hashes anything: it is a label: what it is worth is what the hold of that sum in a sandbox is worth. -/
noncomputable def Try.pinned : Pinned := { name := "ythhpklmiiibcpaa", sum := "7683ca77d297b29c3b8e6c407808f36bc04d83a3d43b70255a94a2cffdc971b1", checked := Try.checked }
namespace Rows
def none {H : Type} : Left H := { results := [], args := [] }

/-- 'laws.FnExactCountForOrder': WHATEVER THE INPUT: true; the input reads as it did. -/
def fnExactCountForOrderSpec : ChangeSpec := { name := "fnExactCountForOrder", fn := fun _ => fun
  | [d1, d2, d3] => { results := [.lit (.bool true)], args := [d1, d2, d3] }
  | _ => none }
def fnExactCountForOrderRow : OpenClaim := { program := "ythhpklmiiibcpaa", sum := "7683ca77d297b29c3b8e6c407808f36bc04d83a3d43b70255a94a2cffdc971b1", func := "loop.example/g01209/laws.FnExactCountForOrder", spec := "fnExactCountForOrder", recurses := true, plainKeys := false, apart := false }
def FnExactCountForOrderSaid : Prop := fnExactCountForOrderRow.holds Try.pinned (OpenSpec.ofChange fnExactCountForOrderSpec)

/-- ITS FALSE NEIGHBOUR: 'it returns false'. Refute it at one input. -/
def fnExactCountForOrderWrong : ChangeSpec := { name := "fnExactCountForOrder", fn := fun _ => fun
  | [d1, d2, d3] => { results := [.lit (.bool false)], args := [d1, d2, d3] }
  | _ => none }
def FnExactCountForOrderWrongFalsely : Prop := fnExactCountForOrderRow.holds Try.pinned (OpenSpec.ofChange fnExactCountForOrderWrong)

/-- 'laws.FnExactChanceOfOrder': WHATEVER THE INPUT: true; the input reads as it did. -/
def fnExactChanceOfOrderSpec : ChangeSpec := { name := "fnExactChanceOfOrder", fn := fun _ => fun
  | [d1, d2, d3] => { results := [.lit (.bool true)], args := [d1, d2, d3] }
  | _ => none }
def fnExactChanceOfOrderRow : OpenClaim := { program := "ythhpklmiiibcpaa", sum := "7683ca77d297b29c3b8e6c407808f36bc04d83a3d43b70255a94a2cffdc971b1", func := "loop.example/g01209/laws.FnExactChanceOfOrder", spec := "fnExactChanceOfOrder", recurses := true, plainKeys := false, apart := false }
def FnExactChanceOfOrderSaid : Prop := fnExactChanceOfOrderRow.holds Try.pinned (OpenSpec.ofChange fnExactChanceOfOrderSpec)

/-- ITS FALSE NEIGHBOUR: 'it returns false'. Refute it at one input. -/
def fnExactChanceOfOrderWrong : ChangeSpec := { name := "fnExactChanceOfOrder", fn := fun _ => fun
  | [d1, d2, d3] => { results := [.lit (.bool false)], args := [d1, d2, d3] }
  | _ => none }
def FnExactChanceOfOrderWrongFalsely : Prop := fnExactChanceOfOrderRow.holds Try.pinned (OpenSpec.ofChange fnExactChanceOfOrderWrong)

/-- 'laws.FnExactCountOrdersMade': WHATEVER THE INPUT: true; the input reads as it did. -/
def fnExactCountOrdersMadeSpec : ChangeSpec := { name := "fnExactCountOrdersMade", fn := fun _ => fun
  | [d1, d2] => { results := [.lit (.bool true)], args := [d1, d2] }
  | _ => none }
def fnExactCountOrdersMadeRow : OpenClaim := { program := "ythhpklmiiibcpaa", sum := "7683ca77d297b29c3b8e6c407808f36bc04d83a3d43b70255a94a2cffdc971b1", func := "loop.example/g01209/laws.FnExactCountOrdersMade", spec := "fnExactCountOrdersMade", plainKeys := false, apart := false }
def FnExactCountOrdersMadeSaid : Prop := fnExactCountOrdersMadeRow.holds Try.pinned (OpenSpec.ofChange fnExactCountOrdersMadeSpec)

/-- ITS FALSE NEIGHBOUR: 'it returns false'. Refute it at one input. -/
def fnExactCountOrdersMadeWrong : ChangeSpec := { name := "fnExactCountOrdersMade", fn := fun _ => fun
  | [d1, d2] => { results := [.lit (.bool false)], args := [d1, d2] }
  | _ => none }
def FnExactCountOrdersMadeWrongFalsely : Prop := fnExactCountOrdersMadeRow.holds Try.pinned (OpenSpec.ofChange fnExactCountOrdersMadeWrong)

/-- 'laws.FnExactLikeliestOrder': WHATEVER THE INPUT: true; the input reads as it did. -/
def fnExactLikeliestOrderSpec : ChangeSpec := { name := "fnExactLikeliestOrder", fn := fun _ => fun
  | [d1, d2] => { results := [.lit (.bool true)], args := [d1, d2] }
  | _ => none }
def fnExactLikeliestOrderRow : OpenClaim := { program := "ythhpklmiiibcpaa", sum := "7683ca77d297b29c3b8e6c407808f36bc04d83a3d43b70255a94a2cffdc971b1", func := "loop.example/g01209/laws.FnExactLikeliestOrder", spec := "fnExactLikeliestOrder", plainKeys := false, apart := false }
def FnExactLikeliestOrderSaid : Prop := fnExactLikeliestOrderRow.holds Try.pinned (OpenSpec.ofChange fnExactLikeliestOrderSpec)

/-- ITS FALSE NEIGHBOUR: 'it returns false'. Refute it at one input. -/
def fnExactLikeliestOrderWrong : ChangeSpec := { name := "fnExactLikeliestOrder", fn := fun _ => fun
  | [d1, d2] => { results := [.lit (.bool false)], args := [d1, d2] }
  | _ => none }
def FnExactLikeliestOrderWrongFalsely : Prop := fnExactLikeliestOrderRow.holds Try.pinned (OpenSpec.ofChange fnExactLikeliestOrderWrong)

/-- 'laws.FnExactMeanInversions': WHATEVER THE INPUT: true; the input reads as it did. -/
def fnExactMeanInversionsSpec : ChangeSpec := { name := "fnExactMeanInversions", fn := fun _ => fun
  | [d1, d2] => { results := [.lit (.bool true)], args := [d1, d2] }
  | _ => none }
def fnExactMeanInversionsRow : OpenClaim := { program := "ythhpklmiiibcpaa", sum := "7683ca77d297b29c3b8e6c407808f36bc04d83a3d43b70255a94a2cffdc971b1", func := "loop.example/g01209/laws.FnExactMeanInversions", spec := "fnExactMeanInversions", plainKeys := false, apart := false }
def FnExactMeanInversionsSaid : Prop := fnExactMeanInversionsRow.holds Try.pinned (OpenSpec.ofChange fnExactMeanInversionsSpec)

/-- ITS FALSE NEIGHBOUR: 'it returns false'. Refute it at one input. -/
def fnExactMeanInversionsWrong : ChangeSpec := { name := "fnExactMeanInversions", fn := fun _ => fun
  | [d1, d2] => { results := [.lit (.bool false)], args := [d1, d2] }
  | _ => none }
def FnExactMeanInversionsWrongFalsely : Prop := fnExactMeanInversionsRow.holds Try.pinned (OpenSpec.ofChange fnExactMeanInversionsWrong)

/-- 'laws.FnExactFirstAll': WHATEVER THE INPUT: true; the input reads as it did. -/
def fnExactFirstAllSpec : ChangeSpec := { name := "fnExactFirstAll", fn := fun _ => fun
  | [d] => { results := [.lit (.bool true)], args := [d] }
  | _ => none }
def fnExactFirstAllRow : OpenClaim := { program := "ythhpklmiiibcpaa", sum := "7683ca77d297b29c3b8e6c407808f36bc04d83a3d43b70255a94a2cffdc971b1", func := "loop.example/g01209/laws.FnExactFirstAll", spec := "fnExactFirstAll", recurses := true, plainKeys := false, apart := false }
def FnExactFirstAllSaid : Prop := fnExactFirstAllRow.holds Try.pinned (OpenSpec.ofChange fnExactFirstAllSpec)

/-- ITS FALSE NEIGHBOUR: 'it returns false'. Refute it at one input. -/
def fnExactFirstAllWrong : ChangeSpec := { name := "fnExactFirstAll", fn := fun _ => fun
  | [d] => { results := [.lit (.bool false)], args := [d] }
  | _ => none }
def FnExactFirstAllWrongFalsely : Prop := fnExactFirstAllRow.holds Try.pinned (OpenSpec.ofChange fnExactFirstAllWrong)

/- THE SECOND FORM. 'bulk': how many values and letters a reading holds, each counted each time it is reached (what is shared counts as often as it is met; a slice's spare places count too). A statement '..UptoSaid' is the law's where the arguments, and the package variables that the reading takes, are together of bulk at most 1048576: NARROWER than '..Said'. Prove '..Said' where nothing that the law and all that it calls make is longer than what came in: it says more and counts as full. Else prove '..UptoSaid'. A law counts once. -/
mutual
def uptoBulk {H : Type} : DataW H → Nat
  | .lit (.string bytes) => bytes.length + 1
  | .lit _ => 1
  | .nil => 1
  | .ptr d => uptoBulk d + 1
  | .slice elems spare => uptoBulkAll elems + uptoBulkAll spare + 1
  | .agg parts => uptoBulkAll parts + 1
  | .iface _ d => uptoBulk d + 1
  | .map entries => uptoBulkEntries entries + 1
  | .held _ => 1
def uptoBulkAll {H : Type} : List (DataW H) → Nat
  | [] => 0
  | d :: r => uptoBulk d + uptoBulkAll r
def uptoBulkEntries {H : Type} : List (Lit × DataW H) → Nat
  | [] => 0
  | x :: r => uptoBulkEntry x + uptoBulkEntries r
def uptoBulkEntry {H : Type} : Lit × DataW H → Nat
  | (.string bytes, d) => bytes.length + uptoBulk d + 1
  | (_, d) => uptoBulk d + 1
 end
def uptoSmall : (H : Type) → List (DataW H) → Bool := fun _ ds => decide (uptoBulkAll ds ≤ 1048576)
def OpenSpec.upto (s : _root_.Go.ChangeSpec) : _root_.Go.OpenSpec := { _root_.Go.OpenSpec.ofChange s with cond := some uptoSmall }

/-- 'laws.FnExactCountForOrder', WHERE WHAT IT READS IS OF BULK AT MOST 1048576: true; the input reads as it did. -/
def fnExactCountForOrderUptoRow : OpenClaim := { program := "ythhpklmiiibcpaa", sum := "7683ca77d297b29c3b8e6c407808f36bc04d83a3d43b70255a94a2cffdc971b1", func := "loop.example/g01209/laws.FnExactCountForOrder", spec := "fnExactCountForOrder", recurses := true, plainKeys := false, apart := false, narrowed := true }
def FnExactCountForOrderUptoSaid : Prop := fnExactCountForOrderUptoRow.holds Try.pinned (OpenSpec.upto fnExactCountForOrderSpec)

/-- 'laws.FnExactChanceOfOrder', WHERE WHAT IT READS IS OF BULK AT MOST 1048576: true; the input reads as it did. -/
def fnExactChanceOfOrderUptoRow : OpenClaim := { program := "ythhpklmiiibcpaa", sum := "7683ca77d297b29c3b8e6c407808f36bc04d83a3d43b70255a94a2cffdc971b1", func := "loop.example/g01209/laws.FnExactChanceOfOrder", spec := "fnExactChanceOfOrder", recurses := true, plainKeys := false, apart := false, narrowed := true }
def FnExactChanceOfOrderUptoSaid : Prop := fnExactChanceOfOrderUptoRow.holds Try.pinned (OpenSpec.upto fnExactChanceOfOrderSpec)

/-- 'laws.FnExactCountOrdersMade', WHERE WHAT IT READS IS OF BULK AT MOST 1048576: true; the input reads as it did. -/
def fnExactCountOrdersMadeUptoRow : OpenClaim := { program := "ythhpklmiiibcpaa", sum := "7683ca77d297b29c3b8e6c407808f36bc04d83a3d43b70255a94a2cffdc971b1", func := "loop.example/g01209/laws.FnExactCountOrdersMade", spec := "fnExactCountOrdersMade", plainKeys := false, apart := false, narrowed := true }
def FnExactCountOrdersMadeUptoSaid : Prop := fnExactCountOrdersMadeUptoRow.holds Try.pinned (OpenSpec.upto fnExactCountOrdersMadeSpec)

/-- 'laws.FnExactLikeliestOrder', WHERE WHAT IT READS IS OF BULK AT MOST 1048576: true; the input reads as it did. -/
def fnExactLikeliestOrderUptoRow : OpenClaim := { program := "ythhpklmiiibcpaa", sum := "7683ca77d297b29c3b8e6c407808f36bc04d83a3d43b70255a94a2cffdc971b1", func := "loop.example/g01209/laws.FnExactLikeliestOrder", spec := "fnExactLikeliestOrder", plainKeys := false, apart := false, narrowed := true }
def FnExactLikeliestOrderUptoSaid : Prop := fnExactLikeliestOrderUptoRow.holds Try.pinned (OpenSpec.upto fnExactLikeliestOrderSpec)

/-- 'laws.FnExactMeanInversions', WHERE WHAT IT READS IS OF BULK AT MOST 1048576: true; the input reads as it did. -/
def fnExactMeanInversionsUptoRow : OpenClaim := { program := "ythhpklmiiibcpaa", sum := "7683ca77d297b29c3b8e6c407808f36bc04d83a3d43b70255a94a2cffdc971b1", func := "loop.example/g01209/laws.FnExactMeanInversions", spec := "fnExactMeanInversions", plainKeys := false, apart := false, narrowed := true }
def FnExactMeanInversionsUptoSaid : Prop := fnExactMeanInversionsUptoRow.holds Try.pinned (OpenSpec.upto fnExactMeanInversionsSpec)

/-- 'laws.FnExactFirstAll', WHERE WHAT IT READS IS OF BULK AT MOST 1048576: true; the input reads as it did. -/
def fnExactFirstAllUptoRow : OpenClaim := { program := "ythhpklmiiibcpaa", sum := "7683ca77d297b29c3b8e6c407808f36bc04d83a3d43b70255a94a2cffdc971b1", func := "loop.example/g01209/laws.FnExactFirstAll", spec := "fnExactFirstAll", recurses := true, plainKeys := false, apart := false, narrowed := true }
def FnExactFirstAllUptoSaid : Prop := fnExactFirstAllUptoRow.holds Try.pinned (OpenSpec.upto fnExactFirstAllSpec)

end Rows
end Go.Proofs.Ythhpklmiiibcpaa
