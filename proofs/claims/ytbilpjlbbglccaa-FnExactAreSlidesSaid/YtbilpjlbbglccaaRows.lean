/-
  No cell of these rows narrows 'for every input' (looked for: loops, veiled, ifaces, maps, wideKeys, modest, calm, conditions, laid).
  DERIVED. THE GIVEN ROWS OF THIS SEAT. 6 by the template 'for every input the law returns true; each argument reads behind the call as it read before'; 0 by the template 'total and deterministic' (their statements: YtbilpjlbbglccaaTotals.lean).
  GIVEN WITH THE SEED: the statements are not yours to turn. If you find one false, say at which input.
  Laid BY PROGRAM, IN A SANDBOX (cutbox-rows.mjs): the forced cells as the released guide's own fill.sh prints them over the translation 097c6bda7019c7d3… (all of the seat's roots in one cut). By AI agents, Wed Nov 11 2026. No macro, syntax, notation, axiom, sorry.
-/
import Derived.Test.YtbilpjlbbglccaaChecked
import GoSem.Claim
import GoSem.ClaimJoined
import GoSem.ClaimMapViews
import Derived.JoinedTies
import Derived.KernelRfl
namespace Go.Proofs.Ytbilpjlbbglccaa
/- THE CELL 'sum', in the pinned program and in every row, IS THE sha256 OF THE DUMP (.gsa) THAT YtbilpjlbbglccaaProg.lean LOADS. Nothing in Lean hashes anything: it is a label: what it is worth is what the hold of that sum in a sandbox is worth. -/
noncomputable def Try.pinned : Pinned := { name := "ytbilpjlbbglccaa", sum := "097c6bda7019c7d3f084b97a130366943674a80140b08da6b3bcb761b857d455", checked := Try.checked }
namespace Rows
def none {H : Type} : Left H := { results := [], args := [] }

/-- 'laws.FnExactSlideRung': WHATEVER THE INPUT: true; the input reads as it did. -/
def fnExactSlideRungSpec : ChangeSpec := { name := "fnExactSlideRung", fn := fun _ => fun
  | [d1, d2] => { results := [.lit (.bool true)], args := [d1, d2] }
  | _ => none }
def fnExactSlideRungRow : OpenClaim := { program := "ytbilpjlbbglccaa", sum := "097c6bda7019c7d3f084b97a130366943674a80140b08da6b3bcb761b857d455", func := "loop.example/g01209/laws.FnExactSlideRung", spec := "fnExactSlideRung", unfollowed := true, recurses := true, apart := false }
def FnExactSlideRungSaid : Prop := fnExactSlideRungRow.holds Try.pinned (OpenSpec.ofChange fnExactSlideRungSpec)

/-- ITS FALSE NEIGHBOUR: 'it returns false'. Refute it at one input. -/
def fnExactSlideRungWrong : ChangeSpec := { name := "fnExactSlideRung", fn := fun _ => fun
  | [d1, d2] => { results := [.lit (.bool false)], args := [d1, d2] }
  | _ => none }
def FnExactSlideRungWrongFalsely : Prop := fnExactSlideRungRow.holds Try.pinned (OpenSpec.ofChange fnExactSlideRungWrong)

/-- 'laws.FnExactFlipRungs': WHATEVER THE INPUT: true; the input reads as it did. -/
def fnExactFlipRungsSpec : ChangeSpec := { name := "fnExactFlipRungs", fn := fun _ => fun
  | [d1, d2] => { results := [.lit (.bool true)], args := [d1, d2] }
  | _ => none }
def fnExactFlipRungsRow : OpenClaim := { program := "ytbilpjlbbglccaa", sum := "097c6bda7019c7d3f084b97a130366943674a80140b08da6b3bcb761b857d455", func := "loop.example/g01209/laws.FnExactFlipRungs", spec := "fnExactFlipRungs", unfollowed := true, recurses := true, apart := false }
def FnExactFlipRungsSaid : Prop := fnExactFlipRungsRow.holds Try.pinned (OpenSpec.ofChange fnExactFlipRungsSpec)

/-- ITS FALSE NEIGHBOUR: 'it returns false'. Refute it at one input. -/
def fnExactFlipRungsWrong : ChangeSpec := { name := "fnExactFlipRungs", fn := fun _ => fun
  | [d1, d2] => { results := [.lit (.bool false)], args := [d1, d2] }
  | _ => none }
def FnExactFlipRungsWrongFalsely : Prop := fnExactFlipRungsRow.holds Try.pinned (OpenSpec.ofChange fnExactFlipRungsWrong)

/-- 'laws.FnExactDropPair': WHATEVER THE INPUT: true; the input reads as it did. -/
def fnExactDropPairSpec : ChangeSpec := { name := "fnExactDropPair", fn := fun _ => fun
  | [d1, d2] => { results := [.lit (.bool true)], args := [d1, d2] }
  | _ => none }
def fnExactDropPairRow : OpenClaim := { program := "ytbilpjlbbglccaa", sum := "097c6bda7019c7d3f084b97a130366943674a80140b08da6b3bcb761b857d455", func := "loop.example/g01209/laws.FnExactDropPair", spec := "fnExactDropPair", unfollowed := true, recurses := true, apart := false }
def FnExactDropPairSaid : Prop := fnExactDropPairRow.holds Try.pinned (OpenSpec.ofChange fnExactDropPairSpec)

/-- ITS FALSE NEIGHBOUR: 'it returns false'. Refute it at one input. -/
def fnExactDropPairWrong : ChangeSpec := { name := "fnExactDropPair", fn := fun _ => fun
  | [d1, d2] => { results := [.lit (.bool false)], args := [d1, d2] }
  | _ => none }
def FnExactDropPairWrongFalsely : Prop := fnExactDropPairRow.holds Try.pinned (OpenSpec.ofChange fnExactDropPairWrong)

/-- 'laws.FnExactMeetTwice': WHATEVER THE INPUT: true; the input reads as it did. -/
def fnExactMeetTwiceSpec : ChangeSpec := { name := "fnExactMeetTwice", fn := fun _ => fun
  | [d] => { results := [.lit (.bool true)], args := [d] }
  | _ => none }
def fnExactMeetTwiceRow : OpenClaim := { program := "ytbilpjlbbglccaa", sum := "097c6bda7019c7d3f084b97a130366943674a80140b08da6b3bcb761b857d455", func := "loop.example/g01209/laws.FnExactMeetTwice", spec := "fnExactMeetTwice", apart := false }
def FnExactMeetTwiceSaid : Prop := fnExactMeetTwiceRow.holds Try.pinned (OpenSpec.ofChange fnExactMeetTwiceSpec)

/-- ITS FALSE NEIGHBOUR: 'it returns false'. Refute it at one input. -/
def fnExactMeetTwiceWrong : ChangeSpec := { name := "fnExactMeetTwice", fn := fun _ => fun
  | [d] => { results := [.lit (.bool false)], args := [d] }
  | _ => none }
def FnExactMeetTwiceWrongFalsely : Prop := fnExactMeetTwiceRow.holds Try.pinned (OpenSpec.ofChange fnExactMeetTwiceWrong)

/-- 'laws.FnExactFirstSame': WHATEVER THE INPUT: true; the input reads as it did. -/
def fnExactFirstSameSpec : ChangeSpec := { name := "fnExactFirstSame", fn := fun _ => fun
  | [d] => { results := [.lit (.bool true)], args := [d] }
  | _ => none }
def fnExactFirstSameRow : OpenClaim := { program := "ytbilpjlbbglccaa", sum := "097c6bda7019c7d3f084b97a130366943674a80140b08da6b3bcb761b857d455", func := "loop.example/g01209/laws.FnExactFirstSame", spec := "fnExactFirstSame", apart := false }
def FnExactFirstSameSaid : Prop := fnExactFirstSameRow.holds Try.pinned (OpenSpec.ofChange fnExactFirstSameSpec)

/-- ITS FALSE NEIGHBOUR: 'it returns false'. Refute it at one input. -/
def fnExactFirstSameWrong : ChangeSpec := { name := "fnExactFirstSame", fn := fun _ => fun
  | [d] => { results := [.lit (.bool false)], args := [d] }
  | _ => none }
def FnExactFirstSameWrongFalsely : Prop := fnExactFirstSameRow.holds Try.pinned (OpenSpec.ofChange fnExactFirstSameWrong)

/-- 'laws.FnExactAreSlides': WHATEVER THE INPUT: true; the input reads as it did. -/
def fnExactAreSlidesSpec : ChangeSpec := { name := "fnExactAreSlides", fn := fun _ => fun
  | [d1, d2] => { results := [.lit (.bool true)], args := [d1, d2] }
  | _ => none }
def fnExactAreSlidesRow : OpenClaim := { program := "ytbilpjlbbglccaa", sum := "097c6bda7019c7d3f084b97a130366943674a80140b08da6b3bcb761b857d455", func := "loop.example/g01209/laws.FnExactAreSlides", spec := "fnExactAreSlides", apart := false }
def FnExactAreSlidesSaid : Prop := fnExactAreSlidesRow.holds Try.pinned (OpenSpec.ofChange fnExactAreSlidesSpec)

/-- ITS FALSE NEIGHBOUR: 'it returns false'. Refute it at one input. -/
def fnExactAreSlidesWrong : ChangeSpec := { name := "fnExactAreSlides", fn := fun _ => fun
  | [d1, d2] => { results := [.lit (.bool false)], args := [d1, d2] }
  | _ => none }
def FnExactAreSlidesWrongFalsely : Prop := fnExactAreSlidesRow.holds Try.pinned (OpenSpec.ofChange fnExactAreSlidesWrong)

/- THE SECOND FORM. 'bulk': how many values and letters a reading holds, each counted each time it is reached (what is shared counts as often as it is met; a slice's spare places count too). A statement '..UptoSaid' is the law's where the arguments, and the package variables that the reading takes, are together of bulk at most 1048576: NARROWER than '..Said'. Prove '..Said' where nothing that the law and all that it calls make is longer than what came in: it says more and counts as full. Else prove '..UptoSaid'. A law counts once. -/
mutual
def uptoBulk {H : Type} : DataW H → Nat
  | .lit (.string bytes) => bytes.length + 1
  | .lit _ => 1
  | .nil => 1
  | .ptr d => uptoBulk d + 1
  | .slice elems spare => uptoBulkAll elems + uptoBulkAll spare + 1
  | .agg parts => uptoBulkAll parts + 1
  | .iface _ d => uptoBulk d + 1
  | .map entries => uptoBulkEntries entries + 1
  | .held _ => 1
def uptoBulkAll {H : Type} : List (DataW H) → Nat
  | [] => 0
  | d :: r => uptoBulk d + uptoBulkAll r
def uptoBulkEntries {H : Type} : List (Lit × DataW H) → Nat
  | [] => 0
  | x :: r => uptoBulkEntry x + uptoBulkEntries r
def uptoBulkEntry {H : Type} : Lit × DataW H → Nat
  | (.string bytes, d) => bytes.length + uptoBulk d + 1
  | (_, d) => uptoBulk d + 1
 end
def uptoSmall : (H : Type) → List (DataW H) → Bool := fun _ ds => decide (uptoBulkAll ds ≤ 1048576)
def OpenSpec.upto (s : _root_.Go.ChangeSpec) : _root_.Go.OpenSpec := { _root_.Go.OpenSpec.ofChange s with cond := some uptoSmall }

/-- 'laws.FnExactSlideRung', WHERE WHAT IT READS IS OF BULK AT MOST 1048576: true; the input reads as it did. -/
def fnExactSlideRungUptoRow : OpenClaim := { program := "ytbilpjlbbglccaa", sum := "097c6bda7019c7d3f084b97a130366943674a80140b08da6b3bcb761b857d455", func := "loop.example/g01209/laws.FnExactSlideRung", spec := "fnExactSlideRung", unfollowed := true, recurses := true, apart := false, narrowed := true }
def FnExactSlideRungUptoSaid : Prop := fnExactSlideRungUptoRow.holds Try.pinned (OpenSpec.upto fnExactSlideRungSpec)

/-- 'laws.FnExactFlipRungs', WHERE WHAT IT READS IS OF BULK AT MOST 1048576: true; the input reads as it did. -/
def fnExactFlipRungsUptoRow : OpenClaim := { program := "ytbilpjlbbglccaa", sum := "097c6bda7019c7d3f084b97a130366943674a80140b08da6b3bcb761b857d455", func := "loop.example/g01209/laws.FnExactFlipRungs", spec := "fnExactFlipRungs", unfollowed := true, recurses := true, apart := false, narrowed := true }
def FnExactFlipRungsUptoSaid : Prop := fnExactFlipRungsUptoRow.holds Try.pinned (OpenSpec.upto fnExactFlipRungsSpec)

/-- 'laws.FnExactDropPair', WHERE WHAT IT READS IS OF BULK AT MOST 1048576: true; the input reads as it did. -/
def fnExactDropPairUptoRow : OpenClaim := { program := "ytbilpjlbbglccaa", sum := "097c6bda7019c7d3f084b97a130366943674a80140b08da6b3bcb761b857d455", func := "loop.example/g01209/laws.FnExactDropPair", spec := "fnExactDropPair", unfollowed := true, recurses := true, apart := false, narrowed := true }
def FnExactDropPairUptoSaid : Prop := fnExactDropPairUptoRow.holds Try.pinned (OpenSpec.upto fnExactDropPairSpec)

/-- 'laws.FnExactMeetTwice', WHERE WHAT IT READS IS OF BULK AT MOST 1048576: true; the input reads as it did. -/
def fnExactMeetTwiceUptoRow : OpenClaim := { program := "ytbilpjlbbglccaa", sum := "097c6bda7019c7d3f084b97a130366943674a80140b08da6b3bcb761b857d455", func := "loop.example/g01209/laws.FnExactMeetTwice", spec := "fnExactMeetTwice", apart := false, narrowed := true }
def FnExactMeetTwiceUptoSaid : Prop := fnExactMeetTwiceUptoRow.holds Try.pinned (OpenSpec.upto fnExactMeetTwiceSpec)

/-- 'laws.FnExactFirstSame', WHERE WHAT IT READS IS OF BULK AT MOST 1048576: true; the input reads as it did. -/
def fnExactFirstSameUptoRow : OpenClaim := { program := "ytbilpjlbbglccaa", sum := "097c6bda7019c7d3f084b97a130366943674a80140b08da6b3bcb761b857d455", func := "loop.example/g01209/laws.FnExactFirstSame", spec := "fnExactFirstSame", apart := false, narrowed := true }
def FnExactFirstSameUptoSaid : Prop := fnExactFirstSameUptoRow.holds Try.pinned (OpenSpec.upto fnExactFirstSameSpec)

/-- 'laws.FnExactAreSlides', WHERE WHAT IT READS IS OF BULK AT MOST 1048576: true; the input reads as it did. -/
def fnExactAreSlidesUptoRow : OpenClaim := { program := "ytbilpjlbbglccaa", sum := "097c6bda7019c7d3f084b97a130366943674a80140b08da6b3bcb761b857d455", func := "loop.example/g01209/laws.FnExactAreSlides", spec := "fnExactAreSlides", apart := false, narrowed := true }
def FnExactAreSlidesUptoSaid : Prop := fnExactAreSlidesUptoRow.holds Try.pinned (OpenSpec.upto fnExactAreSlidesSpec)

end Rows
end Go.Proofs.Ytbilpjlbbglccaa
