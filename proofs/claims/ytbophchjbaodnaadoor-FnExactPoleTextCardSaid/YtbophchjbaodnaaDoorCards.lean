/-
  DERIVED. GIVEN WITH THE SEED: THE CARDS: each row of YtbophchjbaodnaaDoorRows.lean that lists a variable, with what it lists TIED to the program's text (the seventh form; the later family's looks); each row that meets fmt, with fmt's text TOLD by the authors' own Lean function (tested against real Go, not proved from fmt's source: count such statements apart). THE CARD IS WHAT COUNTS. Prove the row's statement (the work); the ties are given (YtbophchjbaodnaaDoorTie.lean); close each card by the builder's one call (the guide's Derived/Test/ToyasCard.lean, 'card_holds'). Laid BY PROGRAM, IN A SANDBOX (cutbox-door.mjs). By AI agents, Wed Nov 11 2026. No macro, syntax, notation, axiom, sorry.
-/
import Derived.Test.YtbophchjbaodnaaDoorRows
import GoSem.ClaimSeven
namespace Go.Proofs.YtbophchjbaodnaaDoor
namespace Rows

/-- THE TIED CARD OF 'laws.FnExactPoleText'. -/
def fnExactPoleTextCard : Claim7 := { stood := { row := fnExactPoleTextRow, standIns := [], harness := (true, "63b83167934802fd0ad998f70331fb359ace81da629791a5f3eb7d0a390bda37"), looks := false }, kinds := [], alts := [], laidByText := true, laidKinds := [.data, .data, .data], laidTests := true, laidLooks := .later }
def FnExactPoleTextCardSaid : Prop := Claim7.holds Tryd.pinned (.plain (OpenSpec.ofChange fnExactPoleTextSpec)) fnExactPoleTextCard

/-- THE SECOND FORM's CARD OF 'laws.FnExactPoleText'. -/
def fnExactPoleTextUptoCard : Claim7 := { stood := { row := fnExactPoleTextUptoRow, standIns := [], harness := (true, "63b83167934802fd0ad998f70331fb359ace81da629791a5f3eb7d0a390bda37"), looks := false }, kinds := [], alts := [], laidByText := true, laidKinds := [.data, .data, .data], laidTests := true, laidLooks := .later }
def FnExactPoleTextUptoCardSaid : Prop := Claim7.holds Tryd.pinned (.plain (OpenSpec.upto fnExactPoleTextSpec)) fnExactPoleTextUptoCard
end Rows
end Go.Proofs.YtbophchjbaodnaaDoor
