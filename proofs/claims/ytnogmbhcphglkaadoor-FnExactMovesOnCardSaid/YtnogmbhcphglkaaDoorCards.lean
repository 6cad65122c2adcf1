/-
  DERIVED. GIVEN WITH THE SEED: THE CARDS: each row of YtnogmbhcphglkaaDoorRows.lean that lists a variable, with what it lists TIED to the program's text (the seventh form; the later family's looks); each row that meets fmt, with fmt's text TOLD by the authors' own Lean function (tested against real Go, not proved from fmt's source: count such statements apart). THE CARD IS WHAT COUNTS. Prove the row's statement (the work); the ties are given (YtnogmbhcphglkaaDoorTie.lean); close each card by the builder's one call (the guide's Derived/Test/ToyasCard.lean, 'card_holds'). Laid BY PROGRAM, IN A SANDBOX (cutbox-door.mjs). By AI agents, Wed Nov 11 2026. No macro, syntax, notation, axiom, sorry.
-/
import Derived.Test.YtnogmbhcphglkaaDoorRows
import GoSem.ClaimSeven
namespace Go.Proofs.YtnogmbhcphglkaaDoor
namespace Rows

/-- THE TIED CARD OF 'laws.FnExactMovesOn'. -/
def fnExactMovesOnCard : Claim7 := { stood := { row := fnExactMovesOnRow, standIns := [], harness := (true, "c9395782d01e4f60f7b4388bc29131d428976dfbd2243d446a24dcc6495b518c"), looks := false }, kinds := [], alts := [], laidByText := true, laidKinds := [.data, .data, .data], laidTests := true, laidLooks := .later }
def FnExactMovesOnCardSaid : Prop := Claim7.holds Tryd.pinned (.plain (OpenSpec.ofChange fnExactMovesOnSpec)) fnExactMovesOnCard

/-- THE TIED CARD OF 'laws.FnExactMakeMove'. -/
def fnExactMakeMoveCard : Claim7 := { stood := { row := fnExactMakeMoveRow, standIns := [], harness := (true, "c9395782d01e4f60f7b4388bc29131d428976dfbd2243d446a24dcc6495b518c"), looks := false }, kinds := [], alts := [], laidByText := true, laidKinds := [.data, .data, .data], laidTests := true, laidLooks := .later }
def FnExactMakeMoveCardSaid : Prop := Claim7.holds Tryd.pinned (.plain (OpenSpec.ofChange fnExactMakeMoveSpec)) fnExactMakeMoveCard

/-- THE TIED CARD OF 'laws.FnExactSlideClass'. -/
def fnExactSlideClassCard : Claim7 := { stood := { row := fnExactSlideClassRow, standIns := [], harness := (true, "c9395782d01e4f60f7b4388bc29131d428976dfbd2243d446a24dcc6495b518c"), looks := false }, kinds := [], alts := [], laidByText := true, laidKinds := [.data, .data, .data], laidTests := true, laidLooks := .later }
def FnExactSlideClassCardSaid : Prop := Claim7.holds Tryd.pinned (.plain (OpenSpec.ofChange fnExactSlideClassSpec)) fnExactSlideClassCard

/-- THE SECOND FORM's CARD OF 'laws.FnExactMovesOn'. -/
def fnExactMovesOnUptoCard : Claim7 := { stood := { row := fnExactMovesOnUptoRow, standIns := [], harness := (true, "c9395782d01e4f60f7b4388bc29131d428976dfbd2243d446a24dcc6495b518c"), looks := false }, kinds := [], alts := [], laidByText := true, laidKinds := [.data, .data, .data], laidTests := true, laidLooks := .later }
def FnExactMovesOnUptoCardSaid : Prop := Claim7.holds Tryd.pinned (.plain (OpenSpec.upto fnExactMovesOnSpec)) fnExactMovesOnUptoCard

/-- THE SECOND FORM's CARD OF 'laws.FnExactMakeMove'. -/
def fnExactMakeMoveUptoCard : Claim7 := { stood := { row := fnExactMakeMoveUptoRow, standIns := [], harness := (true, "c9395782d01e4f60f7b4388bc29131d428976dfbd2243d446a24dcc6495b518c"), looks := false }, kinds := [], alts := [], laidByText := true, laidKinds := [.data, .data, .data], laidTests := true, laidLooks := .later }
def FnExactMakeMoveUptoCardSaid : Prop := Claim7.holds Tryd.pinned (.plain (OpenSpec.upto fnExactMakeMoveSpec)) fnExactMakeMoveUptoCard

/-- THE SECOND FORM's CARD OF 'laws.FnExactSlideClass'. -/
def fnExactSlideClassUptoCard : Claim7 := { stood := { row := fnExactSlideClassUptoRow, standIns := [], harness := (true, "c9395782d01e4f60f7b4388bc29131d428976dfbd2243d446a24dcc6495b518c"), looks := false }, kinds := [], alts := [], laidByText := true, laidKinds := [.data, .data, .data], laidTests := true, laidLooks := .later }
def FnExactSlideClassUptoCardSaid : Prop := Claim7.holds Tryd.pinned (.plain (OpenSpec.upto fnExactSlideClassSpec)) fnExactSlideClassUptoCard
end Rows
end Go.Proofs.YtnogmbhcphglkaaDoor
