/-
  DERIVED. GIVEN WITH THE SEED: THE CARDS: each row of YtndphbifnohmdaaDoorRows.lean that lists a variable, with what it lists TIED to the program's text (the seventh form; the later family's looks); each row that meets fmt, with fmt's text TOLD by the authors' own Lean function (tested against real Go, not proved from fmt's source: count such statements apart). THE CARD IS WHAT COUNTS. Prove the row's statement (the work); the ties are given (YtndphbifnohmdaaDoorTie.lean); close each card by the builder's one call (the guide's Derived/Test/ToyasCard.lean, 'card_holds'). Laid BY PROGRAM, IN A SANDBOX (cutbox-door.mjs). By AI agents, Wed Nov 11 2026. No macro, syntax, notation, axiom, sorry.
-/
import Derived.Test.YtndphbifnohmdaaDoorRows
import GoSem.ClaimSeven
namespace Go.Proofs.YtndphbifnohmdaaDoor
namespace Rows

/-- THE TIED CARD OF 'laws.FnExactLadderText'. -/
def fnExactLadderTextCard : Claim7 := { stood := { row := fnExactLadderTextRow, standIns := [], harness := (true, "72ce2acbcbe292361f7444acb73cd4ee29894c61af4f90cd4263d930e53014d0"), looks := true }, kinds := [], alts := [], laidByText := true, laidKinds := [.data, .data, .data], laidTests := true, laidLooks := .later }
def FnExactLadderTextCardSaid : Prop := Claim7.holds Tryd.pinned (.plain (OpenSpec.ofChange fnExactLadderTextSpec)) fnExactLadderTextCard

/-- THE TIED CARD OF 'laws.FnExactParseLadder'. -/
def fnExactParseLadderCard : Claim7 := { stood := { row := fnExactParseLadderRow, standIns := [], harness := (true, "72ce2acbcbe292361f7444acb73cd4ee29894c61af4f90cd4263d930e53014d0"), looks := true }, kinds := [], alts := [], laidByText := true, laidKinds := [.data, .data, .data, .data, .sentinel, .sentinel, .pinned], laidTests := true, laidLooks := .later }
def FnExactParseLadderCardSaid : Prop := Claim7.holds Tryd.pinned (.plain (OpenSpec.ofChange fnExactParseLadderSpec)) fnExactParseLadderCard

/-- THE SECOND FORM's CARD OF 'laws.FnExactLadderText'. -/
def fnExactLadderTextUptoCard : Claim7 := { stood := { row := fnExactLadderTextUptoRow, standIns := [], harness := (true, "72ce2acbcbe292361f7444acb73cd4ee29894c61af4f90cd4263d930e53014d0"), looks := true }, kinds := [], alts := [], laidByText := true, laidKinds := [.data, .data, .data], laidTests := true, laidLooks := .later }
def FnExactLadderTextUptoCardSaid : Prop := Claim7.holds Tryd.pinned (.plain (OpenSpec.upto fnExactLadderTextSpec)) fnExactLadderTextUptoCard

/-- THE SECOND FORM's CARD OF 'laws.FnExactParseLadder'. -/
def fnExactParseLadderUptoCard : Claim7 := { stood := { row := fnExactParseLadderUptoRow, standIns := [], harness := (true, "72ce2acbcbe292361f7444acb73cd4ee29894c61af4f90cd4263d930e53014d0"), looks := true }, kinds := [], alts := [], laidByText := true, laidKinds := [.data, .data, .data, .data, .sentinel, .sentinel, .pinned], laidTests := true, laidLooks := .later }
def FnExactParseLadderUptoCardSaid : Prop := Claim7.holds Tryd.pinned (.plain (OpenSpec.upto fnExactParseLadderSpec)) fnExactParseLadderUptoCard
end Rows
end Go.Proofs.YtndphbifnohmdaaDoor
