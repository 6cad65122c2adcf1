/-
  DERIVED. GIVEN WITH THE SEED: THE CARDS: each row of YtgeeifjbfceogaaGreatDoorRows.lean that lists a variable, with what it lists TIED to the program's text (the seventh form; the later family's looks); each row that meets fmt, with fmt's text TOLD by the authors' own Lean function (tested against real Go, not proved from fmt's source: count such statements apart). THE CARD IS WHAT COUNTS. Prove the row's statement (the work); the ties are given (YtgeeifjbfceogaaGreatDoorTie.lean); close each card by the builder's one call (the guide's Derived/Test/ToyasCard.lean, 'card_holds'). Laid BY PROGRAM, IN A SANDBOX (cutbox-door.mjs). By AI agents, Wed Nov 11 2026. No macro, syntax, notation, axiom, sorry.
-/
import Derived.Test.YtgeeifjbfceogaaGreatDoorRows
import GoSem.ClaimSeven
namespace Go.Proofs.YtgeeifjbfceogaaGreatDoor
namespace Rows

/-- THE TIED CARD OF 'laws.FnExactCountLeast'. -/
def fnExactCountLeastCard : Claim7 := { stood := { row := fnExactCountLeastRow, standIns := [], harness := (true, "139ac19aa8f8393aa5af99e22a5a3524f2f18ea35b28f5bf22f797ef63115d42"), looks := true }, kinds := [], alts := [], laidByText := true, laidKinds := [.data, .data, .data, .data, .sentinel, .sentinel, .pinned], laidTests := true, laidLooks := .later }
def FnExactCountLeastCardSaid : Prop := Claim7.holds Tryz.pinned (.plain (OpenSpec.ofChange fnExactCountLeastSpec)) fnExactCountLeastCard

/-- THE TIED CARD OF 'laws.FnExactAllLeast'. -/
def fnExactAllLeastCard : Claim7 := { stood := { row := fnExactAllLeastRow, standIns := [], harness := (true, "139ac19aa8f8393aa5af99e22a5a3524f2f18ea35b28f5bf22f797ef63115d42"), looks := true }, kinds := [], alts := [], laidByText := true, laidKinds := [.data, .data, .data, .data, .sentinel, .sentinel, .pinned], laidTests := true, laidLooks := .later }
def FnExactAllLeastCardSaid : Prop := Claim7.holds Tryz.pinned (.plain (OpenSpec.ofChange fnExactAllLeastSpec)) fnExactAllLeastCard

/-- THE TIED CARD OF 'laws.FnExactCountFirst'. -/
def fnExactCountFirstCard : Claim7 := { stood := { row := fnExactCountFirstRow, standIns := [], harness := (true, "139ac19aa8f8393aa5af99e22a5a3524f2f18ea35b28f5bf22f797ef63115d42"), looks := true }, kinds := [], alts := [], laidByText := true, laidKinds := [.data, .data, .data, .data, .sentinel, .sentinel, .pinned], laidTests := true, laidLooks := .later }
def FnExactCountFirstCardSaid : Prop := Claim7.holds Tryz.pinned (.plain (OpenSpec.ofChange fnExactCountFirstSpec)) fnExactCountFirstCard

/-- THE TIED CARD OF 'laws.FnExactCountAllLeast'. -/
def fnExactCountAllLeastCard : Claim7 := { stood := { row := fnExactCountAllLeastRow, standIns := [], harness := (true, "139ac19aa8f8393aa5af99e22a5a3524f2f18ea35b28f5bf22f797ef63115d42"), looks := true }, kinds := [], alts := [], laidByText := true, laidKinds := [.data, .data, .data, .data, .sentinel, .sentinel, .pinned], laidTests := true, laidLooks := .later }
def FnExactCountAllLeastCardSaid : Prop := Claim7.holds Tryz.pinned (.plain (OpenSpec.ofChange fnExactCountAllLeastSpec)) fnExactCountAllLeastCard

/-- THE TIED CARD OF 'laws.FnExactCountByLength'. -/
def fnExactCountByLengthCard : Claim7 := { stood := { row := fnExactCountByLengthRow, standIns := [], harness := (true, "139ac19aa8f8393aa5af99e22a5a3524f2f18ea35b28f5bf22f797ef63115d42"), looks := true }, kinds := [], alts := [], laidByText := true, laidKinds := [.data, .data, .data, .data, .sentinel, .sentinel, .pinned], laidTests := true, laidLooks := .later }
def FnExactCountByLengthCardSaid : Prop := Claim7.holds Tryz.pinned (.plain (OpenSpec.ofChange fnExactCountByLengthSpec)) fnExactCountByLengthCard

/-- THE TIED CARD OF 'laws.FnExactRankOfLeast'. -/
def fnExactRankOfLeastCard : Claim7 := { stood := { row := fnExactRankOfLeastRow, standIns := [], harness := (true, "139ac19aa8f8393aa5af99e22a5a3524f2f18ea35b28f5bf22f797ef63115d42"), looks := true }, kinds := [], alts := [], laidByText := true, laidKinds := [.data, .data, .data, .data, .sentinel, .sentinel, .pinned], laidTests := true, laidLooks := .later }
def FnExactRankOfLeastCardSaid : Prop := Claim7.holds Tryz.pinned (.plain (OpenSpec.ofChange fnExactRankOfLeastSpec)) fnExactRankOfLeastCard

/-- THE TIED CARD OF 'laws.FnExactLeastOfRank'. -/
def fnExactLeastOfRankCard : Claim7 := { stood := { row := fnExactLeastOfRankRow, standIns := [], harness := (true, "139ac19aa8f8393aa5af99e22a5a3524f2f18ea35b28f5bf22f797ef63115d42"), looks := true }, kinds := [], alts := [], laidByText := true, laidKinds := [.data, .data, .data, .data, .sentinel, .sentinel, .pinned], laidTests := true, laidLooks := .later }
def FnExactLeastOfRankCardSaid : Prop := Claim7.holds Tryz.pinned (.plain (OpenSpec.ofChange fnExactLeastOfRankSpec)) fnExactLeastOfRankCard

/-- THE TIED CARD OF 'laws.FnLongestCounted'. -/
def fnLongestCountedCard : Claim7 := { stood := { row := fnLongestCountedRow, standIns := [], harness := (true, "139ac19aa8f8393aa5af99e22a5a3524f2f18ea35b28f5bf22f797ef63115d42"), looks := true }, kinds := [], alts := [], laidByText := true, laidKinds := [.data, .data, .data, .data, .sentinel, .sentinel, .pinned], laidTests := true, laidLooks := .later }
def FnLongestCountedCardSaid : Prop := Claim7.holds Tryz.pinned (.plain (OpenSpec.ofChange fnLongestCountedSpec)) fnLongestCountedCard

/-- THE SECOND FORM's CARD OF 'laws.FnExactCountLeast'. -/
def fnExactCountLeastUptoCard : Claim7 := { stood := { row := fnExactCountLeastUptoRow, standIns := [], harness := (true, "139ac19aa8f8393aa5af99e22a5a3524f2f18ea35b28f5bf22f797ef63115d42"), looks := true }, kinds := [], alts := [], laidByText := true, laidKinds := [.data, .data, .data, .data, .sentinel, .sentinel, .pinned], laidTests := true, laidLooks := .later }
def FnExactCountLeastUptoCardSaid : Prop := Claim7.holds Tryz.pinned (.plain (OpenSpec.upto fnExactCountLeastSpec)) fnExactCountLeastUptoCard

/-- THE SECOND FORM's CARD OF 'laws.FnExactAllLeast'. -/
def fnExactAllLeastUptoCard : Claim7 := { stood := { row := fnExactAllLeastUptoRow, standIns := [], harness := (true, "139ac19aa8f8393aa5af99e22a5a3524f2f18ea35b28f5bf22f797ef63115d42"), looks := true }, kinds := [], alts := [], laidByText := true, laidKinds := [.data, .data, .data, .data, .sentinel, .sentinel, .pinned], laidTests := true, laidLooks := .later }
def FnExactAllLeastUptoCardSaid : Prop := Claim7.holds Tryz.pinned (.plain (OpenSpec.upto fnExactAllLeastSpec)) fnExactAllLeastUptoCard

/-- THE SECOND FORM's CARD OF 'laws.FnExactCountFirst'. -/
def fnExactCountFirstUptoCard : Claim7 := { stood := { row := fnExactCountFirstUptoRow, standIns := [], harness := (true, "139ac19aa8f8393aa5af99e22a5a3524f2f18ea35b28f5bf22f797ef63115d42"), looks := true }, kinds := [], alts := [], laidByText := true, laidKinds := [.data, .data, .data, .data, .sentinel, .sentinel, .pinned], laidTests := true, laidLooks := .later }
def FnExactCountFirstUptoCardSaid : Prop := Claim7.holds Tryz.pinned (.plain (OpenSpec.upto fnExactCountFirstSpec)) fnExactCountFirstUptoCard

/-- THE SECOND FORM's CARD OF 'laws.FnExactCountAllLeast'. -/
def fnExactCountAllLeastUptoCard : Claim7 := { stood := { row := fnExactCountAllLeastUptoRow, standIns := [], harness := (true, "139ac19aa8f8393aa5af99e22a5a3524f2f18ea35b28f5bf22f797ef63115d42"), looks := true }, kinds := [], alts := [], laidByText := true, laidKinds := [.data, .data, .data, .data, .sentinel, .sentinel, .pinned], laidTests := true, laidLooks := .later }
def FnExactCountAllLeastUptoCardSaid : Prop := Claim7.holds Tryz.pinned (.plain (OpenSpec.upto fnExactCountAllLeastSpec)) fnExactCountAllLeastUptoCard

/-- THE SECOND FORM's CARD OF 'laws.FnExactCountByLength'. -/
def fnExactCountByLengthUptoCard : Claim7 := { stood := { row := fnExactCountByLengthUptoRow, standIns := [], harness := (true, "139ac19aa8f8393aa5af99e22a5a3524f2f18ea35b28f5bf22f797ef63115d42"), looks := true }, kinds := [], alts := [], laidByText := true, laidKinds := [.data, .data, .data, .data, .sentinel, .sentinel, .pinned], laidTests := true, laidLooks := .later }
def FnExactCountByLengthUptoCardSaid : Prop := Claim7.holds Tryz.pinned (.plain (OpenSpec.upto fnExactCountByLengthSpec)) fnExactCountByLengthUptoCard

/-- THE SECOND FORM's CARD OF 'laws.FnExactRankOfLeast'. -/
def fnExactRankOfLeastUptoCard : Claim7 := { stood := { row := fnExactRankOfLeastUptoRow, standIns := [], harness := (true, "139ac19aa8f8393aa5af99e22a5a3524f2f18ea35b28f5bf22f797ef63115d42"), looks := true }, kinds := [], alts := [], laidByText := true, laidKinds := [.data, .data, .data, .data, .sentinel, .sentinel, .pinned], laidTests := true, laidLooks := .later }
def FnExactRankOfLeastUptoCardSaid : Prop := Claim7.holds Tryz.pinned (.plain (OpenSpec.upto fnExactRankOfLeastSpec)) fnExactRankOfLeastUptoCard

/-- THE SECOND FORM's CARD OF 'laws.FnExactLeastOfRank'. -/
def fnExactLeastOfRankUptoCard : Claim7 := { stood := { row := fnExactLeastOfRankUptoRow, standIns := [], harness := (true, "139ac19aa8f8393aa5af99e22a5a3524f2f18ea35b28f5bf22f797ef63115d42"), looks := true }, kinds := [], alts := [], laidByText := true, laidKinds := [.data, .data, .data, .data, .sentinel, .sentinel, .pinned], laidTests := true, laidLooks := .later }
def FnExactLeastOfRankUptoCardSaid : Prop := Claim7.holds Tryz.pinned (.plain (OpenSpec.upto fnExactLeastOfRankSpec)) fnExactLeastOfRankUptoCard

/-- THE SECOND FORM's CARD OF 'laws.FnLongestCounted'. -/
def fnLongestCountedUptoCard : Claim7 := { stood := { row := fnLongestCountedUptoRow, standIns := [], harness := (true, "139ac19aa8f8393aa5af99e22a5a3524f2f18ea35b28f5bf22f797ef63115d42"), looks := true }, kinds := [], alts := [], laidByText := true, laidKinds := [.data, .data, .data, .data, .sentinel, .sentinel, .pinned], laidTests := true, laidLooks := .later }
def FnLongestCountedUptoCardSaid : Prop := Claim7.holds Tryz.pinned (.plain (OpenSpec.upto fnLongestCountedSpec)) fnLongestCountedUptoCard
end Rows
end Go.Proofs.YtgeeifjbfceogaaGreatDoor
