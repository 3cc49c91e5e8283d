/-
  DERIVED. GIVEN WITH THE SEED: THE CARDS: each row of YtbjlojmadellgaaGreatDoorRows.lean that lists a variable, with what it lists TIED to the program's text (the seventh form; the later family's looks); each row that meets fmt, with fmt's text TOLD by the authors' own Lean function (tested against real Go, not proved from fmt's source: count such statements apart). THE CARD IS WHAT COUNTS. Prove the row's statement (the work); the ties are given (YtbjlojmadellgaaGreatDoorTie.lean); close each card by the builder's one call (the guide's Derived/Test/ToyasCard.lean, 'card_holds'). Laid BY PROGRAM, IN A SANDBOX (cutbox-door.mjs). By AI agents, Wed Nov 11 2026. No macro, syntax, notation, axiom, sorry.
-/
import Derived.Test.YtbjlojmadellgaaGreatDoorRows
import GoSem.ClaimSeven
namespace Go.Proofs.YtbjlojmadellgaaGreatDoor
namespace Rows

/-- THE TIED CARD OF 'laws.FnExactDoneOf'. -/
def fnExactDoneOfCard : Claim7 := { stood := { row := fnExactDoneOfRow, standIns := [], harness := (true, "35c1cd80c434fc0668866072b74edae5d168d403733d8388ae08c174f66871b2"), looks := true }, kinds := [], alts := [], laidByText := true, laidKinds := [.data, .data, .data, .data, .sentinel, .sentinel, .data, .pinned], laidTests := true, laidLooks := .later }
def FnExactDoneOfCardSaid : Prop := Claim7.holds Tryz.pinned (.plain (OpenSpec.ofChange fnExactDoneOfSpec)) fnExactDoneOfCard

/-- THE TIED CARD OF 'laws.FnExactBoardOf'. -/
def fnExactBoardOfCard : Claim7 := { stood := { row := fnExactBoardOfRow, standIns := [], harness := (true, "35c1cd80c434fc0668866072b74edae5d168d403733d8388ae08c174f66871b2"), looks := true }, kinds := [], alts := [], laidByText := true, laidKinds := [.data, .data, .data, .data, .sentinel, .sentinel, .data, .pinned], laidTests := true, laidLooks := .later }
def FnExactBoardOfCardSaid : Prop := Claim7.holds Tryz.pinned (.plain (OpenSpec.ofChange fnExactBoardOfSpec)) fnExactBoardOfCard

/-- THE SECOND FORM's CARD OF 'laws.FnExactDoneOf'. -/
def fnExactDoneOfUptoCard : Claim7 := { stood := { row := fnExactDoneOfUptoRow, standIns := [], harness := (true, "35c1cd80c434fc0668866072b74edae5d168d403733d8388ae08c174f66871b2"), looks := true }, kinds := [], alts := [], laidByText := true, laidKinds := [.data, .data, .data, .data, .sentinel, .sentinel, .data, .pinned], laidTests := true, laidLooks := .later }
def FnExactDoneOfUptoCardSaid : Prop := Claim7.holds Tryz.pinned (.plain (OpenSpec.upto fnExactDoneOfSpec)) fnExactDoneOfUptoCard

/-- THE SECOND FORM's CARD OF 'laws.FnExactBoardOf'. -/
def fnExactBoardOfUptoCard : Claim7 := { stood := { row := fnExactBoardOfUptoRow, standIns := [], harness := (true, "35c1cd80c434fc0668866072b74edae5d168d403733d8388ae08c174f66871b2"), looks := true }, kinds := [], alts := [], laidByText := true, laidKinds := [.data, .data, .data, .data, .sentinel, .sentinel, .data, .pinned], laidTests := true, laidLooks := .later }
def FnExactBoardOfUptoCardSaid : Prop := Claim7.holds Tryz.pinned (.plain (OpenSpec.upto fnExactBoardOfSpec)) fnExactBoardOfUptoCard
end Rows
end Go.Proofs.YtbjlojmadellgaaGreatDoor
