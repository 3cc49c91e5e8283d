/-
  DERIVED. GIVEN WITH THE SEED: THE CARDS: each row of YtdphganbnlmgcaaGreatDoorRows.lean that lists a variable, with what it lists TIED to the program's text (the seventh form; the later family's looks); each row that meets fmt, with fmt's text TOLD by the authors' own Lean function (tested against real Go, not proved from fmt's source: count such statements apart). THE CARD IS WHAT COUNTS. Prove the row's statement (the work); the ties are given (YtdphganbnlmgcaaGreatDoorTie.lean); close each card by the builder's one call (the guide's Derived/Test/ToyasCard.lean, 'card_holds'). Laid BY PROGRAM, IN A SANDBOX (cutbox-door.mjs). By AI agents, Wed Nov 11 2026. No macro, syntax, notation, axiom, sorry.
-/
import Derived.Test.YtdphganbnlmgcaaGreatDoorRows
import GoSem.ClaimSeven
namespace Go.Proofs.YtdphganbnlmgcaaGreatDoor
namespace Rows

/-- THE TIED CARD OF 'laws.FnExactMapOf'. -/
def fnExactMapOfCard : Claim7 := { stood := { row := fnExactMapOfRow, standIns := [], harness := (true, "14659972c4138983c1c3e0fe4ac4f4c9354c8a430f901ba87881dba9b10eb2d8"), looks := true }, kinds := [], alts := [], laidByText := true, laidKinds := [.data, .data, .data, .sentinel, .sentinel, .data], laidTests := true, laidLooks := .later }
def FnExactMapOfCardSaid : Prop := Claim7.holds Tryz.pinned (.plain (OpenSpec.ofChange fnExactMapOfSpec)) fnExactMapOfCard

/-- THE SECOND FORM's CARD OF 'laws.FnExactMapOf'. -/
def fnExactMapOfUptoCard : Claim7 := { stood := { row := fnExactMapOfUptoRow, standIns := [], harness := (true, "14659972c4138983c1c3e0fe4ac4f4c9354c8a430f901ba87881dba9b10eb2d8"), looks := true }, kinds := [], alts := [], laidByText := true, laidKinds := [.data, .data, .data, .sentinel, .sentinel, .data], laidTests := true, laidLooks := .later }
def FnExactMapOfUptoCardSaid : Prop := Claim7.holds Tryz.pinned (.plain (OpenSpec.upto fnExactMapOfSpec)) fnExactMapOfUptoCard
end Rows
end Go.Proofs.YtdphganbnlmgcaaGreatDoor
