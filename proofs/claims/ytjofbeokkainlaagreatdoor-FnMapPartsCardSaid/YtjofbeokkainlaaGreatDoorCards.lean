/-
  DERIVED. GIVEN WITH THE SEED: THE CARDS: each row of YtjofbeokkainlaaGreatDoorRows.lean that lists a variable, with what it lists TIED to the program's text (the seventh form; the later family's looks); each row that meets fmt, with fmt's text TOLD by the authors' own Lean function (tested against real Go, not proved from fmt's source: count such statements apart). THE CARD IS WHAT COUNTS. Prove the row's statement (the work); the ties are given (YtjofbeokkainlaaGreatDoorTie.lean); close each card by the builder's one call (the guide's Derived/Test/ToyasCard.lean, 'card_holds'). Laid BY PROGRAM, IN A SANDBOX (cutbox-door.mjs). By AI agents, Wed Nov 11 2026. No macro, syntax, notation, axiom, sorry.
-/
import Derived.Test.YtjofbeokkainlaaGreatDoorRows
import GoSem.ClaimSeven
namespace Go.Proofs.YtjofbeokkainlaaGreatDoor
namespace Rows

/-- THE TIED CARD OF 'laws.FnMapParts'. -/
def fnMapPartsCard : Claim7 := { stood := { row := fnMapPartsRow, standIns := [], harness := (true, "2e430c6deb5cf4282f003712c68c168232a57ee78ebd03340f8d08f220def076"), looks := true }, kinds := [], alts := [], laidByText := true, laidKinds := [.data, .data, .data, .sentinel, .sentinel, .data], laidTests := true, laidLooks := .later }
def FnMapPartsCardSaid : Prop := Claim7.holds Tryz.pinned (.plain (OpenSpec.ofChange fnMapPartsSpec)) fnMapPartsCard

/-- THE SECOND FORM's CARD OF 'laws.FnMapParts'. -/
def fnMapPartsUptoCard : Claim7 := { stood := { row := fnMapPartsUptoRow, standIns := [], harness := (true, "2e430c6deb5cf4282f003712c68c168232a57ee78ebd03340f8d08f220def076"), looks := true }, kinds := [], alts := [], laidByText := true, laidKinds := [.data, .data, .data, .sentinel, .sentinel, .data], laidTests := true, laidLooks := .later }
def FnMapPartsUptoCardSaid : Prop := Claim7.holds Tryz.pinned (.plain (OpenSpec.upto fnMapPartsSpec)) fnMapPartsUptoCard
end Rows
end Go.Proofs.YtjofbeokkainlaaGreatDoor
