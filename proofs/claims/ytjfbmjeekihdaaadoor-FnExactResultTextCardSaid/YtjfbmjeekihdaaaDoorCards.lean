/-
  DERIVED. GIVEN WITH THE SEED: THE CARDS: each row of YtjfbmjeekihdaaaDoorRows.lean that lists a variable, with what it lists TIED to the program's text (the seventh form; the later family's looks); each row that meets fmt, with fmt's text TOLD by the authors' own Lean function (tested against real Go, not proved from fmt's source: count such statements apart). THE CARD IS WHAT COUNTS. Prove the row's statement (the work); the ties are given (YtjfbmjeekihdaaaDoorTie.lean); close each card by the builder's one call (the guide's Derived/Test/ToyasCard.lean, 'card_holds'). Laid BY PROGRAM, IN A SANDBOX (cutbox-door.mjs). By AI agents, Wed Nov 11 2026. No macro, syntax, notation, axiom, sorry.
-/
import Derived.Test.YtjfbmjeekihdaaaDoorRows
import GoSem.ClaimSeven
namespace Go.Proofs.YtjfbmjeekihdaaaDoor
namespace Rows

/-- THE TIED CARD OF 'laws.FnExactReadEvents'. -/
def fnExactReadEventsCard : Claim7 := { stood := { row := fnExactReadEventsRow, standIns := [], harness := (true, "4db2922ac033c0cb89b8fe1f0f5ddcfe38739cdb5917a47a5242a75631e1bb4b"), looks := true }, kinds := [], alts := [], laidByText := true, laidKinds := [.data, .data, .data, .sentinel, .sentinel, .data], laidTests := true, laidLooks := .later }
def FnExactReadEventsCardSaid : Prop := Claim7.holds Tryd.pinned (.plain (OpenSpec.ofChange fnExactReadEventsSpec)) fnExactReadEventsCard

/-- THE TIED CARD OF 'laws.FnExactResultText'. -/
def fnExactResultTextCard : Claim7 := { stood := { row := fnExactResultTextRow, standIns := [], harness := (true, "4db2922ac033c0cb89b8fe1f0f5ddcfe38739cdb5917a47a5242a75631e1bb4b"), looks := true }, kinds := [], alts := [], laidByText := true, laidKinds := [.data, .data, .data], laidTests := true, laidLooks := .later }
def FnExactResultTextCardSaid : Prop := Claim7.holds Tryd.pinned (.plain (OpenSpec.ofChange fnExactResultTextSpec)) fnExactResultTextCard

/-- THE TIED CARD OF 'laws.FnEventsTexts'. -/
def fnEventsTextsCard : Claim7 := { stood := { row := fnEventsTextsRow, standIns := [], harness := (true, "4db2922ac033c0cb89b8fe1f0f5ddcfe38739cdb5917a47a5242a75631e1bb4b"), looks := true }, kinds := [], alts := [], laidByText := true, laidKinds := [.data, .data, .data, .sentinel, .sentinel, .data], laidTests := true, laidLooks := .later }
def FnEventsTextsCardSaid : Prop := Claim7.holds Tryd.pinned (.plain (OpenSpec.ofChange fnEventsTextsSpec)) fnEventsTextsCard

/-- THE TIED CARD OF 'laws.FnResultTexts'. -/
def fnResultTextsCard : Claim7 := { stood := { row := fnResultTextsRow, standIns := [], harness := (true, "4db2922ac033c0cb89b8fe1f0f5ddcfe38739cdb5917a47a5242a75631e1bb4b"), looks := true }, kinds := [], alts := [], laidByText := true, laidKinds := [.data, .data, .data], laidTests := true, laidLooks := .later }
def FnResultTextsCardSaid : Prop := Claim7.holds Tryd.pinned (.plain (OpenSpec.ofChange fnResultTextsSpec)) fnResultTextsCard

/-- THE SECOND FORM's CARD OF 'laws.FnExactReadEvents'. -/
def fnExactReadEventsUptoCard : Claim7 := { stood := { row := fnExactReadEventsUptoRow, standIns := [], harness := (true, "4db2922ac033c0cb89b8fe1f0f5ddcfe38739cdb5917a47a5242a75631e1bb4b"), looks := true }, kinds := [], alts := [], laidByText := true, laidKinds := [.data, .data, .data, .sentinel, .sentinel, .data], laidTests := true, laidLooks := .later }
def FnExactReadEventsUptoCardSaid : Prop := Claim7.holds Tryd.pinned (.plain (OpenSpec.upto fnExactReadEventsSpec)) fnExactReadEventsUptoCard

/-- THE SECOND FORM's CARD OF 'laws.FnExactResultText'. -/
def fnExactResultTextUptoCard : Claim7 := { stood := { row := fnExactResultTextUptoRow, standIns := [], harness := (true, "4db2922ac033c0cb89b8fe1f0f5ddcfe38739cdb5917a47a5242a75631e1bb4b"), looks := true }, kinds := [], alts := [], laidByText := true, laidKinds := [.data, .data, .data], laidTests := true, laidLooks := .later }
def FnExactResultTextUptoCardSaid : Prop := Claim7.holds Tryd.pinned (.plain (OpenSpec.upto fnExactResultTextSpec)) fnExactResultTextUptoCard

/-- THE SECOND FORM's CARD OF 'laws.FnEventsTexts'. -/
def fnEventsTextsUptoCard : Claim7 := { stood := { row := fnEventsTextsUptoRow, standIns := [], harness := (true, "4db2922ac033c0cb89b8fe1f0f5ddcfe38739cdb5917a47a5242a75631e1bb4b"), looks := true }, kinds := [], alts := [], laidByText := true, laidKinds := [.data, .data, .data, .sentinel, .sentinel, .data], laidTests := true, laidLooks := .later }
def FnEventsTextsUptoCardSaid : Prop := Claim7.holds Tryd.pinned (.plain (OpenSpec.upto fnEventsTextsSpec)) fnEventsTextsUptoCard

/-- THE SECOND FORM's CARD OF 'laws.FnResultTexts'. -/
def fnResultTextsUptoCard : Claim7 := { stood := { row := fnResultTextsUptoRow, standIns := [], harness := (true, "4db2922ac033c0cb89b8fe1f0f5ddcfe38739cdb5917a47a5242a75631e1bb4b"), looks := true }, kinds := [], alts := [], laidByText := true, laidKinds := [.data, .data, .data], laidTests := true, laidLooks := .later }
def FnResultTextsUptoCardSaid : Prop := Claim7.holds Tryd.pinned (.plain (OpenSpec.upto fnResultTextsSpec)) fnResultTextsUptoCard
end Rows
end Go.Proofs.YtjfbmjeekihdaaaDoor
