/-
  DERIVED. GIVEN WITH THE SEED: THE CARDS: each row of YtdjfihoempjjpaaDoorRows.lean that lists a variable, with what it lists TIED to the program's text (the seventh form; the later family's looks); each row that meets fmt, with fmt's text TOLD by the authors' own Lean function (tested against real Go, not proved from fmt's source: count such statements apart). THE CARD IS WHAT COUNTS. Prove the row's statement (the work); the ties are given (YtdjfihoempjjpaaDoorTie.lean); close each card by the builder's one call (the guide's Derived/Test/ToyasCard.lean, 'card_holds'). Laid BY PROGRAM, IN A SANDBOX (cutbox-door.mjs). By AI agents, Wed Nov 11 2026. No macro, syntax, notation, axiom, sorry.
-/
import Derived.Test.YtdjfihoempjjpaaDoorRows
import GoSem.ClaimSeven
namespace Go.Proofs.YtdjfihoempjjpaaDoor
namespace Rows

/-- THE TIED CARD OF 'laws.FnExactCreate'. -/
def fnExactCreateCard : Claim7 := { stood := { row := fnExactCreateRow, standIns := [], harness := (true, "ef8b0c102ff21e794f2e0b006c2bda8e72cec79748c731d9c7986390e923b4c9"), looks := true }, kinds := [], alts := [], laidByText := true, laidKinds := [.sentinel, .sentinel, .sentinel, .sentinel, .sentinel], laidTests := true, laidLooks := .later }
def FnExactCreateCardSaid : Prop := Claim7.holds Tryd.pinned (.plain (OpenSpec.ofChange fnExactCreateSpec)) fnExactCreateCard

/-- THE TIED CARD OF 'laws.FnExactPut'. -/
def fnExactPutCard : Claim7 := { stood := { row := fnExactPutRow, standIns := [], harness := (true, "ef8b0c102ff21e794f2e0b006c2bda8e72cec79748c731d9c7986390e923b4c9"), looks := true }, kinds := [], alts := [], laidByText := true, laidKinds := [.sentinel, .sentinel, .sentinel, .sentinel, .sentinel], laidTests := true, laidLooks := .later }
def FnExactPutCardSaid : Prop := Claim7.holds Tryd.pinned (.plain (OpenSpec.ofChange fnExactPutSpec)) fnExactPutCard

/-- THE TIED CARD OF 'laws.FnExactDel'. -/
def fnExactDelCard : Claim7 := { stood := { row := fnExactDelRow, standIns := [], harness := (true, "ef8b0c102ff21e794f2e0b006c2bda8e72cec79748c731d9c7986390e923b4c9"), looks := true }, kinds := [], alts := [], laidByText := true, laidKinds := [.sentinel, .sentinel, .sentinel, .sentinel, .sentinel], laidTests := true, laidLooks := .later }
def FnExactDelCardSaid : Prop := Claim7.holds Tryd.pinned (.plain (OpenSpec.ofChange fnExactDelSpec)) fnExactDelCard

/-- THE TIED CARD OF 'laws.FnExactStorePlayed'. -/
def fnExactStorePlayedCard : Claim7 := { stood := { row := fnExactStorePlayedRow, standIns := [], harness := (true, "ef8b0c102ff21e794f2e0b006c2bda8e72cec79748c731d9c7986390e923b4c9"), looks := true }, kinds := [], alts := [], laidByText := true, laidKinds := [.sentinel, .sentinel, .sentinel, .sentinel, .sentinel], laidTests := true, laidLooks := .later }
def FnExactStorePlayedCardSaid : Prop := Claim7.holds Tryd.pinned (.plain (OpenSpec.ofChange fnExactStorePlayedSpec)) fnExactStorePlayedCard

/-- THE TIED CARD OF 'laws.FnCreate'. -/
def fnCreateCard : Claim7 := { stood := { row := fnCreateRow, standIns := [], harness := (true, "ef8b0c102ff21e794f2e0b006c2bda8e72cec79748c731d9c7986390e923b4c9"), looks := true }, kinds := [], alts := [], laidByText := true, laidKinds := [.sentinel, .sentinel, .sentinel, .sentinel, .sentinel], laidTests := true, laidLooks := .later }
def FnCreateCardSaid : Prop := Claim7.holds Tryd.pinned (.plain (OpenSpec.ofChange fnCreateSpec)) fnCreateCard

/-- THE TIED CARD OF 'laws.FnPut'. -/
def fnPutCard : Claim7 := { stood := { row := fnPutRow, standIns := [], harness := (true, "ef8b0c102ff21e794f2e0b006c2bda8e72cec79748c731d9c7986390e923b4c9"), looks := true }, kinds := [], alts := [], laidByText := true, laidKinds := [.sentinel, .sentinel, .sentinel, .sentinel, .sentinel], laidTests := true, laidLooks := .later }
def FnPutCardSaid : Prop := Claim7.holds Tryd.pinned (.plain (OpenSpec.ofChange fnPutSpec)) fnPutCard

/-- THE TIED CARD OF 'laws.FnStorePlayed'. -/
def fnStorePlayedCard : Claim7 := { stood := { row := fnStorePlayedRow, standIns := [], harness := (true, "ef8b0c102ff21e794f2e0b006c2bda8e72cec79748c731d9c7986390e923b4c9"), looks := true }, kinds := [], alts := [], laidByText := true, laidKinds := [.sentinel, .sentinel, .sentinel, .sentinel, .sentinel], laidTests := true, laidLooks := .later }
def FnStorePlayedCardSaid : Prop := Claim7.holds Tryd.pinned (.plain (OpenSpec.ofChange fnStorePlayedSpec)) fnStorePlayedCard

/-- THE TIED CARD OF 'laws.FnVersions'. -/
def fnVersionsCard : Claim7 := { stood := { row := fnVersionsRow, standIns := [], harness := (true, "ef8b0c102ff21e794f2e0b006c2bda8e72cec79748c731d9c7986390e923b4c9"), looks := true }, kinds := [], alts := [], laidByText := true, laidKinds := [.sentinel, .sentinel, .sentinel, .sentinel, .sentinel], laidTests := true, laidLooks := .later }
def FnVersionsCardSaid : Prop := Claim7.holds Tryd.pinned (.plain (OpenSpec.ofChange fnVersionsSpec)) fnVersionsCard

/-- THE SECOND FORM's CARD OF 'laws.FnExactCreate'. -/
def fnExactCreateUptoCard : Claim7 := { stood := { row := fnExactCreateUptoRow, standIns := [], harness := (true, "ef8b0c102ff21e794f2e0b006c2bda8e72cec79748c731d9c7986390e923b4c9"), looks := true }, kinds := [], alts := [], laidByText := true, laidKinds := [.sentinel, .sentinel, .sentinel, .sentinel, .sentinel], laidTests := true, laidLooks := .later }
def FnExactCreateUptoCardSaid : Prop := Claim7.holds Tryd.pinned (.plain (OpenSpec.upto fnExactCreateSpec)) fnExactCreateUptoCard

/-- THE SECOND FORM's CARD OF 'laws.FnExactPut'. -/
def fnExactPutUptoCard : Claim7 := { stood := { row := fnExactPutUptoRow, standIns := [], harness := (true, "ef8b0c102ff21e794f2e0b006c2bda8e72cec79748c731d9c7986390e923b4c9"), looks := true }, kinds := [], alts := [], laidByText := true, laidKinds := [.sentinel, .sentinel, .sentinel, .sentinel, .sentinel], laidTests := true, laidLooks := .later }
def FnExactPutUptoCardSaid : Prop := Claim7.holds Tryd.pinned (.plain (OpenSpec.upto fnExactPutSpec)) fnExactPutUptoCard

/-- THE SECOND FORM's CARD OF 'laws.FnExactDel'. -/
def fnExactDelUptoCard : Claim7 := { stood := { row := fnExactDelUptoRow, standIns := [], harness := (true, "ef8b0c102ff21e794f2e0b006c2bda8e72cec79748c731d9c7986390e923b4c9"), looks := true }, kinds := [], alts := [], laidByText := true, laidKinds := [.sentinel, .sentinel, .sentinel, .sentinel, .sentinel], laidTests := true, laidLooks := .later }
def FnExactDelUptoCardSaid : Prop := Claim7.holds Tryd.pinned (.plain (OpenSpec.upto fnExactDelSpec)) fnExactDelUptoCard

/-- THE SECOND FORM's CARD OF 'laws.FnExactStorePlayed'. -/
def fnExactStorePlayedUptoCard : Claim7 := { stood := { row := fnExactStorePlayedUptoRow, standIns := [], harness := (true, "ef8b0c102ff21e794f2e0b006c2bda8e72cec79748c731d9c7986390e923b4c9"), looks := true }, kinds := [], alts := [], laidByText := true, laidKinds := [.sentinel, .sentinel, .sentinel, .sentinel, .sentinel], laidTests := true, laidLooks := .later }
def FnExactStorePlayedUptoCardSaid : Prop := Claim7.holds Tryd.pinned (.plain (OpenSpec.upto fnExactStorePlayedSpec)) fnExactStorePlayedUptoCard

/-- THE SECOND FORM's CARD OF 'laws.FnCreate'. -/
def fnCreateUptoCard : Claim7 := { stood := { row := fnCreateUptoRow, standIns := [], harness := (true, "ef8b0c102ff21e794f2e0b006c2bda8e72cec79748c731d9c7986390e923b4c9"), looks := true }, kinds := [], alts := [], laidByText := true, laidKinds := [.sentinel, .sentinel, .sentinel, .sentinel, .sentinel], laidTests := true, laidLooks := .later }
def FnCreateUptoCardSaid : Prop := Claim7.holds Tryd.pinned (.plain (OpenSpec.upto fnCreateSpec)) fnCreateUptoCard

/-- THE SECOND FORM's CARD OF 'laws.FnPut'. -/
def fnPutUptoCard : Claim7 := { stood := { row := fnPutUptoRow, standIns := [], harness := (true, "ef8b0c102ff21e794f2e0b006c2bda8e72cec79748c731d9c7986390e923b4c9"), looks := true }, kinds := [], alts := [], laidByText := true, laidKinds := [.sentinel, .sentinel, .sentinel, .sentinel, .sentinel], laidTests := true, laidLooks := .later }
def FnPutUptoCardSaid : Prop := Claim7.holds Tryd.pinned (.plain (OpenSpec.upto fnPutSpec)) fnPutUptoCard

/-- THE SECOND FORM's CARD OF 'laws.FnStorePlayed'. -/
def fnStorePlayedUptoCard : Claim7 := { stood := { row := fnStorePlayedUptoRow, standIns := [], harness := (true, "ef8b0c102ff21e794f2e0b006c2bda8e72cec79748c731d9c7986390e923b4c9"), looks := true }, kinds := [], alts := [], laidByText := true, laidKinds := [.sentinel, .sentinel, .sentinel, .sentinel, .sentinel], laidTests := true, laidLooks := .later }
def FnStorePlayedUptoCardSaid : Prop := Claim7.holds Tryd.pinned (.plain (OpenSpec.upto fnStorePlayedSpec)) fnStorePlayedUptoCard

/-- THE SECOND FORM's CARD OF 'laws.FnVersions'. -/
def fnVersionsUptoCard : Claim7 := { stood := { row := fnVersionsUptoRow, standIns := [], harness := (true, "ef8b0c102ff21e794f2e0b006c2bda8e72cec79748c731d9c7986390e923b4c9"), looks := true }, kinds := [], alts := [], laidByText := true, laidKinds := [.sentinel, .sentinel, .sentinel, .sentinel, .sentinel], laidTests := true, laidLooks := .later }
def FnVersionsUptoCardSaid : Prop := Claim7.holds Tryd.pinned (.plain (OpenSpec.upto fnVersionsSpec)) fnVersionsUptoCard
end Rows
end Go.Proofs.YtdjfihoempjjpaaDoor
