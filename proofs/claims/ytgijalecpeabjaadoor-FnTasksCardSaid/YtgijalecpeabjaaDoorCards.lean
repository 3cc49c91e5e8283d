/-
  DERIVED. GIVEN WITH THE SEED: THE CARDS: each row of YtgijalecpeabjaaDoorRows.lean that lists a variable, with what it lists TIED to the program's text (the seventh form; the later family's looks); each row that meets fmt, with fmt's text TOLD by the authors' own Lean function (tested against real Go, not proved from fmt's source: count such statements apart). THE CARD IS WHAT COUNTS. Prove the row's statement (the work); the ties are given (YtgijalecpeabjaaDoorTie.lean); close each card by the builder's one call (the guide's Derived/Test/ToyasCard.lean, 'card_holds'). Laid BY PROGRAM, IN A SANDBOX (cutbox-door.mjs). By AI agents, Wed Nov 11 2026. No macro, syntax, notation, axiom, sorry.
-/
import Derived.Test.YtgijalecpeabjaaDoorRows
import GoSem.ClaimSeven
namespace Go.Proofs.YtgijalecpeabjaaDoor
namespace Rows

/-- THE TIED CARD OF 'laws.FnExactProgOk'. -/
def fnExactProgOkCard : Claim7 := { stood := { row := fnExactProgOkRow, standIns := [], harness := (true, "f8c84a1ea21b94e9bb2195fb7a3306954a125bd48e45e3fb3094feab7e82f693"), looks := true }, kinds := [], alts := [], laidByText := true, laidKinds := [.data], laidTests := true, laidLooks := .later }
def FnExactProgOkCardSaid : Prop := Claim7.holds Tryd.pinned (.plain (OpenSpec.ofChange fnExactProgOkSpec)) fnExactProgOkCard

/-- THE TIED CARD OF 'laws.FnExactProgText'. -/
def fnExactProgTextCard : Claim7 := { stood := { row := fnExactProgTextRow, standIns := [], harness := (true, "f8c84a1ea21b94e9bb2195fb7a3306954a125bd48e45e3fb3094feab7e82f693"), looks := true }, kinds := [], alts := [], laidByText := true, laidKinds := [.data, .data, .data, .data], laidTests := true, laidLooks := .later }
def FnExactProgTextCardSaid : Prop := Claim7.holds Tryd.pinned (.plain (OpenSpec.ofChange fnExactProgTextSpec)) fnExactProgTextCard

/-- THE TIED CARD OF 'laws.FnExactReadProg'. -/
def fnExactReadProgCard : Claim7 := { stood := { row := fnExactReadProgRow, standIns := [], harness := (true, "f8c84a1ea21b94e9bb2195fb7a3306954a125bd48e45e3fb3094feab7e82f693"), looks := true }, kinds := [], alts := [], laidByText := true, laidKinds := [.data, .data, .data, .sentinel, .sentinel, .data], laidTests := true, laidLooks := .later }
def FnExactReadProgCardSaid : Prop := Claim7.holds Tryd.pinned (.plain (OpenSpec.ofChange fnExactReadProgSpec)) fnExactReadProgCard

/-- THE TIED CARD OF 'laws.FnProgs'. -/
def fnProgsCard : Claim7 := { stood := { row := fnProgsRow, standIns := [], harness := (true, "f8c84a1ea21b94e9bb2195fb7a3306954a125bd48e45e3fb3094feab7e82f693"), looks := true }, kinds := [], alts := [], laidByText := true, laidKinds := [.data, .data, .data, .sentinel, .sentinel, .data], laidTests := true, laidLooks := .later }
def FnProgsCardSaid : Prop := Claim7.holds Tryd.pinned (.plain (OpenSpec.ofChange fnProgsSpec)) fnProgsCard

/-- THE TIED CARD OF 'laws.FnExactJobOk'. -/
def fnExactJobOkCard : Claim7 := { stood := { row := fnExactJobOkRow, standIns := [], harness := (true, "f8c84a1ea21b94e9bb2195fb7a3306954a125bd48e45e3fb3094feab7e82f693"), looks := true }, kinds := [], alts := [], laidByText := true, laidKinds := [.data], laidTests := true, laidLooks := .later }
def FnExactJobOkCardSaid : Prop := Claim7.holds Tryd.pinned (.plain (OpenSpec.ofChange fnExactJobOkSpec)) fnExactJobOkCard

/-- THE TIED CARD OF 'laws.FnExactJobText'. -/
def fnExactJobTextCard : Claim7 := { stood := { row := fnExactJobTextRow, standIns := [], harness := (true, "f8c84a1ea21b94e9bb2195fb7a3306954a125bd48e45e3fb3094feab7e82f693"), looks := true }, kinds := [], alts := [], laidByText := true, laidKinds := [.data, .data, .data, .data, .data], laidTests := true, laidLooks := .later }
def FnExactJobTextCardSaid : Prop := Claim7.holds Tryd.pinned (.plain (OpenSpec.ofChange fnExactJobTextSpec)) fnExactJobTextCard

/-- THE TIED CARD OF 'laws.FnExactTasksOf'. -/
def fnExactTasksOfCard : Claim7 := { stood := { row := fnExactTasksOfRow, standIns := [], harness := (true, "f8c84a1ea21b94e9bb2195fb7a3306954a125bd48e45e3fb3094feab7e82f693"), looks := true }, kinds := [], alts := [], laidByText := true, laidKinds := [.data], laidTests := true, laidLooks := .later }
def FnExactTasksOfCardSaid : Prop := Claim7.holds Tryd.pinned (.plain (OpenSpec.ofChange fnExactTasksOfSpec)) fnExactTasksOfCard

/-- THE TIED CARD OF 'laws.FnTasks'. -/
def fnTasksCard : Claim7 := { stood := { row := fnTasksRow, standIns := [], harness := (true, "f8c84a1ea21b94e9bb2195fb7a3306954a125bd48e45e3fb3094feab7e82f693"), looks := true }, kinds := [], alts := [], laidByText := true, laidKinds := [.data], laidTests := true, laidLooks := .later }
def FnTasksCardSaid : Prop := Claim7.holds Tryd.pinned (.plain (OpenSpec.ofChange fnTasksSpec)) fnTasksCard

/-- THE SECOND FORM's CARD OF 'laws.FnExactProgOk'. -/
def fnExactProgOkUptoCard : Claim7 := { stood := { row := fnExactProgOkUptoRow, standIns := [], harness := (true, "f8c84a1ea21b94e9bb2195fb7a3306954a125bd48e45e3fb3094feab7e82f693"), looks := true }, kinds := [], alts := [], laidByText := true, laidKinds := [.data], laidTests := true, laidLooks := .later }
def FnExactProgOkUptoCardSaid : Prop := Claim7.holds Tryd.pinned (.plain (OpenSpec.upto fnExactProgOkSpec)) fnExactProgOkUptoCard

/-- THE SECOND FORM's CARD OF 'laws.FnExactProgText'. -/
def fnExactProgTextUptoCard : Claim7 := { stood := { row := fnExactProgTextUptoRow, standIns := [], harness := (true, "f8c84a1ea21b94e9bb2195fb7a3306954a125bd48e45e3fb3094feab7e82f693"), looks := true }, kinds := [], alts := [], laidByText := true, laidKinds := [.data, .data, .data, .data], laidTests := true, laidLooks := .later }
def FnExactProgTextUptoCardSaid : Prop := Claim7.holds Tryd.pinned (.plain (OpenSpec.upto fnExactProgTextSpec)) fnExactProgTextUptoCard

/-- THE SECOND FORM's CARD OF 'laws.FnExactReadProg'. -/
def fnExactReadProgUptoCard : Claim7 := { stood := { row := fnExactReadProgUptoRow, standIns := [], harness := (true, "f8c84a1ea21b94e9bb2195fb7a3306954a125bd48e45e3fb3094feab7e82f693"), looks := true }, kinds := [], alts := [], laidByText := true, laidKinds := [.data, .data, .data, .sentinel, .sentinel, .data], laidTests := true, laidLooks := .later }
def FnExactReadProgUptoCardSaid : Prop := Claim7.holds Tryd.pinned (.plain (OpenSpec.upto fnExactReadProgSpec)) fnExactReadProgUptoCard

/-- THE SECOND FORM's CARD OF 'laws.FnProgs'. -/
def fnProgsUptoCard : Claim7 := { stood := { row := fnProgsUptoRow, standIns := [], harness := (true, "f8c84a1ea21b94e9bb2195fb7a3306954a125bd48e45e3fb3094feab7e82f693"), looks := true }, kinds := [], alts := [], laidByText := true, laidKinds := [.data, .data, .data, .sentinel, .sentinel, .data], laidTests := true, laidLooks := .later }
def FnProgsUptoCardSaid : Prop := Claim7.holds Tryd.pinned (.plain (OpenSpec.upto fnProgsSpec)) fnProgsUptoCard

/-- THE SECOND FORM's CARD OF 'laws.FnExactJobOk'. -/
def fnExactJobOkUptoCard : Claim7 := { stood := { row := fnExactJobOkUptoRow, standIns := [], harness := (true, "f8c84a1ea21b94e9bb2195fb7a3306954a125bd48e45e3fb3094feab7e82f693"), looks := true }, kinds := [], alts := [], laidByText := true, laidKinds := [.data], laidTests := true, laidLooks := .later }
def FnExactJobOkUptoCardSaid : Prop := Claim7.holds Tryd.pinned (.plain (OpenSpec.upto fnExactJobOkSpec)) fnExactJobOkUptoCard

/-- THE SECOND FORM's CARD OF 'laws.FnExactJobText'. -/
def fnExactJobTextUptoCard : Claim7 := { stood := { row := fnExactJobTextUptoRow, standIns := [], harness := (true, "f8c84a1ea21b94e9bb2195fb7a3306954a125bd48e45e3fb3094feab7e82f693"), looks := true }, kinds := [], alts := [], laidByText := true, laidKinds := [.data, .data, .data, .data, .data], laidTests := true, laidLooks := .later }
def FnExactJobTextUptoCardSaid : Prop := Claim7.holds Tryd.pinned (.plain (OpenSpec.upto fnExactJobTextSpec)) fnExactJobTextUptoCard

/-- THE SECOND FORM's CARD OF 'laws.FnExactTasksOf'. -/
def fnExactTasksOfUptoCard : Claim7 := { stood := { row := fnExactTasksOfUptoRow, standIns := [], harness := (true, "f8c84a1ea21b94e9bb2195fb7a3306954a125bd48e45e3fb3094feab7e82f693"), looks := true }, kinds := [], alts := [], laidByText := true, laidKinds := [.data], laidTests := true, laidLooks := .later }
def FnExactTasksOfUptoCardSaid : Prop := Claim7.holds Tryd.pinned (.plain (OpenSpec.upto fnExactTasksOfSpec)) fnExactTasksOfUptoCard

/-- THE SECOND FORM's CARD OF 'laws.FnTasks'. -/
def fnTasksUptoCard : Claim7 := { stood := { row := fnTasksUptoRow, standIns := [], harness := (true, "f8c84a1ea21b94e9bb2195fb7a3306954a125bd48e45e3fb3094feab7e82f693"), looks := true }, kinds := [], alts := [], laidByText := true, laidKinds := [.data], laidTests := true, laidLooks := .later }
def FnTasksUptoCardSaid : Prop := Claim7.holds Tryd.pinned (.plain (OpenSpec.upto fnTasksSpec)) fnTasksUptoCard
end Rows
end Go.Proofs.YtgijalecpeabjaaDoor
