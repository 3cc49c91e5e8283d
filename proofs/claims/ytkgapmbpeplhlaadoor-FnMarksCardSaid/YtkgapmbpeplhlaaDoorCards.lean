/-
  DERIVED. GIVEN WITH THE SEED: THE CARDS: each row of YtkgapmbpeplhlaaDoorRows.lean that lists a variable, with what it lists TIED to the program's text (the seventh form; the later family's looks); each row that meets fmt, with fmt's text TOLD by the authors' own Lean function (tested against real Go, not proved from fmt's source: count such statements apart). THE CARD IS WHAT COUNTS. Prove the row's statement (the work); the ties are given (YtkgapmbpeplhlaaDoorTie.lean); close each card by the builder's one call (the guide's Derived/Test/ToyasCard.lean, 'card_holds'). Laid BY PROGRAM, IN A SANDBOX (cutbox-door.mjs). By AI agents, Wed Nov 11 2026. No macro, syntax, notation, axiom, sorry.
-/
import Derived.Test.YtkgapmbpeplhlaaDoorRows
import GoSem.ClaimSeven
namespace Go.Proofs.YtkgapmbpeplhlaaDoor
namespace Rows

/-- THE TIED CARD OF 'laws.FnClaims'. -/
def fnClaimsCard : Claim7 := { stood := { row := fnClaimsRow, standIns := [], harness := (true, "0814f52f19dd26fb8cf2f4d07d62ac933dbb0a40956f5882a6a2cbb9158b960e"), looks := true }, kinds := [], alts := [], laidByText := true, laidKinds := [.data, .data, .data, .data, .sentinel, .sentinel, .pinned], laidTests := true, laidLooks := .later }
def FnClaimsCardSaid : Prop := Claim7.holds Tryd.pinned (.plain (OpenSpec.ofChange fnClaimsSpec)) fnClaimsCard

/-- THE TIED CARD OF 'laws.FnMarks'. -/
def fnMarksCard : Claim7 := { stood := { row := fnMarksRow, standIns := [], harness := (true, "0814f52f19dd26fb8cf2f4d07d62ac933dbb0a40956f5882a6a2cbb9158b960e"), looks := true }, kinds := [], alts := [], laidByText := true, laidKinds := [.data, .data, .data, .data, .sentinel, .sentinel, .pinned], laidTests := true, laidLooks := .later }
def FnMarksCardSaid : Prop := Claim7.holds Tryd.pinned (.plain (OpenSpec.ofChange fnMarksSpec)) fnMarksCard

/-- THE TIED CARD OF 'laws.FnCmds'. -/
def fnCmdsCard : Claim7 := { stood := { row := fnCmdsRow, standIns := [], harness := (true, "0814f52f19dd26fb8cf2f4d07d62ac933dbb0a40956f5882a6a2cbb9158b960e"), looks := true }, kinds := [], alts := [], laidByText := true, laidKinds := [.data, .data, .data, .data, .sentinel, .sentinel, .pinned], laidTests := true, laidLooks := .later }
def FnCmdsCardSaid : Prop := Claim7.holds Tryd.pinned (.plain (OpenSpec.ofChange fnCmdsSpec)) fnCmdsCard

/-- THE TIED CARD OF 'laws.FnExactCmdText'. -/
def fnExactCmdTextCard : Claim7 := { stood := { row := fnExactCmdTextRow, standIns := [], harness := (true, "0814f52f19dd26fb8cf2f4d07d62ac933dbb0a40956f5882a6a2cbb9158b960e"), looks := true }, kinds := [], alts := [], laidByText := true, laidKinds := [.data, .data, .data], laidTests := true, laidLooks := .later }
def FnExactCmdTextCardSaid : Prop := Claim7.holds Tryd.pinned (.plain (OpenSpec.ofChange fnExactCmdTextSpec)) fnExactCmdTextCard

/-- THE TIED CARD OF 'laws.FnExactReadCmd'. -/
def fnExactReadCmdCard : Claim7 := { stood := { row := fnExactReadCmdRow, standIns := [], harness := (true, "0814f52f19dd26fb8cf2f4d07d62ac933dbb0a40956f5882a6a2cbb9158b960e"), looks := true }, kinds := [], alts := [], laidByText := true, laidKinds := [.data, .data, .data, .data, .sentinel, .sentinel, .pinned], laidTests := true, laidLooks := .later }
def FnExactReadCmdCardSaid : Prop := Claim7.holds Tryd.pinned (.plain (OpenSpec.ofChange fnExactReadCmdSpec)) fnExactReadCmdCard

/-- THE TIED CARD OF 'laws.FnExactProgOk'. -/
def fnExactProgOkCard : Claim7 := { stood := { row := fnExactProgOkRow, standIns := [], harness := (true, "0814f52f19dd26fb8cf2f4d07d62ac933dbb0a40956f5882a6a2cbb9158b960e"), looks := true }, kinds := [], alts := [], laidByText := true, laidKinds := [.data], laidTests := true, laidLooks := .later }
def FnExactProgOkCardSaid : Prop := Claim7.holds Tryd.pinned (.plain (OpenSpec.ofChange fnExactProgOkSpec)) fnExactProgOkCard

/-- THE TIED CARD OF 'laws.FnExactJobOk'. -/
def fnExactJobOkCard : Claim7 := { stood := { row := fnExactJobOkRow, standIns := [], harness := (true, "0814f52f19dd26fb8cf2f4d07d62ac933dbb0a40956f5882a6a2cbb9158b960e"), looks := true }, kinds := [], alts := [], laidByText := true, laidKinds := [.data], laidTests := true, laidLooks := .later }
def FnExactJobOkCardSaid : Prop := Claim7.holds Tryd.pinned (.plain (OpenSpec.ofChange fnExactJobOkSpec)) fnExactJobOkCard

/-- THE TIED CARD OF 'laws.FnExactTasksOf'. -/
def fnExactTasksOfCard : Claim7 := { stood := { row := fnExactTasksOfRow, standIns := [], harness := (true, "0814f52f19dd26fb8cf2f4d07d62ac933dbb0a40956f5882a6a2cbb9158b960e"), looks := true }, kinds := [], alts := [], laidByText := true, laidKinds := [.data], laidTests := true, laidLooks := .later }
def FnExactTasksOfCardSaid : Prop := Claim7.holds Tryd.pinned (.plain (OpenSpec.ofChange fnExactTasksOfSpec)) fnExactTasksOfCard

/-- THE TIED CARD OF 'laws.FnTasks'. -/
def fnTasksCard : Claim7 := { stood := { row := fnTasksRow, standIns := [], harness := (true, "0814f52f19dd26fb8cf2f4d07d62ac933dbb0a40956f5882a6a2cbb9158b960e"), looks := true }, kinds := [], alts := [], laidByText := true, laidKinds := [.data], laidTests := true, laidLooks := .later }
def FnTasksCardSaid : Prop := Claim7.holds Tryd.pinned (.plain (OpenSpec.ofChange fnTasksSpec)) fnTasksCard

/-- THE SECOND FORM's CARD OF 'laws.FnClaims'. -/
def fnClaimsUptoCard : Claim7 := { stood := { row := fnClaimsUptoRow, standIns := [], harness := (true, "0814f52f19dd26fb8cf2f4d07d62ac933dbb0a40956f5882a6a2cbb9158b960e"), looks := true }, kinds := [], alts := [], laidByText := true, laidKinds := [.data, .data, .data, .data, .sentinel, .sentinel, .pinned], laidTests := true, laidLooks := .later }
def FnClaimsUptoCardSaid : Prop := Claim7.holds Tryd.pinned (.plain (OpenSpec.upto fnClaimsSpec)) fnClaimsUptoCard

/-- THE SECOND FORM's CARD OF 'laws.FnMarks'. -/
def fnMarksUptoCard : Claim7 := { stood := { row := fnMarksUptoRow, standIns := [], harness := (true, "0814f52f19dd26fb8cf2f4d07d62ac933dbb0a40956f5882a6a2cbb9158b960e"), looks := true }, kinds := [], alts := [], laidByText := true, laidKinds := [.data, .data, .data, .data, .sentinel, .sentinel, .pinned], laidTests := true, laidLooks := .later }
def FnMarksUptoCardSaid : Prop := Claim7.holds Tryd.pinned (.plain (OpenSpec.upto fnMarksSpec)) fnMarksUptoCard

/-- THE SECOND FORM's CARD OF 'laws.FnCmds'. -/
def fnCmdsUptoCard : Claim7 := { stood := { row := fnCmdsUptoRow, standIns := [], harness := (true, "0814f52f19dd26fb8cf2f4d07d62ac933dbb0a40956f5882a6a2cbb9158b960e"), looks := true }, kinds := [], alts := [], laidByText := true, laidKinds := [.data, .data, .data, .data, .sentinel, .sentinel, .pinned], laidTests := true, laidLooks := .later }
def FnCmdsUptoCardSaid : Prop := Claim7.holds Tryd.pinned (.plain (OpenSpec.upto fnCmdsSpec)) fnCmdsUptoCard

/-- THE SECOND FORM's CARD OF 'laws.FnExactCmdText'. -/
def fnExactCmdTextUptoCard : Claim7 := { stood := { row := fnExactCmdTextUptoRow, standIns := [], harness := (true, "0814f52f19dd26fb8cf2f4d07d62ac933dbb0a40956f5882a6a2cbb9158b960e"), looks := true }, kinds := [], alts := [], laidByText := true, laidKinds := [.data, .data, .data], laidTests := true, laidLooks := .later }
def FnExactCmdTextUptoCardSaid : Prop := Claim7.holds Tryd.pinned (.plain (OpenSpec.upto fnExactCmdTextSpec)) fnExactCmdTextUptoCard

/-- THE SECOND FORM's CARD OF 'laws.FnExactReadCmd'. -/
def fnExactReadCmdUptoCard : Claim7 := { stood := { row := fnExactReadCmdUptoRow, standIns := [], harness := (true, "0814f52f19dd26fb8cf2f4d07d62ac933dbb0a40956f5882a6a2cbb9158b960e"), looks := true }, kinds := [], alts := [], laidByText := true, laidKinds := [.data, .data, .data, .data, .sentinel, .sentinel, .pinned], laidTests := true, laidLooks := .later }
def FnExactReadCmdUptoCardSaid : Prop := Claim7.holds Tryd.pinned (.plain (OpenSpec.upto fnExactReadCmdSpec)) fnExactReadCmdUptoCard

/-- THE SECOND FORM's CARD OF 'laws.FnExactProgOk'. -/
def fnExactProgOkUptoCard : Claim7 := { stood := { row := fnExactProgOkUptoRow, standIns := [], harness := (true, "0814f52f19dd26fb8cf2f4d07d62ac933dbb0a40956f5882a6a2cbb9158b960e"), looks := true }, kinds := [], alts := [], laidByText := true, laidKinds := [.data], laidTests := true, laidLooks := .later }
def FnExactProgOkUptoCardSaid : Prop := Claim7.holds Tryd.pinned (.plain (OpenSpec.upto fnExactProgOkSpec)) fnExactProgOkUptoCard

/-- THE SECOND FORM's CARD OF 'laws.FnExactJobOk'. -/
def fnExactJobOkUptoCard : Claim7 := { stood := { row := fnExactJobOkUptoRow, standIns := [], harness := (true, "0814f52f19dd26fb8cf2f4d07d62ac933dbb0a40956f5882a6a2cbb9158b960e"), looks := true }, kinds := [], alts := [], laidByText := true, laidKinds := [.data], laidTests := true, laidLooks := .later }
def FnExactJobOkUptoCardSaid : Prop := Claim7.holds Tryd.pinned (.plain (OpenSpec.upto fnExactJobOkSpec)) fnExactJobOkUptoCard

/-- THE SECOND FORM's CARD OF 'laws.FnExactTasksOf'. -/
def fnExactTasksOfUptoCard : Claim7 := { stood := { row := fnExactTasksOfUptoRow, standIns := [], harness := (true, "0814f52f19dd26fb8cf2f4d07d62ac933dbb0a40956f5882a6a2cbb9158b960e"), looks := true }, kinds := [], alts := [], laidByText := true, laidKinds := [.data], laidTests := true, laidLooks := .later }
def FnExactTasksOfUptoCardSaid : Prop := Claim7.holds Tryd.pinned (.plain (OpenSpec.upto fnExactTasksOfSpec)) fnExactTasksOfUptoCard

/-- THE SECOND FORM's CARD OF 'laws.FnTasks'. -/
def fnTasksUptoCard : Claim7 := { stood := { row := fnTasksUptoRow, standIns := [], harness := (true, "0814f52f19dd26fb8cf2f4d07d62ac933dbb0a40956f5882a6a2cbb9158b960e"), looks := true }, kinds := [], alts := [], laidByText := true, laidKinds := [.data], laidTests := true, laidLooks := .later }
def FnTasksUptoCardSaid : Prop := Claim7.holds Tryd.pinned (.plain (OpenSpec.upto fnTasksSpec)) fnTasksUptoCard
end Rows
end Go.Proofs.YtkgapmbpeplhlaaDoor
