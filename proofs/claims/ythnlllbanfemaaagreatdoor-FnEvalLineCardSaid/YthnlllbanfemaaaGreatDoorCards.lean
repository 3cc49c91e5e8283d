/-
  DERIVED. GIVEN WITH THE SEED: THE CARDS: each row of YthnlllbanfemaaaGreatDoorRows.lean that lists a variable, with what it lists TIED to the program's text (the seventh form; the later family's looks); each row that meets fmt, with fmt's text TOLD by the authors' own Lean function (tested against real Go, not proved from fmt's source: count such statements apart). THE CARD IS WHAT COUNTS. Prove the row's statement (the work); the ties are given (YthnlllbanfemaaaGreatDoorTie.lean); close each card by the builder's one call (the guide's Derived/Test/ToyasCard.lean, 'card_holds'). Laid BY PROGRAM, IN A SANDBOX (cutbox-door.mjs). By AI agents, Wed Nov 11 2026. No macro, syntax, notation, axiom, sorry.
-/
import Derived.Test.YthnlllbanfemaaaGreatDoorRows
import GoSem.ClaimSeven
namespace Go.Proofs.YthnlllbanfemaaaGreatDoor
namespace Rows

/-- THE TIED CARD OF 'laws.FnExactEval'. -/
def fnExactEvalCard : Claim7 := { stood := { row := fnExactEvalRow, standIns := [], harness := (true, "3aa9cf27487321df5c32643dfb54fde464ade729f556db5094548501a05a8a1d"), looks := true }, kinds := [], alts := [], laidByText := true, laidKinds := [.data, .data, .data, .sentinel, .sentinel, .data], laidTests := true, laidLooks := .later }
def FnExactEvalCardSaid : Prop := Claim7.holds Tryz.pinned (.plain (OpenSpec.ofChange fnExactEvalSpec)) fnExactEvalCard

/-- THE TIED CARD OF 'laws.FnExactEvalLine'. -/
def fnExactEvalLineCard : Claim7 := { stood := { row := fnExactEvalLineRow, standIns := [], harness := (true, "3aa9cf27487321df5c32643dfb54fde464ade729f556db5094548501a05a8a1d"), looks := true }, kinds := [], alts := [], laidByText := true, laidKinds := [.data, .data, .data, .sentinel, .sentinel, .data], laidTests := true, laidLooks := .later }
def FnExactEvalLineCardSaid : Prop := Claim7.holds Tryz.pinned (.plain (OpenSpec.ofChange fnExactEvalLineSpec)) fnExactEvalLineCard

/-- THE TIED CARD OF 'laws.FnEvalTwo'. -/
def fnEvalTwoCard : Claim7 := { stood := { row := fnEvalTwoRow, standIns := [], harness := (true, "3aa9cf27487321df5c32643dfb54fde464ade729f556db5094548501a05a8a1d"), looks := true }, kinds := [], alts := [], laidByText := true, laidKinds := [.data, .data, .data, .sentinel, .sentinel, .data], laidTests := true, laidLooks := .later }
def FnEvalTwoCardSaid : Prop := Claim7.holds Tryz.pinned (.plain (OpenSpec.ofChange fnEvalTwoSpec)) fnEvalTwoCard

/-- THE TIED CARD OF 'laws.FnEvalLine'. -/
def fnEvalLineCard : Claim7 := { stood := { row := fnEvalLineRow, standIns := [], harness := (true, "3aa9cf27487321df5c32643dfb54fde464ade729f556db5094548501a05a8a1d"), looks := true }, kinds := [], alts := [], laidByText := true, laidKinds := [.data, .data, .data, .sentinel, .sentinel, .data], laidTests := true, laidLooks := .later }
def FnEvalLineCardSaid : Prop := Claim7.holds Tryz.pinned (.plain (OpenSpec.ofChange fnEvalLineSpec)) fnEvalLineCard

/-- THE TIED CARD OF 'laws.FnEvalSums'. -/
def fnEvalSumsCard : Claim7 := { stood := { row := fnEvalSumsRow, standIns := [], harness := (true, "3aa9cf27487321df5c32643dfb54fde464ade729f556db5094548501a05a8a1d"), looks := true }, kinds := [], alts := [], laidByText := true, laidKinds := [.data, .data, .data, .sentinel, .sentinel, .data], laidTests := true, laidLooks := .later }
def FnEvalSumsCardSaid : Prop := Claim7.holds Tryz.pinned (.plain (OpenSpec.ofChange fnEvalSumsSpec)) fnEvalSumsCard

/-- THE TIED CARD OF 'laws.FnEvalTexts'. -/
def fnEvalTextsCard : Claim7 := { stood := { row := fnEvalTextsRow, standIns := [], harness := (true, "3aa9cf27487321df5c32643dfb54fde464ade729f556db5094548501a05a8a1d"), looks := true }, kinds := [], alts := [], laidByText := true, laidKinds := [.data, .data, .data, .sentinel, .sentinel, .data], laidTests := true, laidLooks := .later }
def FnEvalTextsCardSaid : Prop := Claim7.holds Tryz.pinned (.plain (OpenSpec.ofChange fnEvalTextsSpec)) fnEvalTextsCard

/-- THE TIED CARD OF 'laws.FnEmitIf'. -/
def fnEmitIfCard : Claim7 := { stood := { row := fnEmitIfRow, standIns := [], harness := (true, "3aa9cf27487321df5c32643dfb54fde464ade729f556db5094548501a05a8a1d"), looks := true }, kinds := [], alts := [], laidByText := true, laidKinds := [.data, .data, .data, .sentinel, .sentinel, .data], laidTests := true, laidLooks := .later }
def FnEmitIfCardSaid : Prop := Claim7.holds Tryz.pinned (.plain (OpenSpec.ofChange fnEmitIfSpec)) fnEmitIfCard

/-- THE TIED CARD OF 'laws.FnFields'. -/
def fnFieldsCard : Claim7 := { stood := { row := fnFieldsRow, standIns := [], harness := (true, "3aa9cf27487321df5c32643dfb54fde464ade729f556db5094548501a05a8a1d"), looks := true }, kinds := [], alts := [], laidByText := true, laidKinds := [.data, .data, .data, .sentinel, .sentinel, .data], laidTests := true, laidLooks := .later }
def FnFieldsCardSaid : Prop := Claim7.holds Tryz.pinned (.plain (OpenSpec.ofChange fnFieldsSpec)) fnFieldsCard

/-- THE SECOND FORM's CARD OF 'laws.FnExactEval'. -/
def fnExactEvalUptoCard : Claim7 := { stood := { row := fnExactEvalUptoRow, standIns := [], harness := (true, "3aa9cf27487321df5c32643dfb54fde464ade729f556db5094548501a05a8a1d"), looks := true }, kinds := [], alts := [], laidByText := true, laidKinds := [.data, .data, .data, .sentinel, .sentinel, .data], laidTests := true, laidLooks := .later }
def FnExactEvalUptoCardSaid : Prop := Claim7.holds Tryz.pinned (.plain (OpenSpec.upto fnExactEvalSpec)) fnExactEvalUptoCard

/-- THE SECOND FORM's CARD OF 'laws.FnExactEvalLine'. -/
def fnExactEvalLineUptoCard : Claim7 := { stood := { row := fnExactEvalLineUptoRow, standIns := [], harness := (true, "3aa9cf27487321df5c32643dfb54fde464ade729f556db5094548501a05a8a1d"), looks := true }, kinds := [], alts := [], laidByText := true, laidKinds := [.data, .data, .data, .sentinel, .sentinel, .data], laidTests := true, laidLooks := .later }
def FnExactEvalLineUptoCardSaid : Prop := Claim7.holds Tryz.pinned (.plain (OpenSpec.upto fnExactEvalLineSpec)) fnExactEvalLineUptoCard

/-- THE SECOND FORM's CARD OF 'laws.FnEvalTwo'. -/
def fnEvalTwoUptoCard : Claim7 := { stood := { row := fnEvalTwoUptoRow, standIns := [], harness := (true, "3aa9cf27487321df5c32643dfb54fde464ade729f556db5094548501a05a8a1d"), looks := true }, kinds := [], alts := [], laidByText := true, laidKinds := [.data, .data, .data, .sentinel, .sentinel, .data], laidTests := true, laidLooks := .later }
def FnEvalTwoUptoCardSaid : Prop := Claim7.holds Tryz.pinned (.plain (OpenSpec.upto fnEvalTwoSpec)) fnEvalTwoUptoCard

/-- THE SECOND FORM's CARD OF 'laws.FnEvalLine'. -/
def fnEvalLineUptoCard : Claim7 := { stood := { row := fnEvalLineUptoRow, standIns := [], harness := (true, "3aa9cf27487321df5c32643dfb54fde464ade729f556db5094548501a05a8a1d"), looks := true }, kinds := [], alts := [], laidByText := true, laidKinds := [.data, .data, .data, .sentinel, .sentinel, .data], laidTests := true, laidLooks := .later }
def FnEvalLineUptoCardSaid : Prop := Claim7.holds Tryz.pinned (.plain (OpenSpec.upto fnEvalLineSpec)) fnEvalLineUptoCard

/-- THE SECOND FORM's CARD OF 'laws.FnEvalSums'. -/
def fnEvalSumsUptoCard : Claim7 := { stood := { row := fnEvalSumsUptoRow, standIns := [], harness := (true, "3aa9cf27487321df5c32643dfb54fde464ade729f556db5094548501a05a8a1d"), looks := true }, kinds := [], alts := [], laidByText := true, laidKinds := [.data, .data, .data, .sentinel, .sentinel, .data], laidTests := true, laidLooks := .later }
def FnEvalSumsUptoCardSaid : Prop := Claim7.holds Tryz.pinned (.plain (OpenSpec.upto fnEvalSumsSpec)) fnEvalSumsUptoCard

/-- THE SECOND FORM's CARD OF 'laws.FnEvalTexts'. -/
def fnEvalTextsUptoCard : Claim7 := { stood := { row := fnEvalTextsUptoRow, standIns := [], harness := (true, "3aa9cf27487321df5c32643dfb54fde464ade729f556db5094548501a05a8a1d"), looks := true }, kinds := [], alts := [], laidByText := true, laidKinds := [.data, .data, .data, .sentinel, .sentinel, .data], laidTests := true, laidLooks := .later }
def FnEvalTextsUptoCardSaid : Prop := Claim7.holds Tryz.pinned (.plain (OpenSpec.upto fnEvalTextsSpec)) fnEvalTextsUptoCard

/-- THE SECOND FORM's CARD OF 'laws.FnEmitIf'. -/
def fnEmitIfUptoCard : Claim7 := { stood := { row := fnEmitIfUptoRow, standIns := [], harness := (true, "3aa9cf27487321df5c32643dfb54fde464ade729f556db5094548501a05a8a1d"), looks := true }, kinds := [], alts := [], laidByText := true, laidKinds := [.data, .data, .data, .sentinel, .sentinel, .data], laidTests := true, laidLooks := .later }
def FnEmitIfUptoCardSaid : Prop := Claim7.holds Tryz.pinned (.plain (OpenSpec.upto fnEmitIfSpec)) fnEmitIfUptoCard

/-- THE SECOND FORM's CARD OF 'laws.FnFields'. -/
def fnFieldsUptoCard : Claim7 := { stood := { row := fnFieldsUptoRow, standIns := [], harness := (true, "3aa9cf27487321df5c32643dfb54fde464ade729f556db5094548501a05a8a1d"), looks := true }, kinds := [], alts := [], laidByText := true, laidKinds := [.data, .data, .data, .sentinel, .sentinel, .data], laidTests := true, laidLooks := .later }
def FnFieldsUptoCardSaid : Prop := Claim7.holds Tryz.pinned (.plain (OpenSpec.upto fnFieldsSpec)) fnFieldsUptoCard
end Rows
end Go.Proofs.YthnlllbanfemaaaGreatDoor
