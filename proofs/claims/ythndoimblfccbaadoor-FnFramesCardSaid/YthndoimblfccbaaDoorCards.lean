/-
  DERIVED. GIVEN WITH THE SEED: THE CARDS: each row of YthndoimblfccbaaDoorRows.lean that lists a variable, with what it lists TIED to the program's text (the seventh form; the later family's looks); each row that meets fmt, with fmt's text TOLD by the authors' own Lean function (tested against real Go, not proved from fmt's source: count such statements apart). THE CARD IS WHAT COUNTS. Prove the row's statement (the work); the ties are given (YthndoimblfccbaaDoorTie.lean); close each card by the builder's one call (the guide's Derived/Test/ToyasCard.lean, 'card_holds'). Laid BY PROGRAM, IN A SANDBOX (cutbox-door.mjs). By AI agents, Wed Nov 11 2026. No macro, syntax, notation, axiom, sorry.
-/
import Derived.Test.YthndoimblfccbaaDoorRows
import GoSem.ClaimSeven
namespace Go.Proofs.YthndoimblfccbaaDoor
namespace Rows

/-- THE TIED CARD OF 'laws.FnExactFrameOf'. -/
def fnExactFrameOfCard : Claim7 := { stood := { row := fnExactFrameOfRow, standIns := [], harness := (true, "a02db7e5d4bad060bc2d4ce72138993f9cb58ea00720b87a3eed1dd2ac30e58e"), looks := false }, kinds := [], alts := [], laidByText := true, laidKinds := [.data], laidTests := true, laidLooks := .later }
def FnExactFrameOfCardSaid : Prop := Claim7.holds Tryd.pinned (.plain (OpenSpec.ofChange fnExactFrameOfSpec)) fnExactFrameOfCard

/-- THE TIED CARD OF 'laws.FnExactTakeFrames'. -/
def fnExactTakeFramesCard : Claim7 := { stood := { row := fnExactTakeFramesRow, standIns := [], harness := (true, "a02db7e5d4bad060bc2d4ce72138993f9cb58ea00720b87a3eed1dd2ac30e58e"), looks := false }, kinds := [], alts := [], laidByText := true, laidKinds := [.data], laidTests := true, laidLooks := .later }
def FnExactTakeFramesCardSaid : Prop := Claim7.holds Tryd.pinned (.plain (OpenSpec.ofChange fnExactTakeFramesSpec)) fnExactTakeFramesCard

/-- THE TIED CARD OF 'laws.FnFrames'. -/
def fnFramesCard : Claim7 := { stood := { row := fnFramesRow, standIns := [], harness := (true, "a02db7e5d4bad060bc2d4ce72138993f9cb58ea00720b87a3eed1dd2ac30e58e"), looks := false }, kinds := [], alts := [], laidByText := true, laidKinds := [.data], laidTests := true, laidLooks := .later }
def FnFramesCardSaid : Prop := Claim7.holds Tryd.pinned (.plain (OpenSpec.ofChange fnFramesSpec)) fnFramesCard

/-- THE SECOND FORM's CARD OF 'laws.FnExactFrameOf'. -/
def fnExactFrameOfUptoCard : Claim7 := { stood := { row := fnExactFrameOfUptoRow, standIns := [], harness := (true, "a02db7e5d4bad060bc2d4ce72138993f9cb58ea00720b87a3eed1dd2ac30e58e"), looks := false }, kinds := [], alts := [], laidByText := true, laidKinds := [.data], laidTests := true, laidLooks := .later }
def FnExactFrameOfUptoCardSaid : Prop := Claim7.holds Tryd.pinned (.plain (OpenSpec.upto fnExactFrameOfSpec)) fnExactFrameOfUptoCard

/-- THE SECOND FORM's CARD OF 'laws.FnExactTakeFrames'. -/
def fnExactTakeFramesUptoCard : Claim7 := { stood := { row := fnExactTakeFramesUptoRow, standIns := [], harness := (true, "a02db7e5d4bad060bc2d4ce72138993f9cb58ea00720b87a3eed1dd2ac30e58e"), looks := false }, kinds := [], alts := [], laidByText := true, laidKinds := [.data], laidTests := true, laidLooks := .later }
def FnExactTakeFramesUptoCardSaid : Prop := Claim7.holds Tryd.pinned (.plain (OpenSpec.upto fnExactTakeFramesSpec)) fnExactTakeFramesUptoCard

/-- THE SECOND FORM's CARD OF 'laws.FnFrames'. -/
def fnFramesUptoCard : Claim7 := { stood := { row := fnFramesUptoRow, standIns := [], harness := (true, "a02db7e5d4bad060bc2d4ce72138993f9cb58ea00720b87a3eed1dd2ac30e58e"), looks := false }, kinds := [], alts := [], laidByText := true, laidKinds := [.data], laidTests := true, laidLooks := .later }
def FnFramesUptoCardSaid : Prop := Claim7.holds Tryd.pinned (.plain (OpenSpec.upto fnFramesSpec)) fnFramesUptoCard
end Rows
end Go.Proofs.YthndoimblfccbaaDoor
