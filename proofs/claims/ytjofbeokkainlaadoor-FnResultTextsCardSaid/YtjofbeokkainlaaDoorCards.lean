/-
  DERIVED. GIVEN WITH THE SEED: THE CARDS: each row of YtjofbeokkainlaaDoorRows.lean that lists a variable, with what it lists TIED to the program's text (the seventh form; the later family's looks); each row that meets fmt, with fmt's text TOLD by the authors' own Lean function (tested against real Go, not proved from fmt's source: count such statements apart). THE CARD IS WHAT COUNTS. Prove the row's statement (the work); the ties are given (YtjofbeokkainlaaDoorTie.lean); close each card by the builder's one call (the guide's Derived/Test/ToyasCard.lean, 'card_holds'). Laid BY PROGRAM, IN A SANDBOX (cutbox-door.mjs). By AI agents, Wed Nov 11 2026. No macro, syntax, notation, axiom, sorry.
-/
import Derived.Test.YtjofbeokkainlaaDoorRows
import GoSem.ClaimSeven
namespace Go.Proofs.YtjofbeokkainlaaDoor
namespace Rows

/-- THE TIED CARD OF 'laws.FnResultTexts'. -/
def fnResultTextsCard : Claim7 := { stood := { row := fnResultTextsRow, standIns := [], harness := (true, "48c5a34885909656a6e225f48f4ff238543d13c1aa1e61aa3d7ce22bb688a7e2"), looks := false }, kinds := [], alts := [], laidByText := true, laidKinds := [.data, .data, .data], laidTests := true, laidLooks := .later }
def FnResultTextsCardSaid : Prop := Claim7.holds Tryd.pinned (.plain (OpenSpec.ofChange fnResultTextsSpec)) fnResultTextsCard

/-- THE SECOND FORM's CARD OF 'laws.FnResultTexts'. -/
def fnResultTextsUptoCard : Claim7 := { stood := { row := fnResultTextsUptoRow, standIns := [], harness := (true, "48c5a34885909656a6e225f48f4ff238543d13c1aa1e61aa3d7ce22bb688a7e2"), looks := false }, kinds := [], alts := [], laidByText := true, laidKinds := [.data, .data, .data], laidTests := true, laidLooks := .later }
def FnResultTextsUptoCardSaid : Prop := Claim7.holds Tryd.pinned (.plain (OpenSpec.upto fnResultTextsSpec)) fnResultTextsUptoCard
end Rows
end Go.Proofs.YtjofbeokkainlaaDoor
