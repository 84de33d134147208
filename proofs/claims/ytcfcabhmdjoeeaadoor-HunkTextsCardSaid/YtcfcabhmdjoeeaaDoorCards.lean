/-
  DERIVED. GIVEN WITH THE SEED: THE CARDS: each row of YtcfcabhmdjoeeaaDoorRows.lean that lists a variable, with what it lists TIED to the program's text (the seventh form; the later family's looks); each row that meets fmt, with fmt's text TOLD by the authors' own Lean function (tested against real Go, not proved from fmt's source: count such statements apart). THE CARD IS WHAT COUNTS. Prove the row's statement (the work); the ties are given (YtcfcabhmdjoeeaaDoorTie.lean); close each card by the builder's one call (the guide's Derived/Test/ToyasCard.lean, 'card_holds'). Laid BY PROGRAM, IN A SANDBOX (cutbox-door.mjs). By AI agents, Wed Nov 11 2026. No macro, syntax, notation, axiom, sorry.
-/
import Derived.Test.YtcfcabhmdjoeeaaDoorRows
import GoSem.ClaimSeven
namespace Go.Proofs.YtcfcabhmdjoeeaaDoor
namespace Rows

/-- THE TIED CARD OF 'quitclaimlaw11.HunkTexts'. -/
def hunkTextsCard : Claim7 := { stood := { row := hunkTextsRow, standIns := [], harness := (true, "4a8a152fb1cd9b3cf36a260e939aec7cfb42cad9d8c3f4e691fd7cc24481a59e"), looks := false }, kinds := [], alts := [], laidByText := true, laidKinds := [.data, .pinned], laidTests := true, laidLooks := .later }
def HunkTextsCardSaid : Prop := Claim7.holds Tryd.pinned (.plain (OpenSpec.ofChange hunkTextsSpec)) hunkTextsCard

/-- THE SECOND FORM's CARD OF 'quitclaimlaw11.HunkTexts'. -/
def hunkTextsUptoCard : Claim7 := { stood := { row := hunkTextsUptoRow, standIns := [], harness := (true, "4a8a152fb1cd9b3cf36a260e939aec7cfb42cad9d8c3f4e691fd7cc24481a59e"), looks := false }, kinds := [], alts := [], laidByText := true, laidKinds := [.data, .pinned], laidTests := true, laidLooks := .later }
def HunkTextsUptoCardSaid : Prop := Claim7.holds Tryd.pinned (.plain (OpenSpec.upto hunkTextsSpec)) hunkTextsUptoCard
end Rows
end Go.Proofs.YtcfcabhmdjoeeaaDoor
