/-
  DERIVED. GIVEN WITH THE SEED: THE CARDS: each row of YtoipinnfmjaaaaaGreatDoorRows.lean that lists a variable, with what it lists TIED to the program's text (the seventh form; the later family's looks); each row that meets fmt, with fmt's text TOLD by the authors' own Lean function (tested against real Go, not proved from fmt's source: count such statements apart). THE CARD IS WHAT COUNTS. Prove the row's statement (the work); the ties are given (YtoipinnfmjaaaaaGreatDoorTie.lean); close each card by the builder's one call (the guide's Derived/Test/ToyasCard.lean, 'card_holds'). Laid BY PROGRAM, IN A SANDBOX (cutbox-door.mjs). By AI agents, Wed Nov 11 2026. No macro, syntax, notation, axiom, sorry.
-/
import Derived.Test.YtoipinnfmjaaaaaGreatDoorRows
import GoSem.ClaimSeven
namespace Go.Proofs.YtoipinnfmjaaaaaGreatDoor
namespace Rows

/-- THE TIED CARD OF 'conchlaw11.FirstTells'. -/
def firstTellsCard : Claim7 := { stood := { row := firstTellsRow, standIns := [], harness := (true, "4ada7c0c54bbf23170bf02c175f516ec43ddeb9c421cce221901ac867586b628"), looks := false }, kinds := [], alts := [], laidByText := true, laidKinds := [.data], laidTests := true, laidLooks := .later }
def FirstTellsCardSaid : Prop := Claim7.holds Tryz.pinned (.plain (OpenSpec.ofChange firstTellsSpec)) firstTellsCard

/-- THE SECOND FORM's CARD OF 'conchlaw11.FirstTells'. -/
def firstTellsUptoCard : Claim7 := { stood := { row := firstTellsUptoRow, standIns := [], harness := (true, "4ada7c0c54bbf23170bf02c175f516ec43ddeb9c421cce221901ac867586b628"), looks := false }, kinds := [], alts := [], laidByText := true, laidKinds := [.data], laidTests := true, laidLooks := .later }
def FirstTellsUptoCardSaid : Prop := Claim7.holds Tryz.pinned (.plain (OpenSpec.upto firstTellsSpec)) firstTellsUptoCard
end Rows
end Go.Proofs.YtoipinnfmjaaaaaGreatDoor
