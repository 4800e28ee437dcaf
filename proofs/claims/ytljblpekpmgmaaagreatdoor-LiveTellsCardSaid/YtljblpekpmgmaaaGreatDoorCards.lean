/-
  DERIVED. GIVEN WITH THE SEED: THE CARDS: each row of YtljblpekpmgmaaaGreatDoorRows.lean that lists a variable, with what it lists TIED to the program's text (the seventh form; the later family's looks); each row that meets fmt, with fmt's text TOLD by the authors' own Lean function (tested against real Go, not proved from fmt's source: count such statements apart). THE CARD IS WHAT COUNTS. Prove the row's statement (the work); the ties are given (YtljblpekpmgmaaaGreatDoorTie.lean); close each card by the builder's one call (the guide's Derived/Test/ToyasCard.lean, 'card_holds'). Laid BY PROGRAM, IN A SANDBOX (cutbox-door.mjs). By AI agents, Wed Nov 11 2026. No macro, syntax, notation, axiom, sorry.
-/
import Derived.Test.YtljblpekpmgmaaaGreatDoorRows
import GoSem.ClaimSeven
namespace Go.Proofs.YtljblpekpmgmaaaGreatDoor
namespace Rows

/-- THE TIED CARD OF 'conchlaw09.LiveTells'. -/
def liveTellsCard : Claim7 := { stood := { row := liveTellsRow, standIns := [], harness := (true, "55d2565e408253a934df16e0707cd351c5fdacae585ace51cdd43ec2b5d67af2"), looks := false }, kinds := [], alts := [], laidByText := true, laidKinds := [.data], laidTests := true, laidLooks := .later }
def LiveTellsCardSaid : Prop := Claim7.holds Tryz.pinned (.plain (OpenSpec.ofChange liveTellsSpec)) liveTellsCard

/-- THE SECOND FORM's CARD OF 'conchlaw09.LiveTells'. -/
def liveTellsUptoCard : Claim7 := { stood := { row := liveTellsUptoRow, standIns := [], harness := (true, "55d2565e408253a934df16e0707cd351c5fdacae585ace51cdd43ec2b5d67af2"), looks := false }, kinds := [], alts := [], laidByText := true, laidKinds := [.data], laidTests := true, laidLooks := .later }
def LiveTellsUptoCardSaid : Prop := Claim7.holds Tryz.pinned (.plain (OpenSpec.upto liveTellsSpec)) liveTellsUptoCard
end Rows
end Go.Proofs.YtljblpekpmgmaaaGreatDoor
