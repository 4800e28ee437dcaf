/-
  DERIVED. GIVEN WITH THE SEED: THE CARDS: each row of YtkcaedinfnajaaaGreatDoorRows.lean that lists a variable, with what it lists TIED to the program's text (the seventh form; the later family's looks); each row that meets fmt, with fmt's text TOLD by the authors' own Lean function (tested against real Go, not proved from fmt's source: count such statements apart). THE CARD IS WHAT COUNTS. Prove the row's statement (the work); the ties are given (YtkcaedinfnajaaaGreatDoorTie.lean); close each card by the builder's one call (the guide's Derived/Test/ToyasCard.lean, 'card_holds'). Laid BY PROGRAM, IN A SANDBOX (cutbox-door.mjs). By AI agents, Wed Nov 11 2026. No macro, syntax, notation, axiom, sorry.
-/
import Derived.Test.YtkcaedinfnajaaaGreatDoorRows
import GoSem.ClaimSeven
namespace Go.Proofs.YtkcaedinfnajaaaGreatDoor
namespace Rows

/-- THE TIED CARD OF 'conchlaw17.PackPacks'. -/
def packPacksCard : Claim7 := { stood := { row := packPacksRow, standIns := [], harness := (true, "ba5d1fe1bbf78d94fc9ffb3ec8038f78e6ed631feaaf9a3d7688f5aae4396ad9"), looks := false }, kinds := [], alts := [], laidByText := true, laidKinds := [.data], laidTests := true, laidLooks := .later }
def PackPacksCardSaid : Prop := Claim7.holds Tryz.pinned (.plain (OpenSpec.ofChange packPacksSpec)) packPacksCard

/-- THE TIED CARD OF 'conchlaw17.PackSame'. -/
def packSameCard : Claim7 := { stood := { row := packSameRow, standIns := [], harness := (true, "ba5d1fe1bbf78d94fc9ffb3ec8038f78e6ed631feaaf9a3d7688f5aae4396ad9"), looks := false }, kinds := [], alts := [], laidByText := true, laidKinds := [.data], laidTests := true, laidLooks := .later }
def PackSameCardSaid : Prop := Claim7.holds Tryz.pinned (.plain (OpenSpec.ofChange packSameSpec)) packSameCard

/-- THE SECOND FORM's CARD OF 'conchlaw17.PackPacks'. -/
def packPacksUptoCard : Claim7 := { stood := { row := packPacksUptoRow, standIns := [], harness := (true, "ba5d1fe1bbf78d94fc9ffb3ec8038f78e6ed631feaaf9a3d7688f5aae4396ad9"), looks := false }, kinds := [], alts := [], laidByText := true, laidKinds := [.data], laidTests := true, laidLooks := .later }
def PackPacksUptoCardSaid : Prop := Claim7.holds Tryz.pinned (.plain (OpenSpec.upto packPacksSpec)) packPacksUptoCard

/-- THE SECOND FORM's CARD OF 'conchlaw17.PackSame'. -/
def packSameUptoCard : Claim7 := { stood := { row := packSameUptoRow, standIns := [], harness := (true, "ba5d1fe1bbf78d94fc9ffb3ec8038f78e6ed631feaaf9a3d7688f5aae4396ad9"), looks := false }, kinds := [], alts := [], laidByText := true, laidKinds := [.data], laidTests := true, laidLooks := .later }
def PackSameUptoCardSaid : Prop := Claim7.holds Tryz.pinned (.plain (OpenSpec.upto packSameSpec)) packSameUptoCard
end Rows
end Go.Proofs.YtkcaedinfnajaaaGreatDoor
