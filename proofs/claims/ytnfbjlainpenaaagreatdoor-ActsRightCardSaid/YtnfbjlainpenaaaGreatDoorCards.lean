/-
  DERIVED. GIVEN WITH THE SEED: THE CARDS: each row of YtnfbjlainpenaaaGreatDoorRows.lean that lists a variable, with what it lists TIED to the program's text (the seventh form; the later family's looks); each row that meets fmt, with fmt's text TOLD by the authors' own Lean function (tested against real Go, not proved from fmt's source: count such statements apart). THE CARD IS WHAT COUNTS. Prove the row's statement (the work); the ties are given (YtnfbjlainpenaaaGreatDoorTie.lean); close each card by the builder's one call (the guide's Derived/Test/ToyasCard.lean, 'card_holds'). Laid BY PROGRAM, IN A SANDBOX (cutbox-door.mjs). By AI agents, Wed Nov 11 2026. No macro, syntax, notation, axiom, sorry.
-/
import Derived.Test.YtnfbjlainpenaaaGreatDoorRows
import GoSem.ClaimSeven
namespace Go.Proofs.YtnfbjlainpenaaaGreatDoor
namespace Rows

/-- THE TIED CARD OF 'conchlaw15.ActsClashes'. -/
def actsClashesCard : Claim7 := { stood := { row := actsClashesRow, standIns := [], harness := (true, "d579c60bc78032e6433c654426c496ce456e3703a33a7fbf071e49b9766bb89f"), looks := false }, kinds := [], alts := [], laidByText := true, laidKinds := [.data], laidTests := true, laidLooks := .later }
def ActsClashesCardSaid : Prop := Claim7.holds Tryz.pinned (.plain (OpenSpec.ofChange actsClashesSpec)) actsClashesCard

/-- THE TIED CARD OF 'conchlaw15.ActsRight'. -/
def actsRightCard : Claim7 := { stood := { row := actsRightRow, standIns := [], harness := (true, "d579c60bc78032e6433c654426c496ce456e3703a33a7fbf071e49b9766bb89f"), looks := false }, kinds := [], alts := [], laidByText := true, laidKinds := [.data], laidTests := true, laidLooks := .later }
def ActsRightCardSaid : Prop := Claim7.holds Tryz.pinned (.plain (OpenSpec.ofChange actsRightSpec)) actsRightCard

/-- THE SECOND FORM's CARD OF 'conchlaw15.ActsClashes'. -/
def actsClashesUptoCard : Claim7 := { stood := { row := actsClashesUptoRow, standIns := [], harness := (true, "d579c60bc78032e6433c654426c496ce456e3703a33a7fbf071e49b9766bb89f"), looks := false }, kinds := [], alts := [], laidByText := true, laidKinds := [.data], laidTests := true, laidLooks := .later }
def ActsClashesUptoCardSaid : Prop := Claim7.holds Tryz.pinned (.plain (OpenSpec.upto actsClashesSpec)) actsClashesUptoCard

/-- THE SECOND FORM's CARD OF 'conchlaw15.ActsRight'. -/
def actsRightUptoCard : Claim7 := { stood := { row := actsRightUptoRow, standIns := [], harness := (true, "d579c60bc78032e6433c654426c496ce456e3703a33a7fbf071e49b9766bb89f"), looks := false }, kinds := [], alts := [], laidByText := true, laidKinds := [.data], laidTests := true, laidLooks := .later }
def ActsRightUptoCardSaid : Prop := Claim7.holds Tryz.pinned (.plain (OpenSpec.upto actsRightSpec)) actsRightUptoCard
end Rows
end Go.Proofs.YtnfbjlainpenaaaGreatDoor
