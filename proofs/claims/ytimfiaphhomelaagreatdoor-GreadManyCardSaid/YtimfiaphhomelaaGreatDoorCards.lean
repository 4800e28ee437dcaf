/-
  DERIVED. GIVEN WITH THE SEED: THE CARDS: each row of YtimfiaphhomelaaGreatDoorRows.lean that lists a variable, with what it lists TIED to the program's text (the seventh form; the later family's looks); each row that meets fmt, with fmt's text TOLD by the authors' own Lean function (tested against real Go, not proved from fmt's source: count such statements apart). THE CARD IS WHAT COUNTS. Prove the row's statement (the work); the ties are given (YtimfiaphhomelaaGreatDoorTie.lean); close each card by the builder's one call (the guide's Derived/Test/ToyasCard.lean, 'card_holds'). Laid BY PROGRAM, IN A SANDBOX (cutbox-door.mjs). By AI agents, Wed Nov 11 2026. No macro, syntax, notation, axiom, sorry.
-/
import Derived.Test.YtimfiaphhomelaaGreatDoorRows
import GoSem.ClaimSeven
namespace Go.Proofs.YtimfiaphhomelaaGreatDoor
namespace Rows

/-- THE TIED CARD OF 'conchlaw07.GreadRight'. -/
def greadRightCard : Claim7 := { stood := { row := greadRightRow, standIns := [], harness := (true, "083771aa7be6949a07ddc611abadc5e06be99c5f1ac9398819ba39645b18e86c"), looks := true }, kinds := [], alts := [], laidByText := true, laidKinds := [.handle], laidTests := true, laidLooks := .later }
def GreadRightCardSaid : Prop := Claim7.holds Tryz.pinned (.plain (OpenSpec.ofChange greadRightSpec)) greadRightCard

/-- THE TIED CARD OF 'conchlaw07.GreadMany'. -/
def greadManyCard : Claim7 := { stood := { row := greadManyRow, standIns := [], harness := (true, "083771aa7be6949a07ddc611abadc5e06be99c5f1ac9398819ba39645b18e86c"), looks := true }, kinds := [], alts := [], laidByText := true, laidKinds := [.handle], laidTests := true, laidLooks := .later }
def GreadManyCardSaid : Prop := Claim7.holds Tryz.pinned (.plain (OpenSpec.ofChange greadManySpec)) greadManyCard

/-- THE TIED CARD OF 'conchlaw07.GreadToken'. -/
def greadTokenCard : Claim7 := { stood := { row := greadTokenRow, standIns := [], harness := (true, "083771aa7be6949a07ddc611abadc5e06be99c5f1ac9398819ba39645b18e86c"), looks := true }, kinds := [], alts := [], laidByText := true, laidKinds := [.handle], laidTests := true, laidLooks := .later }
def GreadTokenCardSaid : Prop := Claim7.holds Tryz.pinned (.plain (OpenSpec.ofChange greadTokenSpec)) greadTokenCard

/-- THE SECOND FORM's CARD OF 'conchlaw07.GreadRight'. -/
def greadRightUptoCard : Claim7 := { stood := { row := greadRightUptoRow, standIns := [], harness := (true, "083771aa7be6949a07ddc611abadc5e06be99c5f1ac9398819ba39645b18e86c"), looks := true }, kinds := [], alts := [], laidByText := true, laidKinds := [.handle], laidTests := true, laidLooks := .later }
def GreadRightUptoCardSaid : Prop := Claim7.holds Tryz.pinned (.plain (OpenSpec.upto greadRightSpec)) greadRightUptoCard

/-- THE SECOND FORM's CARD OF 'conchlaw07.GreadMany'. -/
def greadManyUptoCard : Claim7 := { stood := { row := greadManyUptoRow, standIns := [], harness := (true, "083771aa7be6949a07ddc611abadc5e06be99c5f1ac9398819ba39645b18e86c"), looks := true }, kinds := [], alts := [], laidByText := true, laidKinds := [.handle], laidTests := true, laidLooks := .later }
def GreadManyUptoCardSaid : Prop := Claim7.holds Tryz.pinned (.plain (OpenSpec.upto greadManySpec)) greadManyUptoCard

/-- THE SECOND FORM's CARD OF 'conchlaw07.GreadToken'. -/
def greadTokenUptoCard : Claim7 := { stood := { row := greadTokenUptoRow, standIns := [], harness := (true, "083771aa7be6949a07ddc611abadc5e06be99c5f1ac9398819ba39645b18e86c"), looks := true }, kinds := [], alts := [], laidByText := true, laidKinds := [.handle], laidTests := true, laidLooks := .later }
def GreadTokenUptoCardSaid : Prop := Claim7.holds Tryz.pinned (.plain (OpenSpec.upto greadTokenSpec)) greadTokenUptoCard
end Rows
end Go.Proofs.YtimfiaphhomelaaGreatDoor
