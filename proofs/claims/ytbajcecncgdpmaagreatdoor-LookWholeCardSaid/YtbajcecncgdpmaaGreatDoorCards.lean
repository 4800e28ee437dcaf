/-
  DERIVED. GIVEN WITH THE SEED: THE CARDS: each row of YtbajcecncgdpmaaGreatDoorRows.lean that lists a variable, with what it lists TIED to the program's text (the seventh form; the later family's looks); each row that meets fmt, with fmt's text TOLD by the authors' own Lean function (tested against real Go, not proved from fmt's source: count such statements apart). THE CARD IS WHAT COUNTS. Prove the row's statement (the work); the ties are given (YtbajcecncgdpmaaGreatDoorTie.lean); close each card by the builder's one call (the guide's Derived/Test/ToyasCard.lean, 'card_holds'). Laid BY PROGRAM, IN A SANDBOX (cutbox-door.mjs). By AI agents, Wed Nov 11 2026. No macro, syntax, notation, axiom, sorry.
-/
import Derived.Test.YtbajcecncgdpmaaGreatDoorRows
import GoSem.ClaimSeven
namespace Go.Proofs.YtbajcecncgdpmaaGreatDoor
namespace Rows

/-- THE TIED CARD OF 'conchlaw14.LookTells'. -/
def lookTellsCard : Claim7 := { stood := { row := lookTellsRow, standIns := [], harness := (true, "956f686bfb130cc09860dc154cd2042b44c05ea52651d39475623ef2a512cb25"), looks := false }, kinds := [], alts := [], laidByText := true, laidKinds := [.data], laidTests := true, laidLooks := .later }
def LookTellsCardSaid : Prop := Claim7.holds Tryz.pinned (.plain (OpenSpec.ofChange lookTellsSpec)) lookTellsCard

/-- THE TIED CARD OF 'conchlaw14.LookFollows'. -/
def lookFollowsCard : Claim7 := { stood := { row := lookFollowsRow, standIns := [], harness := (true, "956f686bfb130cc09860dc154cd2042b44c05ea52651d39475623ef2a512cb25"), looks := false }, kinds := [], alts := [], laidByText := true, laidKinds := [.data], laidTests := true, laidLooks := .later }
def LookFollowsCardSaid : Prop := Claim7.holds Tryz.pinned (.plain (OpenSpec.ofChange lookFollowsSpec)) lookFollowsCard

/-- THE TIED CARD OF 'conchlaw14.LookWhole'. -/
def lookWholeCard : Claim7 := { stood := { row := lookWholeRow, standIns := [], harness := (true, "956f686bfb130cc09860dc154cd2042b44c05ea52651d39475623ef2a512cb25"), looks := false }, kinds := [], alts := [], laidByText := true, laidKinds := [.data], laidTests := true, laidLooks := .later }
def LookWholeCardSaid : Prop := Claim7.holds Tryz.pinned (.plain (OpenSpec.ofChange lookWholeSpec)) lookWholeCard

/-- THE SECOND FORM's CARD OF 'conchlaw14.LookTells'. -/
def lookTellsUptoCard : Claim7 := { stood := { row := lookTellsUptoRow, standIns := [], harness := (true, "956f686bfb130cc09860dc154cd2042b44c05ea52651d39475623ef2a512cb25"), looks := false }, kinds := [], alts := [], laidByText := true, laidKinds := [.data], laidTests := true, laidLooks := .later }
def LookTellsUptoCardSaid : Prop := Claim7.holds Tryz.pinned (.plain (OpenSpec.upto lookTellsSpec)) lookTellsUptoCard

/-- THE SECOND FORM's CARD OF 'conchlaw14.LookFollows'. -/
def lookFollowsUptoCard : Claim7 := { stood := { row := lookFollowsUptoRow, standIns := [], harness := (true, "956f686bfb130cc09860dc154cd2042b44c05ea52651d39475623ef2a512cb25"), looks := false }, kinds := [], alts := [], laidByText := true, laidKinds := [.data], laidTests := true, laidLooks := .later }
def LookFollowsUptoCardSaid : Prop := Claim7.holds Tryz.pinned (.plain (OpenSpec.upto lookFollowsSpec)) lookFollowsUptoCard

/-- THE SECOND FORM's CARD OF 'conchlaw14.LookWhole'. -/
def lookWholeUptoCard : Claim7 := { stood := { row := lookWholeUptoRow, standIns := [], harness := (true, "956f686bfb130cc09860dc154cd2042b44c05ea52651d39475623ef2a512cb25"), looks := false }, kinds := [], alts := [], laidByText := true, laidKinds := [.data], laidTests := true, laidLooks := .later }
def LookWholeUptoCardSaid : Prop := Claim7.holds Tryz.pinned (.plain (OpenSpec.upto lookWholeSpec)) lookWholeUptoCard
end Rows
end Go.Proofs.YtbajcecncgdpmaaGreatDoor
