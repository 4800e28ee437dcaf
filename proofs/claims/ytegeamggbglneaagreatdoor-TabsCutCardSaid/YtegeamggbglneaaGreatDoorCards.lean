/-
  DERIVED. GIVEN WITH THE SEED: THE CARDS: each row of YtegeamggbglneaaGreatDoorRows.lean that lists a variable, with what it lists TIED to the program's text (the seventh form; the later family's looks); each row that meets fmt, with fmt's text TOLD by the authors' own Lean function (tested against real Go, not proved from fmt's source: count such statements apart). THE CARD IS WHAT COUNTS. Prove the row's statement (the work); the ties are given (YtegeamggbglneaaGreatDoorTie.lean); close each card by the builder's one call (the guide's Derived/Test/ToyasCard.lean, 'card_holds'). Laid BY PROGRAM, IN A SANDBOX (cutbox-door.mjs). By AI agents, Wed Nov 11 2026. No macro, syntax, notation, axiom, sorry.
-/
import Derived.Test.YtegeamggbglneaaGreatDoorRows
import GoSem.ClaimSeven
namespace Go.Proofs.YtegeamggbglneaaGreatDoor
namespace Rows

/-- THE TIED CARD OF 'conchlaw17.PackPacks'. -/
def packPacksCard : Claim7 := { stood := { row := packPacksRow, standIns := [], harness := (true, "b08a96d8c19fb23916d7af11246cc8d6dfda93f682a4e3b4befbcb7a917c9f87"), looks := false }, kinds := [], alts := [], laidByText := true, laidKinds := [.data], laidTests := true, laidLooks := .later }
def PackPacksCardSaid : Prop := Claim7.holds Tryz.pinned (.plain (OpenSpec.ofChange packPacksSpec)) packPacksCard

/-- THE TIED CARD OF 'conchlaw18.TabsBytes'. -/
def tabsBytesCard : Claim7 := { stood := { row := tabsBytesRow, standIns := [], harness := (true, "b08a96d8c19fb23916d7af11246cc8d6dfda93f682a4e3b4befbcb7a917c9f87"), looks := false }, kinds := [], alts := [], laidByText := true, laidKinds := [.data], laidTests := true, laidLooks := .later }
def TabsBytesCardSaid : Prop := Claim7.holds Tryz.pinned (.plain (OpenSpec.ofChange tabsBytesSpec)) tabsBytesCard

/-- THE TIED CARD OF 'conchlaw18.TabsReads'. -/
def tabsReadsCard : Claim7 := { stood := { row := tabsReadsRow, standIns := [], harness := (true, "b08a96d8c19fb23916d7af11246cc8d6dfda93f682a4e3b4befbcb7a917c9f87"), looks := false }, kinds := [], alts := [], laidByText := true, laidKinds := [.data], laidTests := true, laidLooks := .later }
def TabsReadsCardSaid : Prop := Claim7.holds Tryz.pinned (.plain (OpenSpec.ofChange tabsReadsSpec)) tabsReadsCard

/-- THE TIED CARD OF 'conchlaw18.TabsCut'. -/
def tabsCutCard : Claim7 := { stood := { row := tabsCutRow, standIns := [], harness := (true, "b08a96d8c19fb23916d7af11246cc8d6dfda93f682a4e3b4befbcb7a917c9f87"), looks := false }, kinds := [], alts := [], laidByText := true, laidKinds := [.data], laidTests := true, laidLooks := .later }
def TabsCutCardSaid : Prop := Claim7.holds Tryz.pinned (.plain (OpenSpec.ofChange tabsCutSpec)) tabsCutCard

/-- THE SECOND FORM's CARD OF 'conchlaw17.PackPacks'. -/
def packPacksUptoCard : Claim7 := { stood := { row := packPacksUptoRow, standIns := [], harness := (true, "b08a96d8c19fb23916d7af11246cc8d6dfda93f682a4e3b4befbcb7a917c9f87"), looks := false }, kinds := [], alts := [], laidByText := true, laidKinds := [.data], laidTests := true, laidLooks := .later }
def PackPacksUptoCardSaid : Prop := Claim7.holds Tryz.pinned (.plain (OpenSpec.upto packPacksSpec)) packPacksUptoCard

/-- THE SECOND FORM's CARD OF 'conchlaw18.TabsBytes'. -/
def tabsBytesUptoCard : Claim7 := { stood := { row := tabsBytesUptoRow, standIns := [], harness := (true, "b08a96d8c19fb23916d7af11246cc8d6dfda93f682a4e3b4befbcb7a917c9f87"), looks := false }, kinds := [], alts := [], laidByText := true, laidKinds := [.data], laidTests := true, laidLooks := .later }
def TabsBytesUptoCardSaid : Prop := Claim7.holds Tryz.pinned (.plain (OpenSpec.upto tabsBytesSpec)) tabsBytesUptoCard

/-- THE SECOND FORM's CARD OF 'conchlaw18.TabsReads'. -/
def tabsReadsUptoCard : Claim7 := { stood := { row := tabsReadsUptoRow, standIns := [], harness := (true, "b08a96d8c19fb23916d7af11246cc8d6dfda93f682a4e3b4befbcb7a917c9f87"), looks := false }, kinds := [], alts := [], laidByText := true, laidKinds := [.data], laidTests := true, laidLooks := .later }
def TabsReadsUptoCardSaid : Prop := Claim7.holds Tryz.pinned (.plain (OpenSpec.upto tabsReadsSpec)) tabsReadsUptoCard

/-- THE SECOND FORM's CARD OF 'conchlaw18.TabsCut'. -/
def tabsCutUptoCard : Claim7 := { stood := { row := tabsCutUptoRow, standIns := [], harness := (true, "b08a96d8c19fb23916d7af11246cc8d6dfda93f682a4e3b4befbcb7a917c9f87"), looks := false }, kinds := [], alts := [], laidByText := true, laidKinds := [.data], laidTests := true, laidLooks := .later }
def TabsCutUptoCardSaid : Prop := Claim7.holds Tryz.pinned (.plain (OpenSpec.upto tabsCutSpec)) tabsCutUptoCard
end Rows
end Go.Proofs.YtegeamggbglneaaGreatDoor
