/-
  DERIVED. GIVEN WITH THE SEED: THE CARDS: each row of YtoipinnfmjaaaaaDoorRows.lean that lists a variable, with what it lists TIED to the program's text (the seventh form; the later family's looks); each row that meets fmt, with fmt's text TOLD by the authors' own Lean function (tested against real Go, not proved from fmt's source: count such statements apart). THE CARD IS WHAT COUNTS. Prove the row's statement (the work); the ties are given (YtoipinnfmjaaaaaDoorTie.lean); close each card by the builder's one call (the guide's Derived/Test/ToyasCard.lean, 'card_holds'). Laid BY PROGRAM, IN A SANDBOX (cutbox-door.mjs). By AI agents, Wed Nov 11 2026. No macro, syntax, notation, axiom, sorry.
-/
import Derived.Test.YtoipinnfmjaaaaaDoorRows
import GoSem.ClaimSeven
namespace Go.Proofs.YtoipinnfmjaaaaaDoor
namespace Rows

/-- THE TIED CARD OF 'conchlaw11.FirstRules'. -/
def firstRulesCard : Claim7 := { stood := { row := firstRulesRow, standIns := [], harness := (true, "82d504a68cb683c0dc5a39cd5d51ca3c57b6a094c033851f65ef28105fdba4c0"), looks := false }, kinds := [], alts := [], laidByText := true, laidKinds := [.data], laidTests := true, laidLooks := .later }
def FirstRulesCardSaid : Prop := Claim7.holds Tryd.pinned (.plain (OpenSpec.ofChange firstRulesSpec)) firstRulesCard

/-- THE TIED CARD OF 'conchlaw11.FirstWords'. -/
def firstWordsCard : Claim7 := { stood := { row := firstWordsRow, standIns := [], harness := (true, "82d504a68cb683c0dc5a39cd5d51ca3c57b6a094c033851f65ef28105fdba4c0"), looks := false }, kinds := [], alts := [], laidByText := true, laidKinds := [.data], laidTests := true, laidLooks := .later }
def FirstWordsCardSaid : Prop := Claim7.holds Tryd.pinned (.plain (OpenSpec.ofChange firstWordsSpec)) firstWordsCard

/-- THE SECOND FORM's CARD OF 'conchlaw11.FirstRules'. -/
def firstRulesUptoCard : Claim7 := { stood := { row := firstRulesUptoRow, standIns := [], harness := (true, "82d504a68cb683c0dc5a39cd5d51ca3c57b6a094c033851f65ef28105fdba4c0"), looks := false }, kinds := [], alts := [], laidByText := true, laidKinds := [.data], laidTests := true, laidLooks := .later }
def FirstRulesUptoCardSaid : Prop := Claim7.holds Tryd.pinned (.plain (OpenSpec.upto firstRulesSpec)) firstRulesUptoCard

/-- THE SECOND FORM's CARD OF 'conchlaw11.FirstWords'. -/
def firstWordsUptoCard : Claim7 := { stood := { row := firstWordsUptoRow, standIns := [], harness := (true, "82d504a68cb683c0dc5a39cd5d51ca3c57b6a094c033851f65ef28105fdba4c0"), looks := false }, kinds := [], alts := [], laidByText := true, laidKinds := [.data], laidTests := true, laidLooks := .later }
def FirstWordsUptoCardSaid : Prop := Claim7.holds Tryd.pinned (.plain (OpenSpec.upto firstWordsSpec)) firstWordsUptoCard
end Rows
end Go.Proofs.YtoipinnfmjaaaaaDoor
