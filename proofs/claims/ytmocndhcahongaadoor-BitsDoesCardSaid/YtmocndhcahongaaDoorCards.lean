/-
  DERIVED. GIVEN WITH THE SEED: THE CARDS: each row of YtmocndhcahongaaDoorRows.lean that lists a variable, with what it lists TIED to the program's text (the seventh form; the later family's looks); each row that meets fmt, with fmt's text TOLD by the authors' own Lean function (tested against real Go, not proved from fmt's source: count such statements apart). THE CARD IS WHAT COUNTS. Prove the row's statement (the work); the ties are given (YtmocndhcahongaaDoorTie.lean); close each card by the builder's one call (the guide's Derived/Test/ToyasCard.lean, 'card_holds'). Laid BY PROGRAM, IN A SANDBOX (cutbox-door.mjs). By AI agents, Wed Nov 11 2026. No macro, syntax, notation, axiom, sorry.
-/
import Derived.Test.YtmocndhcahongaaDoorRows
import GoSem.ClaimSeven
namespace Go.Proofs.YtmocndhcahongaaDoor
namespace Rows

/-- THE TIED CARD OF 'conchlaw03.BitsDoes'. -/
def bitsDoesCard : Claim7 := { stood := { row := bitsDoesRow, standIns := [], harness := (true, "a9116522cf946e1b65767d294e9f80ddebbbd953437ec6f97867a616700d3ea1"), looks := false }, kinds := [], alts := [], laidByText := true, laidKinds := [.data], laidTests := true, laidLooks := .later }
def BitsDoesCardSaid : Prop := Claim7.holds Tryd.pinned (.plain (OpenSpec.ofChange bitsDoesSpec)) bitsDoesCard

/-- THE TIED CARD OF 'conchlaw03.BitsUnites'. -/
def bitsUnitesCard : Claim7 := { stood := { row := bitsUnitesRow, standIns := [], harness := (true, "a9116522cf946e1b65767d294e9f80ddebbbd953437ec6f97867a616700d3ea1"), looks := false }, kinds := [], alts := [], laidByText := true, laidKinds := [.data], laidTests := true, laidLooks := .later }
def BitsUnitesCardSaid : Prop := Claim7.holds Tryd.pinned (.plain (OpenSpec.ofChange bitsUnitesSpec)) bitsUnitesCard

/-- THE TIED CARD OF 'conchlaw03.BitsNone'. -/
def bitsNoneCard : Claim7 := { stood := { row := bitsNoneRow, standIns := [], harness := (true, "a9116522cf946e1b65767d294e9f80ddebbbd953437ec6f97867a616700d3ea1"), looks := false }, kinds := [], alts := [], laidByText := true, laidKinds := [.data], laidTests := true, laidLooks := .later }
def BitsNoneCardSaid : Prop := Claim7.holds Tryd.pinned (.plain (OpenSpec.ofChange bitsNoneSpec)) bitsNoneCard

/-- THE SECOND FORM's CARD OF 'conchlaw03.BitsDoes'. -/
def bitsDoesUptoCard : Claim7 := { stood := { row := bitsDoesUptoRow, standIns := [], harness := (true, "a9116522cf946e1b65767d294e9f80ddebbbd953437ec6f97867a616700d3ea1"), looks := false }, kinds := [], alts := [], laidByText := true, laidKinds := [.data], laidTests := true, laidLooks := .later }
def BitsDoesUptoCardSaid : Prop := Claim7.holds Tryd.pinned (.plain (OpenSpec.upto bitsDoesSpec)) bitsDoesUptoCard

/-- THE SECOND FORM's CARD OF 'conchlaw03.BitsUnites'. -/
def bitsUnitesUptoCard : Claim7 := { stood := { row := bitsUnitesUptoRow, standIns := [], harness := (true, "a9116522cf946e1b65767d294e9f80ddebbbd953437ec6f97867a616700d3ea1"), looks := false }, kinds := [], alts := [], laidByText := true, laidKinds := [.data], laidTests := true, laidLooks := .later }
def BitsUnitesUptoCardSaid : Prop := Claim7.holds Tryd.pinned (.plain (OpenSpec.upto bitsUnitesSpec)) bitsUnitesUptoCard

/-- THE SECOND FORM's CARD OF 'conchlaw03.BitsNone'. -/
def bitsNoneUptoCard : Claim7 := { stood := { row := bitsNoneUptoRow, standIns := [], harness := (true, "a9116522cf946e1b65767d294e9f80ddebbbd953437ec6f97867a616700d3ea1"), looks := false }, kinds := [], alts := [], laidByText := true, laidKinds := [.data], laidTests := true, laidLooks := .later }
def BitsNoneUptoCardSaid : Prop := Claim7.holds Tryd.pinned (.plain (OpenSpec.upto bitsNoneSpec)) bitsNoneUptoCard
end Rows
end Go.Proofs.YtmocndhcahongaaDoor
