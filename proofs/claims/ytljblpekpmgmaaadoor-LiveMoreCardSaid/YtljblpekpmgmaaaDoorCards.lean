/-
  DERIVED. GIVEN WITH THE SEED: THE CARDS: each row of YtljblpekpmgmaaaDoorRows.lean that lists a variable, with what it lists TIED to the program's text (the seventh form; the later family's looks); each row that meets fmt, with fmt's text TOLD by the authors' own Lean function (tested against real Go, not proved from fmt's source: count such statements apart). THE CARD IS WHAT COUNTS. Prove the row's statement (the work); the ties are given (YtljblpekpmgmaaaDoorTie.lean); close each card by the builder's one call (the guide's Derived/Test/ToyasCard.lean, 'card_holds'). Laid BY PROGRAM, IN A SANDBOX (cutbox-door.mjs). By AI agents, Wed Nov 11 2026. No macro, syntax, notation, axiom, sorry.
-/
import Derived.Test.YtljblpekpmgmaaaDoorRows
import GoSem.ClaimSeven
namespace Go.Proofs.YtljblpekpmgmaaaDoor
namespace Rows

/-- THE TIED CARD OF 'conchlaw09.LiveTrims'. -/
def liveTrimsCard : Claim7 := { stood := { row := liveTrimsRow, standIns := [], harness := (true, "f11802e6e7ce521b8d763faaa21707b4ba7a7f7d531673cd505941fcf7eac337"), looks := false }, kinds := [], alts := [], laidByText := true, laidKinds := [.data], laidTests := true, laidLooks := .later }
def LiveTrimsCardSaid : Prop := Claim7.holds Tryd.pinned (.plain (OpenSpec.ofChange liveTrimsSpec)) liveTrimsCard

/-- THE TIED CARD OF 'conchlaw09.LiveStays'. -/
def liveStaysCard : Claim7 := { stood := { row := liveStaysRow, standIns := [], harness := (true, "f11802e6e7ce521b8d763faaa21707b4ba7a7f7d531673cd505941fcf7eac337"), looks := false }, kinds := [], alts := [], laidByText := true, laidKinds := [.data], laidTests := true, laidLooks := .later }
def LiveStaysCardSaid : Prop := Claim7.holds Tryd.pinned (.plain (OpenSpec.ofChange liveStaysSpec)) liveStaysCard

/-- THE TIED CARD OF 'conchlaw09.LiveMore'. -/
def liveMoreCard : Claim7 := { stood := { row := liveMoreRow, standIns := [], harness := (true, "f11802e6e7ce521b8d763faaa21707b4ba7a7f7d531673cd505941fcf7eac337"), looks := false }, kinds := [], alts := [], laidByText := true, laidKinds := [.data], laidTests := true, laidLooks := .later }
def LiveMoreCardSaid : Prop := Claim7.holds Tryd.pinned (.plain (OpenSpec.ofChange liveMoreSpec)) liveMoreCard

/-- THE SECOND FORM's CARD OF 'conchlaw09.LiveTrims'. -/
def liveTrimsUptoCard : Claim7 := { stood := { row := liveTrimsUptoRow, standIns := [], harness := (true, "f11802e6e7ce521b8d763faaa21707b4ba7a7f7d531673cd505941fcf7eac337"), looks := false }, kinds := [], alts := [], laidByText := true, laidKinds := [.data], laidTests := true, laidLooks := .later }
def LiveTrimsUptoCardSaid : Prop := Claim7.holds Tryd.pinned (.plain (OpenSpec.upto liveTrimsSpec)) liveTrimsUptoCard

/-- THE SECOND FORM's CARD OF 'conchlaw09.LiveStays'. -/
def liveStaysUptoCard : Claim7 := { stood := { row := liveStaysUptoRow, standIns := [], harness := (true, "f11802e6e7ce521b8d763faaa21707b4ba7a7f7d531673cd505941fcf7eac337"), looks := false }, kinds := [], alts := [], laidByText := true, laidKinds := [.data], laidTests := true, laidLooks := .later }
def LiveStaysUptoCardSaid : Prop := Claim7.holds Tryd.pinned (.plain (OpenSpec.upto liveStaysSpec)) liveStaysUptoCard

/-- THE SECOND FORM's CARD OF 'conchlaw09.LiveMore'. -/
def liveMoreUptoCard : Claim7 := { stood := { row := liveMoreUptoRow, standIns := [], harness := (true, "f11802e6e7ce521b8d763faaa21707b4ba7a7f7d531673cd505941fcf7eac337"), looks := false }, kinds := [], alts := [], laidByText := true, laidKinds := [.data], laidTests := true, laidLooks := .later }
def LiveMoreUptoCardSaid : Prop := Claim7.holds Tryd.pinned (.plain (OpenSpec.upto liveMoreSpec)) liveMoreUptoCard
end Rows
end Go.Proofs.YtljblpekpmgmaaaDoor
