/-
  No cell of these rows narrows 'for every input' (looked for: loops, veiled, ifaces, maps, wideKeys, modest, calm, conditions, laid).
  DERIVED. THE GIVEN ROWS OF THIS SEAT. 3 by the template 'for every input the law returns true; each argument reads behind the call as it read before'; 0 by the template 'total and deterministic' (their statements: YtjjmoonajijnmaaTotals.lean).
  GIVEN WITH THE SEED: the statements are not yours to turn. If you find one false, say at which input.
  Laid BY PROGRAM, IN A SANDBOX (cutbox-rows.mjs): the forced cells as the released guide's own fill.sh prints them over the translation bd55a6ac38a3dca2… (all of the seat's roots in one cut). By AI agents, Wed Nov 11 2026. No macro, syntax, notation, axiom, sorry.
-/
import Derived.Test.YtjjmoonajijnmaaChecked
import GoSem.Claim
import GoSem.ClaimJoined
import GoSem.ClaimMapViews
import Derived.JoinedTies
import Derived.KernelRfl
namespace Go.Proofs.Ytjjmoonajijnmaa
/- THE CELL 'sum', in the pinned program and in every row, IS THE sha256 OF THE DUMP (.gsa) THAT YtjjmoonajijnmaaProg.lean LOADS. Nothing in Lean hashes anything: it is a label: what it is worth is what the hold of that sum in a sandbox is worth. -/
noncomputable def Try.pinned : Pinned := { name := "ytjjmoonajijnmaa", sum := "bd55a6ac38a3dca21c2a5a09cc29bc45d86c8179f3fca1750c19efe381610b52", checked := Try.checked }
namespace Rows
def none {H : Type} : Left H := { results := [], args := [] }

/-- 'conchlaw13.AutoFinds': WHATEVER THE INPUT: true; the input reads as it did. -/
def autoFindsSpec : ChangeSpec := { name := "autoFinds", fn := fun _ => fun
  | [d1, d2, d3, d4, d5] => { results := [.lit (.bool true)], args := [d1, d2, d3, d4, d5] }
  | _ => none }
def autoFindsRow : OpenClaim := { program := "ytjjmoonajijnmaa", sum := "bd55a6ac38a3dca21c2a5a09cc29bc45d86c8179f3fca1750c19efe381610b52", func := "conch/conchlaw13.AutoFinds", spec := "autoFinds", unfollowed := true, recurses := true, plainKeys := false, apart := false }
def AutoFindsSaid : Prop := autoFindsRow.holds Try.pinned (OpenSpec.ofChange autoFindsSpec)

/-- ITS FALSE NEIGHBOUR: 'it returns false'. Refute it at one input. -/
def autoFindsWrong : ChangeSpec := { name := "autoFinds", fn := fun _ => fun
  | [d1, d2, d3, d4, d5] => { results := [.lit (.bool false)], args := [d1, d2, d3, d4, d5] }
  | _ => none }
def AutoFindsWrongFalsely : Prop := autoFindsRow.holds Try.pinned (OpenSpec.ofChange autoFindsWrong)

/-- 'conchlaw13.AutoEntered': WHATEVER THE INPUT: true; the input reads as it did. -/
def autoEnteredSpec : ChangeSpec := { name := "autoEntered", fn := fun _ => fun
  | [d] => { results := [.lit (.bool true)], args := [d] }
  | _ => none }
def autoEnteredRow : OpenClaim := { program := "ytjjmoonajijnmaa", sum := "bd55a6ac38a3dca21c2a5a09cc29bc45d86c8179f3fca1750c19efe381610b52", func := "conch/conchlaw13.AutoEntered", spec := "autoEntered", unfollowed := true, recurses := true, plainKeys := false, apart := false }
def AutoEnteredSaid : Prop := autoEnteredRow.holds Try.pinned (OpenSpec.ofChange autoEnteredSpec)

/-- ITS FALSE NEIGHBOUR: 'it returns false'. Refute it at one input. -/
def autoEnteredWrong : ChangeSpec := { name := "autoEntered", fn := fun _ => fun
  | [d] => { results := [.lit (.bool false)], args := [d] }
  | _ => none }
def AutoEnteredWrongFalsely : Prop := autoEnteredRow.holds Try.pinned (OpenSpec.ofChange autoEnteredWrong)

/-- 'conchlaw13.AutoSpells': WHATEVER THE INPUT: true; the input reads as it did. -/
def autoSpellsSpec : ChangeSpec := { name := "autoSpells", fn := fun _ => fun
  | [d] => { results := [.lit (.bool true)], args := [d] }
  | _ => none }
def autoSpellsRow : OpenClaim := { program := "ytjjmoonajijnmaa", sum := "bd55a6ac38a3dca21c2a5a09cc29bc45d86c8179f3fca1750c19efe381610b52", func := "conch/conchlaw13.AutoSpells", spec := "autoSpells", unfollowed := true, recurses := true, plainKeys := false, apart := false }
def AutoSpellsSaid : Prop := autoSpellsRow.holds Try.pinned (OpenSpec.ofChange autoSpellsSpec)

/-- ITS FALSE NEIGHBOUR: 'it returns false'. Refute it at one input. -/
def autoSpellsWrong : ChangeSpec := { name := "autoSpells", fn := fun _ => fun
  | [d] => { results := [.lit (.bool false)], args := [d] }
  | _ => none }
def AutoSpellsWrongFalsely : Prop := autoSpellsRow.holds Try.pinned (OpenSpec.ofChange autoSpellsWrong)

/- THE SECOND FORM. 'bulk': how many values and letters a reading holds, each counted each time it is reached (what is shared counts as often as it is met; a slice's spare places count too). A statement '..UptoSaid' is the law's where the arguments, and the package variables that the reading takes, are together of bulk at most 1048576: NARROWER than '..Said'. Prove '..Said' where nothing that the law and all that it calls make is longer than what came in: it says more and counts as full. Else prove '..UptoSaid'. A law counts once. -/
mutual
def uptoBulk {H : Type} : DataW H → Nat
  | .lit (.string bytes) => bytes.length + 1
  | .lit _ => 1
  | .nil => 1
  | .ptr d => uptoBulk d + 1
  | .slice elems spare => uptoBulkAll elems + uptoBulkAll spare + 1
  | .agg parts => uptoBulkAll parts + 1
  | .iface _ d => uptoBulk d + 1
  | .map entries => uptoBulkEntries entries + 1
  | .held _ => 1
def uptoBulkAll {H : Type} : List (DataW H) → Nat
  | [] => 0
  | d :: r => uptoBulk d + uptoBulkAll r
def uptoBulkEntries {H : Type} : List (Lit × DataW H) → Nat
  | [] => 0
  | x :: r => uptoBulkEntry x + uptoBulkEntries r
def uptoBulkEntry {H : Type} : Lit × DataW H → Nat
  | (.string bytes, d) => bytes.length + uptoBulk d + 1
  | (_, d) => uptoBulk d + 1
 end
def uptoSmall : (H : Type) → List (DataW H) → Bool := fun _ ds => decide (uptoBulkAll ds ≤ 1048576)
def OpenSpec.upto (s : _root_.Go.ChangeSpec) : _root_.Go.OpenSpec := { _root_.Go.OpenSpec.ofChange s with cond := some uptoSmall }

/-- 'conchlaw13.AutoFinds', WHERE WHAT IT READS IS OF BULK AT MOST 1048576: true; the input reads as it did. -/
def autoFindsUptoRow : OpenClaim := { program := "ytjjmoonajijnmaa", sum := "bd55a6ac38a3dca21c2a5a09cc29bc45d86c8179f3fca1750c19efe381610b52", func := "conch/conchlaw13.AutoFinds", spec := "autoFinds", unfollowed := true, recurses := true, plainKeys := false, apart := false, narrowed := true }
def AutoFindsUptoSaid : Prop := autoFindsUptoRow.holds Try.pinned (OpenSpec.upto autoFindsSpec)

/-- 'conchlaw13.AutoEntered', WHERE WHAT IT READS IS OF BULK AT MOST 1048576: true; the input reads as it did. -/
def autoEnteredUptoRow : OpenClaim := { program := "ytjjmoonajijnmaa", sum := "bd55a6ac38a3dca21c2a5a09cc29bc45d86c8179f3fca1750c19efe381610b52", func := "conch/conchlaw13.AutoEntered", spec := "autoEntered", unfollowed := true, recurses := true, plainKeys := false, apart := false, narrowed := true }
def AutoEnteredUptoSaid : Prop := autoEnteredUptoRow.holds Try.pinned (OpenSpec.upto autoEnteredSpec)

/-- 'conchlaw13.AutoSpells', WHERE WHAT IT READS IS OF BULK AT MOST 1048576: true; the input reads as it did. -/
def autoSpellsUptoRow : OpenClaim := { program := "ytjjmoonajijnmaa", sum := "bd55a6ac38a3dca21c2a5a09cc29bc45d86c8179f3fca1750c19efe381610b52", func := "conch/conchlaw13.AutoSpells", spec := "autoSpells", unfollowed := true, recurses := true, plainKeys := false, apart := false, narrowed := true }
def AutoSpellsUptoSaid : Prop := autoSpellsUptoRow.holds Try.pinned (OpenSpec.upto autoSpellsSpec)

end Rows
end Go.Proofs.Ytjjmoonajijnmaa
