/-
  No cell of these rows narrows 'for every input' (looked for: loops, veiled, ifaces, maps, wideKeys, modest, calm, conditions, laid).
  DERIVED. THE GIVEN ROWS OF THIS SEAT. 3 by the template 'for every input the law returns true; each argument reads behind the call as it read before'; 0 by the template 'total and deterministic' (their statements: YtpfokebbpbigdaaTotals.lean).
  GIVEN WITH THE SEED: the statements are not yours to turn. If you find one false, say at which input.
  Laid BY PROGRAM, IN A SANDBOX (cutbox-rows.mjs): the forced cells as the released guide's own fill.sh prints them over the translation fec676d3833b1b0d… (all of the seat's roots in one cut). By AI agents, Wed Nov 11 2026. No macro, syntax, notation, axiom, sorry.
-/
import Derived.Test.YtpfokebbpbigdaaChecked
import GoSem.Claim
import GoSem.ClaimJoined
import GoSem.ClaimMapViews
import Derived.JoinedTies
import Derived.KernelRfl
namespace Go.Proofs.Ytpfokebbpbigdaa
/- THE CELL 'sum', in the pinned program and in every row, IS THE sha256 OF THE DUMP (.gsa) THAT YtpfokebbpbigdaaProg.lean LOADS. Nothing in Lean hashes anything: it is a label: what it is worth is what the hold of that sum in a sandbox is worth. -/
noncomputable def Try.pinned : Pinned := { name := "ytpfokebbpbigdaa", sum := "fec676d3833b1b0d477c6738feacc56740d245f11b15f488086296389eeb7d56", checked := Try.checked }
namespace Rows
def none {H : Type} : Left H := { results := [], args := [] }

/-- 'conchlaw10.LeastTells': WHATEVER THE INPUT: true; the input reads as it did. -/
def leastTellsSpec : ChangeSpec := { name := "leastTells", fn := fun _ => fun
  | [d1, d2] => { results := [.lit (.bool true)], args := [d1, d2] }
  | _ => none }
def leastTellsRow : OpenClaim := { program := "ytpfokebbpbigdaa", sum := "fec676d3833b1b0d477c6738feacc56740d245f11b15f488086296389eeb7d56", func := "conch/conchlaw10.LeastTells", spec := "leastTells", unfollowed := true, recurses := true, apart := false }
def LeastTellsSaid : Prop := leastTellsRow.holds Try.pinned (OpenSpec.ofChange leastTellsSpec)

/-- ITS FALSE NEIGHBOUR: 'it returns false'. Refute it at one input. -/
def leastTellsWrong : ChangeSpec := { name := "leastTells", fn := fun _ => fun
  | [d1, d2] => { results := [.lit (.bool false)], args := [d1, d2] }
  | _ => none }
def LeastTellsWrongFalsely : Prop := leastTellsRow.holds Try.pinned (OpenSpec.ofChange leastTellsWrong)

/-- 'conchlaw10.LeastRules': WHATEVER THE INPUT: true; the input reads as it did. -/
def leastRulesSpec : ChangeSpec := { name := "leastRules", fn := fun _ => fun
  | [d] => { results := [.lit (.bool true)], args := [d] }
  | _ => none }
def leastRulesRow : OpenClaim := { program := "ytpfokebbpbigdaa", sum := "fec676d3833b1b0d477c6738feacc56740d245f11b15f488086296389eeb7d56", func := "conch/conchlaw10.LeastRules", spec := "leastRules", unfollowed := true, recurses := true, apart := false }
def LeastRulesSaid : Prop := leastRulesRow.holds Try.pinned (OpenSpec.ofChange leastRulesSpec)

/-- ITS FALSE NEIGHBOUR: 'it returns false'. Refute it at one input. -/
def leastRulesWrong : ChangeSpec := { name := "leastRules", fn := fun _ => fun
  | [d] => { results := [.lit (.bool false)], args := [d] }
  | _ => none }
def LeastRulesWrongFalsely : Prop := leastRulesRow.holds Try.pinned (OpenSpec.ofChange leastRulesWrong)

/-- 'conchlaw10.LeastLong': WHATEVER THE INPUT: true; the input reads as it did. -/
def leastLongSpec : ChangeSpec := { name := "leastLong", fn := fun _ => fun
  | [d1, d2] => { results := [.lit (.bool true)], args := [d1, d2] }
  | _ => none }
def leastLongRow : OpenClaim := { program := "ytpfokebbpbigdaa", sum := "fec676d3833b1b0d477c6738feacc56740d245f11b15f488086296389eeb7d56", func := "conch/conchlaw10.LeastLong", spec := "leastLong", unfollowed := true, recurses := true, apart := false }
def LeastLongSaid : Prop := leastLongRow.holds Try.pinned (OpenSpec.ofChange leastLongSpec)

/-- ITS FALSE NEIGHBOUR: 'it returns false'. Refute it at one input. -/
def leastLongWrong : ChangeSpec := { name := "leastLong", fn := fun _ => fun
  | [d1, d2] => { results := [.lit (.bool false)], args := [d1, d2] }
  | _ => none }
def LeastLongWrongFalsely : Prop := leastLongRow.holds Try.pinned (OpenSpec.ofChange leastLongWrong)

/- THE SECOND FORM. 'bulk': how many values and letters a reading holds, each counted each time it is reached (what is shared counts as often as it is met; a slice's spare places count too). A statement '..UptoSaid' is the law's where the arguments, and the package variables that the reading takes, are together of bulk at most 1048576: NARROWER than '..Said'. Prove '..Said' where nothing that the law and all that it calls make is longer than what came in: it says more and counts as full. Else prove '..UptoSaid'. A law counts once. -/
mutual
def uptoBulk {H : Type} : DataW H → Nat
  | .lit (.string bytes) => bytes.length + 1
  | .lit _ => 1
  | .nil => 1
  | .ptr d => uptoBulk d + 1
  | .slice elems spare => uptoBulkAll elems + uptoBulkAll spare + 1
  | .agg parts => uptoBulkAll parts + 1
  | .iface _ d => uptoBulk d + 1
  | .map entries => uptoBulkEntries entries + 1
  | .held _ => 1
def uptoBulkAll {H : Type} : List (DataW H) → Nat
  | [] => 0
  | d :: r => uptoBulk d + uptoBulkAll r
def uptoBulkEntries {H : Type} : List (Lit × DataW H) → Nat
  | [] => 0
  | x :: r => uptoBulkEntry x + uptoBulkEntries r
def uptoBulkEntry {H : Type} : Lit × DataW H → Nat
  | (.string bytes, d) => bytes.length + uptoBulk d + 1
  | (_, d) => uptoBulk d + 1
 end
def uptoSmall : (H : Type) → List (DataW H) → Bool := fun _ ds => decide (uptoBulkAll ds ≤ 1048576)
def OpenSpec.upto (s : _root_.Go.ChangeSpec) : _root_.Go.OpenSpec := { _root_.Go.OpenSpec.ofChange s with cond := some uptoSmall }

/-- 'conchlaw10.LeastTells', WHERE WHAT IT READS IS OF BULK AT MOST 1048576: true; the input reads as it did. -/
def leastTellsUptoRow : OpenClaim := { program := "ytpfokebbpbigdaa", sum := "fec676d3833b1b0d477c6738feacc56740d245f11b15f488086296389eeb7d56", func := "conch/conchlaw10.LeastTells", spec := "leastTells", unfollowed := true, recurses := true, apart := false, narrowed := true }
def LeastTellsUptoSaid : Prop := leastTellsUptoRow.holds Try.pinned (OpenSpec.upto leastTellsSpec)

/-- 'conchlaw10.LeastRules', WHERE WHAT IT READS IS OF BULK AT MOST 1048576: true; the input reads as it did. -/
def leastRulesUptoRow : OpenClaim := { program := "ytpfokebbpbigdaa", sum := "fec676d3833b1b0d477c6738feacc56740d245f11b15f488086296389eeb7d56", func := "conch/conchlaw10.LeastRules", spec := "leastRules", unfollowed := true, recurses := true, apart := false, narrowed := true }
def LeastRulesUptoSaid : Prop := leastRulesUptoRow.holds Try.pinned (OpenSpec.upto leastRulesSpec)

/-- 'conchlaw10.LeastLong', WHERE WHAT IT READS IS OF BULK AT MOST 1048576: true; the input reads as it did. -/
def leastLongUptoRow : OpenClaim := { program := "ytpfokebbpbigdaa", sum := "fec676d3833b1b0d477c6738feacc56740d245f11b15f488086296389eeb7d56", func := "conch/conchlaw10.LeastLong", spec := "leastLong", unfollowed := true, recurses := true, apart := false, narrowed := true }
def LeastLongUptoSaid : Prop := leastLongUptoRow.holds Try.pinned (OpenSpec.upto leastLongSpec)

end Rows
end Go.Proofs.Ytpfokebbpbigdaa
