/-
  NARROWER THAN 'FOR EVERY INPUT', by the rows' own cells (each row's printed sentence says how): PackPacks: laid · TabsBytes: laid · TabsReads: laid · TabsCut: laid.
  DERIVED. THE GIVEN ROWS OF THIS SEAT. 4 by the template 'for every input the law returns true; each argument reads behind the call as it read before'; 0 by the template 'total and deterministic' (their statements: YtegeamggbglneaaGreatDoorTotals.lean).
  GIVEN WITH THE SEED: the statements are not yours to turn. If you find one false, say at which input.
  Laid BY PROGRAM, IN A SANDBOX (cutbox-rows.mjs): the forced cells as the released guide's own fill.sh prints them over the translation f1e34596a69491c0… (all of the seat's roots in one cut). By AI agents, Wed Nov 11 2026. No macro, syntax, notation, axiom, sorry.
-/
import Derived.Test.YtegeamggbglneaaGreatDoorChecked
import GoSem.Claim
import GoSem.ClaimJoined
import GoSem.ClaimMapViews
import Derived.JoinedTies
import Derived.KernelRfl
namespace Go.Proofs.YtegeamggbglneaaGreatDoor
/- THE CELL 'sum', in the pinned program and in every row, IS THE sha256 OF THE DUMP (.gsa) THAT YtegeamggbglneaaGreatDoorProg.lean LOADS. Nothing in Lean hashes anything: it is a label: what it is worth is what the hold of that sum in a sandbox is worth. -/
noncomputable def Tryz.pinned : Pinned := { name := "ytegeamggbglneaagreatdoor", sum := "f1e34596a69491c0a8b7b18bcd0561e4b2bc83804820f3d3143f840df8c30bc7", checked := Tryz.checked }
namespace Rows
def none {H : Type} : Left H := { results := [], args := [] }

/- WHAT THE LISTED PACKAGE-LEVEL VARIABLES READ AS WHEN THE CALL BEGINS. Each datum BY PROGRAM (the guide's laid-datum.mjs) off the statement by which the dump's own 'gosem.cut.vars' lays the variable. In a bare row this is a premise. The card (YtegeamggbglneaaGreatDoorCards.lean) ties it to the program's text. -/
def laid_math_bits_deBruijn64tab {H : Type} : DataW H := .agg [.lit (.int .u8 0), .lit (.int .u8 1), .lit (.int .u8 56), .lit (.int .u8 2), .lit (.int .u8 57), .lit (.int .u8 49), .lit (.int .u8 28), .lit (.int .u8 3), .lit (.int .u8 61), .lit (.int .u8 58), .lit (.int .u8 42), .lit (.int .u8 50), .lit (.int .u8 38), .lit (.int .u8 29), .lit (.int .u8 17), .lit (.int .u8 4), .lit (.int .u8 62), .lit (.int .u8 47), .lit (.int .u8 59), .lit (.int .u8 36), .lit (.int .u8 45), .lit (.int .u8 43), .lit (.int .u8 51), .lit (.int .u8 22), .lit (.int .u8 53), .lit (.int .u8 39), .lit (.int .u8 33), .lit (.int .u8 30), .lit (.int .u8 24), .lit (.int .u8 18), .lit (.int .u8 12), .lit (.int .u8 5), .lit (.int .u8 63), .lit (.int .u8 55), .lit (.int .u8 48), .lit (.int .u8 27), .lit (.int .u8 60), .lit (.int .u8 41), .lit (.int .u8 37), .lit (.int .u8 16), .lit (.int .u8 46), .lit (.int .u8 35), .lit (.int .u8 44), .lit (.int .u8 21), .lit (.int .u8 52), .lit (.int .u8 32), .lit (.int .u8 23), .lit (.int .u8 11), .lit (.int .u8 54), .lit (.int .u8 26), .lit (.int .u8 40), .lit (.int .u8 15), .lit (.int .u8 34), .lit (.int .u8 20), .lit (.int .u8 31), .lit (.int .u8 10), .lit (.int .u8 25), .lit (.int .u8 14), .lit (.int .u8 19), .lit (.int .u8 9), .lit (.int .u8 13), .lit (.int .u8 8), .lit (.int .u8 7), .lit (.int .u8 6)]

/-- 'conchlaw17.PackPacks': WHATEVER THE INPUT: true; the input reads as it did. -/
def packPacksSpec : ChangeSpec := { name := "packPacks", fn := fun _ => fun
  | [d] => { results := [.lit (.bool true)], args := [d] }
  | _ => none }
def packPacksRow : OpenClaim := { program := "ytegeamggbglneaagreatdoor", sum := "f1e34596a69491c0a8b7b18bcd0561e4b2bc83804820f3d3143f840df8c30bc7", func := "conch/conchlaw17.PackPacks", spec := "packPacks", inPlace := ["slices.overlaps[conch/api.Look]"], unfollowed := true, recurses := true, named := ["math/bits.deBruijn64tab"], plainKeys := false, apart := false, laid := [("math/bits.deBruijn64tab", laid_math_bits_deBruijn64tab)] }
def PackPacksSaid : Prop := packPacksRow.holds Tryz.pinned (OpenSpec.ofChange packPacksSpec)

/-- ITS FALSE NEIGHBOUR: 'it returns false'. Refute it at one input. -/
def packPacksWrong : ChangeSpec := { name := "packPacks", fn := fun _ => fun
  | [d] => { results := [.lit (.bool false)], args := [d] }
  | _ => none }
def PackPacksWrongFalsely : Prop := packPacksRow.holds Tryz.pinned (OpenSpec.ofChange packPacksWrong)

/-- 'conchlaw18.TabsBytes': WHATEVER THE INPUT: true; the input reads as it did. -/
def tabsBytesSpec : ChangeSpec := { name := "tabsBytes", fn := fun _ => fun
  | [d] => { results := [.lit (.bool true)], args := [d] }
  | _ => none }
def tabsBytesRow : OpenClaim := { program := "ytegeamggbglneaagreatdoor", sum := "f1e34596a69491c0a8b7b18bcd0561e4b2bc83804820f3d3143f840df8c30bc7", func := "conch/conchlaw18.TabsBytes", spec := "tabsBytes", inPlace := ["slices.overlaps[conch/api.Look]"], unfollowed := true, recurses := true, named := ["math/bits.deBruijn64tab"], plainKeys := false, apart := false, laid := [("math/bits.deBruijn64tab", laid_math_bits_deBruijn64tab)] }
def TabsBytesSaid : Prop := tabsBytesRow.holds Tryz.pinned (OpenSpec.ofChange tabsBytesSpec)

/-- ITS FALSE NEIGHBOUR: 'it returns false'. Refute it at one input. -/
def tabsBytesWrong : ChangeSpec := { name := "tabsBytes", fn := fun _ => fun
  | [d] => { results := [.lit (.bool false)], args := [d] }
  | _ => none }
def TabsBytesWrongFalsely : Prop := tabsBytesRow.holds Tryz.pinned (OpenSpec.ofChange tabsBytesWrong)

/-- 'conchlaw18.TabsReads': WHATEVER THE INPUT: true; the input reads as it did. -/
def tabsReadsSpec : ChangeSpec := { name := "tabsReads", fn := fun _ => fun
  | [d] => { results := [.lit (.bool true)], args := [d] }
  | _ => none }
def tabsReadsRow : OpenClaim := { program := "ytegeamggbglneaagreatdoor", sum := "f1e34596a69491c0a8b7b18bcd0561e4b2bc83804820f3d3143f840df8c30bc7", func := "conch/conchlaw18.TabsReads", spec := "tabsReads", inPlace := ["slices.overlaps[conch/api.Look]"], unfollowed := true, recurses := true, named := ["math/bits.deBruijn64tab"], plainKeys := false, apart := false, laid := [("math/bits.deBruijn64tab", laid_math_bits_deBruijn64tab)] }
def TabsReadsSaid : Prop := tabsReadsRow.holds Tryz.pinned (OpenSpec.ofChange tabsReadsSpec)

/-- ITS FALSE NEIGHBOUR: 'it returns false'. Refute it at one input. -/
def tabsReadsWrong : ChangeSpec := { name := "tabsReads", fn := fun _ => fun
  | [d] => { results := [.lit (.bool false)], args := [d] }
  | _ => none }
def TabsReadsWrongFalsely : Prop := tabsReadsRow.holds Tryz.pinned (OpenSpec.ofChange tabsReadsWrong)

/-- 'conchlaw18.TabsCut': WHATEVER THE INPUT: true; the input reads as it did. -/
def tabsCutSpec : ChangeSpec := { name := "tabsCut", fn := fun _ => fun
  | [d1, d2, d3] => { results := [.lit (.bool true)], args := [d1, d2, d3] }
  | _ => none }
def tabsCutRow : OpenClaim := { program := "ytegeamggbglneaagreatdoor", sum := "f1e34596a69491c0a8b7b18bcd0561e4b2bc83804820f3d3143f840df8c30bc7", func := "conch/conchlaw18.TabsCut", spec := "tabsCut", inPlace := ["slices.overlaps[conch/api.Look]"], unfollowed := true, recurses := true, named := ["math/bits.deBruijn64tab"], plainKeys := false, apart := false, laid := [("math/bits.deBruijn64tab", laid_math_bits_deBruijn64tab)] }
def TabsCutSaid : Prop := tabsCutRow.holds Tryz.pinned (OpenSpec.ofChange tabsCutSpec)

/-- ITS FALSE NEIGHBOUR: 'it returns false'. Refute it at one input. -/
def tabsCutWrong : ChangeSpec := { name := "tabsCut", fn := fun _ => fun
  | [d1, d2, d3] => { results := [.lit (.bool false)], args := [d1, d2, d3] }
  | _ => none }
def TabsCutWrongFalsely : Prop := tabsCutRow.holds Tryz.pinned (OpenSpec.ofChange tabsCutWrong)

/- THE SECOND FORM. 'bulk': how many values and letters a reading holds, each counted each time it is reached (what is shared counts as often as it is met; a slice's spare places count too). A statement '..UptoSaid' is the law's where the arguments, and the package variables that the reading takes, are together of bulk at most 1048576: NARROWER than '..Said'. Prove '..Said' where nothing that the law and all that it calls make is longer than what came in: it says more and counts as full. Else prove '..UptoSaid'. A law counts once. -/
mutual
def uptoBulk {H : Type} : DataW H → Nat
  | .lit (.string bytes) => bytes.length + 1
  | .lit _ => 1
  | .nil => 1
  | .ptr d => uptoBulk d + 1
  | .slice elems spare => uptoBulkAll elems + uptoBulkAll spare + 1
  | .agg parts => uptoBulkAll parts + 1
  | .iface _ d => uptoBulk d + 1
  | .map entries => uptoBulkEntries entries + 1
  | .held _ => 1
def uptoBulkAll {H : Type} : List (DataW H) → Nat
  | [] => 0
  | d :: r => uptoBulk d + uptoBulkAll r
def uptoBulkEntries {H : Type} : List (Lit × DataW H) → Nat
  | [] => 0
  | x :: r => uptoBulkEntry x + uptoBulkEntries r
def uptoBulkEntry {H : Type} : Lit × DataW H → Nat
  | (.string bytes, d) => bytes.length + uptoBulk d + 1
  | (_, d) => uptoBulk d + 1
 end
def uptoSmall : (H : Type) → List (DataW H) → Bool := fun _ ds => decide (uptoBulkAll ds ≤ 1048576)
def OpenSpec.upto (s : _root_.Go.ChangeSpec) : _root_.Go.OpenSpec := { _root_.Go.OpenSpec.ofChange s with cond := some uptoSmall }

/-- 'conchlaw17.PackPacks', WHERE WHAT IT READS IS OF BULK AT MOST 1048576: true; the input reads as it did. -/
def packPacksUptoRow : OpenClaim := { program := "ytegeamggbglneaagreatdoor", sum := "f1e34596a69491c0a8b7b18bcd0561e4b2bc83804820f3d3143f840df8c30bc7", func := "conch/conchlaw17.PackPacks", spec := "packPacks", inPlace := ["slices.overlaps[conch/api.Look]"], unfollowed := true, recurses := true, named := ["math/bits.deBruijn64tab"], plainKeys := false, apart := false, laid := [("math/bits.deBruijn64tab", laid_math_bits_deBruijn64tab)], narrowed := true }
def PackPacksUptoSaid : Prop := packPacksUptoRow.holds Tryz.pinned (OpenSpec.upto packPacksSpec)

/-- 'conchlaw18.TabsBytes', WHERE WHAT IT READS IS OF BULK AT MOST 1048576: true; the input reads as it did. -/
def tabsBytesUptoRow : OpenClaim := { program := "ytegeamggbglneaagreatdoor", sum := "f1e34596a69491c0a8b7b18bcd0561e4b2bc83804820f3d3143f840df8c30bc7", func := "conch/conchlaw18.TabsBytes", spec := "tabsBytes", inPlace := ["slices.overlaps[conch/api.Look]"], unfollowed := true, recurses := true, named := ["math/bits.deBruijn64tab"], plainKeys := false, apart := false, laid := [("math/bits.deBruijn64tab", laid_math_bits_deBruijn64tab)], narrowed := true }
def TabsBytesUptoSaid : Prop := tabsBytesUptoRow.holds Tryz.pinned (OpenSpec.upto tabsBytesSpec)

/-- 'conchlaw18.TabsReads', WHERE WHAT IT READS IS OF BULK AT MOST 1048576: true; the input reads as it did. -/
def tabsReadsUptoRow : OpenClaim := { program := "ytegeamggbglneaagreatdoor", sum := "f1e34596a69491c0a8b7b18bcd0561e4b2bc83804820f3d3143f840df8c30bc7", func := "conch/conchlaw18.TabsReads", spec := "tabsReads", inPlace := ["slices.overlaps[conch/api.Look]"], unfollowed := true, recurses := true, named := ["math/bits.deBruijn64tab"], plainKeys := false, apart := false, laid := [("math/bits.deBruijn64tab", laid_math_bits_deBruijn64tab)], narrowed := true }
def TabsReadsUptoSaid : Prop := tabsReadsUptoRow.holds Tryz.pinned (OpenSpec.upto tabsReadsSpec)

/-- 'conchlaw18.TabsCut', WHERE WHAT IT READS IS OF BULK AT MOST 1048576: true; the input reads as it did. -/
def tabsCutUptoRow : OpenClaim := { program := "ytegeamggbglneaagreatdoor", sum := "f1e34596a69491c0a8b7b18bcd0561e4b2bc83804820f3d3143f840df8c30bc7", func := "conch/conchlaw18.TabsCut", spec := "tabsCut", inPlace := ["slices.overlaps[conch/api.Look]"], unfollowed := true, recurses := true, named := ["math/bits.deBruijn64tab"], plainKeys := false, apart := false, laid := [("math/bits.deBruijn64tab", laid_math_bits_deBruijn64tab)], narrowed := true }
def TabsCutUptoSaid : Prop := tabsCutUptoRow.holds Tryz.pinned (OpenSpec.upto tabsCutSpec)

end Rows
end Go.Proofs.YtegeamggbglneaaGreatDoor
