/-
  Package least: total: how long the words of symbols are together. Condition: the list of symbols is within a machine's reach.
-/
import Derived.Test.YtoipinnfmjaaaaaGreatDoorLeastAt
import Derived.Test.YtoipinnfmjaaaaaGreatDoorMCheck
namespace Go.Proofs.YtoipinnfmjaaaaaGreatDoor.Le
open Go.RowKit Go.Maps
open Go.Proofs.YtoipinnfmjaaaaaGreatDoor.Gr (Gram Is step boxed cell_later drawn ivs iv int_at int_of bool_of)
set_option linter.unusedVariables false

def TotRel (T : Int → Ans) (l : List Int) (W : World) (m i : Value) (w : World) : Prop :=
  ∃ k n : Nat, k ≤ l.length ∧ i = .int .i64 k ∧ m = .int .i64 n ∧ SumTo T l k n ∧ Below W.heap.size W w

theorem min_of (n m : Nat) : Value.int .i64 (if (4097 : Int) < (n : Int) + (m : Int) then 4097 else (n : Int) + (m : Int)) = .int .i64 ((min (n + m) 4097 : Nat) : Int) := by
  congr 1
  split <;> omega
end Go.Proofs.YtoipinnfmjaaaaaGreatDoor.Le
