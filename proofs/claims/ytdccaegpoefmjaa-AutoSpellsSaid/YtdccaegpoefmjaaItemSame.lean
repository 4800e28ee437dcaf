/-
  The plain answers: Same: are two lists of items the same?
-/
import Derived.Test.YtdccaegpoefmjaaItemLeaf
import Derived.Test.YtdccaegpoefmjaaItemAt
namespace Go.Proofs.Ytdccaegpoefmjaa.Im
open Go.RowKit Go.Maps
open Go.Proofs.Ytdccaegpoefmjaa.Gr (boxed drawn cell_new cell_old cell_later bool_of)
set_option linter.unusedVariables false

/-- The same item? -/
def eqB (x y : Itm) : Bool := decide (x = y)
theorem eqB_iff {x y : Itm} : eqB x y = true ↔ x = y := decide_eq_true_iff
theorem fieldsI : Try.prog.underlying 47 = some (.struct (Try.prog.fieldsOf 47)) := by kernel_rfl
theorem equal_items (a b c d : Int) (w : World) : (Op.equalIn 10000 47 (.agg #[.int .i64 a, .int .i64 b]) (.agg #[.int .i64 c, .int .i64 d])).run Try.prog w = .ok (eqB (a, b) (c, d)) w := by
  unfold eqB
  rw [show (10000 : Nat) = 9999 + 1 from rfl, run_equalIn_agg w 9999 47 _ _ fieldsI Try.stoodInHeld47]
  have u3 := Try.underlying3
  have a3 := Try.isAgg3
  have z3 := Try.sizeOf3
  simp only [Program.fieldsOf, Try.underlying47]
  go_simp
  by_cases h1 : a = c <;> by_cases h2 : b = d <;> simp [h1, h2]
theorem eq_items (a b c d : Int) (w : World) : (binOp .eql 47 (.agg #[.int .i64 a, .int .i64 b]) (.agg #[.int .i64 c, .int .i64 d])).run Try.prog w = .ok (.bool (eqB (a, b) (c, d))) w := by
  rw [run_eql_struct, equal_items]
  rfl
theorem ne_items (a b c d : Int) (w : World) : (binOp .neq 47 (.agg #[.int .i64 a, .int .i64 b]) (.agg #[.int .i64 c, .int .i64 d])).run Try.prog w = .ok (.bool (!eqB (a, b) (c, d))) w := by
  rw [run_neq_struct, equal_items]
  rfl

/-- The first j are the same. -/
def SameTo (X Y : List Itm) (j : Nat) : Prop := ∀ i (h : i < X.length) (k : i < Y.length), i < j → X[i] = Y[i]
theorem same_all {X Y : List Itm} (hl : X.length = Y.length) (h : SameTo X Y X.length) : X = Y := List.ext_getElem hl fun i h1 h2 => h i h1 h2 h1

end Go.Proofs.Ytdccaegpoefmjaa.Im
