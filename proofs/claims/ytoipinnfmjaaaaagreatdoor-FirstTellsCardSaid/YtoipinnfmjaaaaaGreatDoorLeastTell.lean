/-
  Package least: Line, Word, Length. Condition: a list of symbols is within a machine's reach.
-/
import Derived.Test.YtoipinnfmjaaaaaGreatDoorLeastJoin
import Derived.Deep.QuietTactic
import Derived.BigQuiet
namespace Go.Proofs.YtoipinnfmjaaaaaGreatDoor.Le
open Go.RowKit Go.Maps
open Go.Proofs.YtoipinnfmjaaaaaGreatDoor.Gr (Gram Is step boxed cell_later drawn ivs iv int_at int_of bool_of)
open Go.Proofs.YtoipinnfmjaaaaaGreatDoor.Rw (Bk IntsV row_shape)
set_option linter.unusedVariables false

/-- What Line answers. -/
def lineA (nl : Bool) (T : Int → Ans) (l : List Int) : Ans := if nl = true then .none else J T l
/-- A list and a yes or no come back; nothing that was there is written. -/
def Lined (a : Ans) (w : World) (e : Ending) (w' : World) : Prop :=
  ∃ ad c, e = .returned (.tuple #[.slice ad (wordA a).length c, .bool (isA a)]) ∧ Sep.Reads ad (ivs (wordA a)) w' ∧ Below w.heap.size w w'
theorem line_one {nl : Bool} {v : Value} {T : Int → Ans} {w : World} (h : VAt nl v T w) (s : Int) : lineA nl T [s] = T s := by
  rcases h with ⟨rfl, _, rfl⟩ | ⟨rfl, p, q, n, _, h⟩
  · rfl
  · unfold lineA
    rw [if_neg (by decide)]
    exact join_one' h.ok.bnd s
theorem reads_one (w : World) (s : Int) : Sep.Reads (some ⟨w.heap.size, 0, none⟩) (ivs [s]) (w.alloc (.cells #[.int .i64 s] 3)) := fun i hi => by
  have : i = 0 := by simp [ivs] at hi; omega
  subst this
  exact ⟨w.heap.size, 0, rfl, (Bk.new w #[.int .i64 s] 3 _ rfl).cell rfl⟩

theorem tuple_of {v : Value} {x r : Bool} (h : x = r) : Ending.returned (.tuple #[v, .bool r]) = .returned (.tuple #[v, .bool x]) := by rw [h]
theorem drawnN (w : World) (n : Nat) : Below w.heap.size w (w.drewN n) := ⟨rfl, rfl, rfl, Nat.le_refl _, fun _ _ => rfl⟩
end Go.Proofs.YtoipinnfmjaaaaaGreatDoor.Le
