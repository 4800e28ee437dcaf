/-
  Package least: join: the words of symbols as one. Condition: the list of symbols is within a machine's reach.
-/
import Derived.Test.YtoipinnfmjaaaaaGreatDoorLeastTotal
namespace Go.Proofs.YtoipinnfmjaaaaaGreatDoor.Le
open Go.RowKit Go.Maps
open Go.Proofs.YtoipinnfmjaaaaaGreatDoor.Gr (Gram Is step boxed cell_later drawn ivs iv int_at int_of bool_of info_int step_append_src ivs_length New)
open Go.Proofs.YtoipinnfmjaaaaaGreatDoor.Rw (Bk IntsV row_shape)
set_option linter.unusedVariables false

/-- make of no numbers, with room. -/
theorem make_room (n : Nat) (hn : n ≤ 4096) (w : World) :
    (Instr.makeSlice 26 (.int .i64 0) (.int .i64 (n : Int))).run Tryz.prog w = .ok (.slice (some ⟨w.heap.size, 0, none⟩) 0 n) (w.alloc (.cells (madeCells #[.int .i64 0] n) 3)) := by
  obtain ⟨i0, hi, hz0, hz1, hz2⟩ := info_parts info_int
  have hr := run_make (P := Tryz.prog) w 26 3 i0 (.int .i64 0) Tryz.underlying26 hi hz0 .i64 .i64 0 (n : Int) (Int.le_refl _) (by omega) (by rw [hz2]; omega) (by omega)
  simp only [Int.toNat_zero, Int.toNat_natCast, hz1, Nat.mul_one] at hr
  exact hr

/-- A word comes back, its numbers in blocks of the call's own; nothing that was there is written. -/
def Joined (a : Ans) (w : World) (e : Ending) (w' : World) : Prop :=
  ∃ ad c, e = .returned (.agg #[.int .i64 (lenA a : Int), .slice ad (wordA a).length c]) ∧ Sep.Reads ad (ivs (wordA a)) w' ∧ New ad w ∧ Below w.heap.size w w'

end Go.Proofs.YtoipinnfmjaaaaaGreatDoor.Le
