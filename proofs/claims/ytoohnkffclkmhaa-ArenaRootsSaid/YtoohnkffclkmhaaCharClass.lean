/-
  What package char answers of one byte: its class, whether it names a special parameter, and what the program's tests on classes say; nothing is written. No condition but that a byte is one.
-/
import Derived.Test.YtoohnkffclkmhaaRows
import Derived.Test.YtoohnkffclkmhaaCharPlain
import Derived.WalkKit
import Derived.ProofKit
import Derived.Below
import Derived.Deep.Light
import Derived.Outline
namespace Go.Proofs.Ytoohnkffclkmhaa.Ch
open Go.RowKit

theorem int_of {x r : Int} (h : x = r) : Ending.returned (.int .i64 r) = .returned (.int .i64 x) := by rw [h]
theorem bool_of {x r : Bool} (h : x = r) : Ending.returned (.bool r) = .returned (.bool x) := by rw [h]

set_option maxHeartbeats 2000000 in
set_option maxRecDepth 100000 in
theorem class_any (x : Int) (w : World) (h0 : 0 ≤ x) (h1 : x ≤ 255) :
    Calls Try.prog 66 #[.int .u8 x] w fun e w' => e = .returned (.int .i64 (cls x)) ∧ w = w' := by
  go_enter Try.func66, Try.ntmps66
  go_wp2
  all_goals
    go_ret
    refine ⟨int_of ?_, rfl⟩
    go_light
    simp only [beq_iff_eq, beq_eq_false_iff_ne, ne_eq] at *
    unfold cls
    repeat' split
    all_goals omega

theorem inName_any (k : Int) (w : World) :
    Calls Try.prog 65 #[.int .i64 k] w fun e w' => e = .returned (.bool (inN k)) ∧ w = w' := by
  go_enter Try.func65, Try.ntmps65
  go_wp2
  all_goals
    go_ret
    exact ⟨bool_of (by simp_all [inN]), rfl⟩

theorem classOf_any (r : Int) (w : World) (h0 : 0 ≤ r) (h1 : r ≤ 2147483647) :
    Calls Try.prog 72 #[.int .i32 r] w fun e w' => e = .returned (.int .i64 (clsR r)) ∧ w = w' := by
  by_cases h : 127 < r
  · go_enter Try.func72, Try.ntmps72
    go_wp2
    go_ret
    exact ⟨int_of (by unfold clsR; rw [if_pos h]), rfl⟩
  · go_enter Try.func72, Try.ntmps72
    go_wp2_with (go_at_call 66; refine (class_any _ _ ?_ ?_).mono ?_; exact h0; omega; rintro e w' ⟨rfl, rfl⟩)
    go_ret
    exact ⟨int_of (by unfold clsR; rw [if_neg (by omega)]), rfl⟩
end Go.Proofs.Ytoohnkffclkmhaa.Ch
