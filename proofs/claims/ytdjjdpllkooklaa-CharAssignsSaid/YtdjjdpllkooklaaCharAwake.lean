/-
  What the statements of layer 1 ask besides, 'the program computes at all', is true; and the walk of each of the three statements: for every byte and every string it answers true and writes nothing that was there. No condition but that a string fits a machine.
-/
import Derived.Test.YtdjjdpllkooklaaCharRef
namespace Go.Proofs.Ytdjjdpllkooklaa.Ch
open Go.RowKit

def Yes (w : World) (e : Ending) (w' : World) : Prop := e = .returned (.bool true) ∧ Below w.heap.size w w'

set_option maxHeartbeats 1000000 in
set_option maxRecDepth 100000 in
theorem awake_any (w : World) : Calls Try.prog 6 #[] w (Yes w) := by
  have c1 : cls 97 = 4 := by decide
  have n1 : namB [97, 49] = true := by decide
  have d1 : digB [49, 50] = true := by decide
  have p1 : plaB [97, 61, 98] = true := by decide
  have s1 : spc 64 = true := by decide
  have a1 : asg [97, 61, 98] = 1 := by decide
  go_enter Try.func6, Try.ntmps6
  go_wp2_with (first | (go_at_call 7; refine (class_any _ _ ?_ ?_).mono ?_; omega; omega; rintro e w' ⟨rfl, rfl⟩) | (go_at_call 11; refine (name_any _ _).mono ?_; rintro e w1 ⟨rfl, hb1⟩) | (go_at_call 13; refine (digits_any _ _).mono ?_; rintro e w2 ⟨rfl, hb2⟩) | (go_at_call 15; refine (plain_any _ _).mono ?_; rintro e w3 ⟨rfl, hb3⟩) | (go_at_call 9; refine (special_any _ _).mono ?_; rintro e w' ⟨rfl, rfl⟩) | (go_at_call 17; refine (assign_any _ _).mono ?_; rintro e w4 ⟨rfl, hb4⟩))
  go_ret
  exact ⟨rfl, ((hb1.trans (hb2.mono hb1.size)).trans (hb3.mono (hb1.trans (hb2.mono hb1.size)).size)).trans (hb4.mono ((hb1.trans (hb2.mono hb1.size)).trans (hb3.mono (hb1.trans (hb2.mono hb1.size)).size)).size)⟩

end Go.Proofs.Ytdjjdpllkooklaa.Ch
