/-
  A quoted token, by the plain answers of layer 5; a plain name, by both sides.
-/
import Derived.Test.YtoohnkffclkmhaaGramQuo
namespace Go.Proofs.Ytoohnkffclkmhaa.Gr
open Go.RowKit Go.Maps
set_option linter.unusedVariables false

/-- A number and a fault come back; nothing that was there is written. -/
def Faulty (n e x : Int) (w : World) (en : Ending) (w' : World) : Prop := en = .returned (.tuple #[.int .i64 n, .agg #[.int .i64 e, .int .i64 x]]) ∧ Below w.heap.size w w'
def SomeFault (w : World) (en : Ending) (w' : World) : Prop := ∃ e x : Int, (e == 0) = false ∧ Faulty 0 e x w en w'

theorem head_empty {s : ByteArray} (h : ¬ 0 < s.size) : headB s = false := by
  have : s.data.toList = [] := by
    have : s.data.toList.length = s.size := rfl
    exact List.eq_nil_of_length_eq_zero (by omega)
  unfold headB
  rw [this]; rfl
theorem empty_list {s : ByteArray} (h : ¬ 0 < s.size) : s.toList = [] := by
  rw [ByteArray.toList_eq]
  have : s.data.toList.length = s.size := rfl
  exact List.eq_nil_of_length_eq_zero (by omega)
theorem full_list {s : ByteArray} (h : 0 < s.size) : ¬ s.toList = [] := by
  rw [ByteArray.toList_eq]
  intro e
  have : s.data.toList.length = s.size := rfl
  rw [e] at this
  simp at this
  omega

/-! ### A plain name -/

theorem named_any (s : ByteArray) (w : World) (hs : s.size ≤ 140737488355328) : Calls Try.prog 50 #[.string s] w (Is (.bool (plnS s)) w) := by
  have N := Lib.hid (Ch.name_any s w)
  by_cases h : s.size ≤ 24
  · have E := Lib.hid (show plnS s = Ch.namB s.data.toList by simp [plnS, h])
    go_enter Try.func50, Try.ntmps50
    go_wp2_with (go_at_call 59; refine N.out.mono ?_; rintro e w' ⟨rfl, hb⟩; have HB := Lib.hid hb; clear hb)
    go_ret
    exact ⟨bool_of E.out, HB.out⟩
  · have E := Lib.hid (show plnS s = false by simp [plnS, h])
    go_enter Try.func50, Try.ntmps50
    go_wp2
    go_ret
    exact ⟨bool_of E.out, .refl _ _⟩

end Go.Proofs.Ytoohnkffclkmhaa.Gr
