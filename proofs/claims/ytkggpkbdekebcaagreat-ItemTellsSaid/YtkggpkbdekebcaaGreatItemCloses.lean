/-
  The walk of the statement on closures of closures. No condition.
-/
import Derived.Test.YtkggpkbdekebcaaGreatItemAwake
import Derived.Test.YtkggpkbdekebcaaGreatItemSame
import Derived.Test.YtkggpkbdekebcaaGreatGramMuch
namespace Go.Proofs.YtkggpkbdekebcaaGreat.Im
open Go.RowKit Go.Maps
open Go.Proofs.YtkggpkbdekebcaaGreat.Gr (Gram Sh gv GAt Bx boxed drawn checkN much_any rcheck_any cell_new cell_old cell_later)
set_option linter.unusedVariables false

theorem is_small {G : Gram} {Y : List Itm} {P : Itm → Prop} (hv : checkN G = 0) (h : Is Y P) (hr : ∀ x, P x → rightB G x = true) : Y.length ≤ 2709 ∧ ∀ x ∈ Y, W64 x :=
  ⟨Nat.le_trans (srt_len h.1 fun x hx => hr x ((h.2 x).1 hx)) (all_small hv), fun x hx => right_w64 hv (hr x ((h.2 x).1 hx))⟩
theorem same_self (X : List Itm) (a b : Option Addr) (c d : Nat) (w : World) (hX : ItsA a X w) (hY : ItsA b X w) (hl : X.length ≤ 2709) :
    Calls Tryz.prog 15 #[.slice a X.length c, .slice b X.length d] w (Gr.Is (.bool true) w) := by
  have := rsame_any X X a b c d w hX hY (by omega)
  rw [decide_eq_true rfl] at this
  exact this

end Go.Proofs.YtkggpkbdekebcaaGreat.Im
