/-
  Two rules, two lists of rules, two grammars held against each other: by the program and by the plain answers.
-/
import Derived.Test.YtoohnkffclkmhaaGramEq
namespace Go.Proofs.Ytoohnkffclkmhaa.Gr
open Go.RowKit Go.Maps
set_option linter.unusedVariables false

set_option maxHeartbeats 1000000 in
theorem samer_any (r q : Int × List Int) (a b : Option Addr) (c d : Nat) (w : World) (ha : Sep.Reads a (ivs r.2) w) (hb : Sep.Reads b (ivs q.2) w) (hl : r.2.length ≤ 17592186044416) (hm : q.2.length ≤ 17592186044416) :
    Calls Try.prog 54 #[.agg #[.int .i64 r.1, .slice a r.2.length c], .agg #[.int .i64 q.1, .slice b q.2.length d]] w (Is (.bool (sameR r q)) w) := by
  have H := Lib.hid (fun w1 (k : Below w.heap.size w w1) => eqi_any r.2 q.2 a b c d w1 (ha.below k (Nat.le_refl _)) (hb.below k (Nat.le_refl _)) hl hm)
  have X := Lib.hid (fun o1 o2 => step (boxed w o1) (boxed (w.alloc o1) o2))
  clear ha hb
  by_cases h1 : r.1 = q.1
  · have E := Lib.hid (show sameR r q = sameI r.2 q.2 by simp [sameR, h1, sameI])
    rw [h1]
    clear h1
    go_enter Try.func54, Try.ntmps54
    go_wp2_with (go_at_call 62; refine (H.out _ (X.out _ _)).mono ?_; rintro e w1 ⟨rfl, rfl⟩)
    go_ret
    exact ⟨bool_of E.out, X.out _ _⟩
  · have E := Lib.hid (show sameR r q = false by simp [sameR, h1])
    have h2 : (r.1 == q.1) = false := by simpa using h1
    clear h1
    go_enter Try.func54, Try.ntmps54
    go_wp2
    go_ret
    exact ⟨bool_of E.out, X.out _ _⟩

/-- Four cells that stay, and that only new blocks are made. -/
def Four (w : World) (p1 p2 p3 p4 : Addr) (v1 v2 v3 v4 : Value) : Prop :=
  ∀ w', Below w.heap.size w w' → w'.cell? p1 = some v1 ∧ w'.cell? p2 = some v2 ∧ w'.cell? p3 = some v3 ∧ w'.cell? p4 = some v4 ∧ Below w.heap.size w w'
theorem four {w : World} {p1 p2 p3 p4 : Addr} {v1 v2 v3 v4 : Value} (h1 : w.cell? p1 = some v1) (h2 : w.cell? p2 = some v2) (h3 : w.cell? p3 = some v3) (h4 : w.cell? p4 = some v4) : Four w p1 p2 p3 p4 v1 v2 v3 v4 :=
  fun _ hb => ⟨cell_later hb h1, cell_later hb h2, cell_later hb h3, cell_later hb h4, hb⟩

/-- What both sides' Same need of two grammars. -/
theorem sameG_parts (G H : Gram) : sameG G H = (G.start == H.start && sameS G.terms H.terms && sameS G.nons H.nons && sameRs G.rules H.rules) := rfl

end Go.Proofs.Ytoohnkffclkmhaa.Gr
