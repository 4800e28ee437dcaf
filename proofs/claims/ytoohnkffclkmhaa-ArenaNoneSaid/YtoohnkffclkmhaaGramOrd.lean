/-
  Ordered, by the program and by the plain answers; the plain answers' Of.
-/
import Derived.Test.YtoohnkffclkmhaaGramOf
namespace Go.Proofs.Ytoohnkffclkmhaa.Gr
open Go.RowKit Go.Maps
set_option linter.unusedVariables false

theorem firstR_some {G : Gram} {i : Nat} {x : Int} {l : List Int} (h : ofL G ((G.terms.length : Int) + 1 + i) = x :: l) : x = (firstR G i : Int) := by
  unfold firstR
  unfold ofL ofI at h
  change List.map _ (ofN G ((G.terms.length : Int) + 1 + i)) = _ at h
  cases e : ofN G ((G.terms.length : Int) + 1 + i) with
  | nil => rw [e] at h; cases h
  | cons y r =>
    rw [e] at h
    simp only [List.map_cons, List.cons.injEq] at h
    simp [← h.1]
theorem firstR_none {G : Gram} {i : Nat} (h : ofL G ((G.terms.length : Int) + 1 + i) = []) : firstR G i = G.rules.length := by
  unfold firstR
  unfold ofL ofI at h
  change List.map _ (ofN G ((G.terms.length : Int) + 1 + i)) = _ at h
  rw [List.map_eq_nil_iff] at h
  simp [h]

end Go.Proofs.Ytoohnkffclkmhaa.Gr
