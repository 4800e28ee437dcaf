/-
  A grammar whose text is shown is short: all its names have at most 24 bytes. No program.
-/
import Derived.Test.YtimfiaphhomelaaGshowShow
import Derived.Test.YtimfiaphhomelaaGshowBack
namespace Go.Proofs.Ytimfiaphhomelaa.Sw
open Go.RowKit Go.Maps
open Go.Proofs.Ytimfiaphhomelaa.Gr (Gram checkN ordB)
open Go.Proofs.Ytimfiaphhomelaa.Rd (Mo)
set_option linter.unusedVariables false
set_option linter.unusedSimpArgs false

theorem short_of {G : Gram} (h1 : checkN G = 0) (h2 : ordB G = true) : Short G := by
  have hv := val_of h1 h2
  obtain ⟨f1, f2, f3⟩ := hv.few
  have sz : ∀ s : ByteArray, SymOk s → s.size ≤ 24 := fun s hs => by
    have := sym_len hs
    unfold It.okLen at this
    rw [Bool.and_eq_true, decide_eq_true_iff, decide_eq_true_iff] at this
    exact this.2
  have nl : ∀ x, SymOk (Gr.nameS G x) → (nmL G x).length ≤ 24 := fun x hx => by
    have := sz _ hx
    unfold nmL
    simpa using this
  have ht := terms_len (L := G.terms) fun s hs => sz s (hv.term_ok s hs)
  have hst := nl G.start (.inl (hv.pln hv.start))
  have hr := rows_len G.rules (fun r hr => ⟨nl _ (.inl (hv.pln (hv.rule hr).1)), (hv.rule hr).2.1, fun x hx => nl _ (hv.sym ((hv.rule hr).2.2 x hx).1 ((hv.rule hr).2.2 x hx).2)⟩) _ (Nat.le_refl _)
  refine ⟨?_, by omega, by omega⟩
  unfold tokenL startL
  split <;> simp only [List.length_append, List.length_cons, List.length_nil] <;> omega

end Go.Proofs.Ytimfiaphhomelaa.Sw
