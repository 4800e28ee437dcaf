/-
  The tokens of a text end with the end, are no more than its bytes and one, and none is longer than it. No program in it.
-/
import Derived.Test.YtimfiaphhomelaaGreadPlain
namespace Go.Proofs.Ytimfiaphhomelaa.Rd
open Go.Proofs.Ytimfiaphhomelaa.Tk (Tok Res lexL mk stepL_tok Lexes)
set_option linter.unusedVariables false
set_option linter.unusedSimpArgs false

theorem mk_size (k : Int) (l : List UInt8) (n a : Nat) : (mk k l n a).s.size ≤ l.length := by
  show (l.take n).toArray.size ≤ l.length
  simp
  omega

theorem lexL_ok : ∀ (f : Nat) (l : List UInt8) (a : Nat) (T : List Tok), lexL f l a = some (.ok T) → EndT T ∧ T.length ≤ l.length + 1 ∧ ∀ t ∈ T, t.s.size ≤ l.length := by
  intro f
  induction f with
  | zero => intro l a T h; simp [lexL] at h
  | succ f ih =>
    intro l a T h
    unfold lexL at h
    cases hs : Tk.stepL l with
    | bad e p => rw [hs] at h; simp at h
    | tok k n =>
      rw [hs] at h
      have ht := stepL_tok hs
      simp only at h
      by_cases h0 : k = 0
      · simp only [h0, if_true, Option.some.injEq, Res.ok.injEq] at h
        subst h
        refine ⟨rfl, by simp, fun t hm => ?_⟩
        rw [List.mem_singleton] at hm
        subst hm
        exact mk_size _ _ _ _
      · obtain ⟨_, hn1, hn2⟩ : ¬ k = 0 ∧ 1 ≤ n ∧ n ≤ l.length := by
          rcases ht with h1 | h1
          · exact absurd h1.1 h0
          · exact h1
        have hd : (l.drop n).length = l.length - n := List.length_drop ..
        by_cases h1 : k = -1
        · simp only [h0, h1, if_false, if_true] at h
          obtain ⟨e1, e2, e3⟩ := ih _ _ _ (by simpa [h1] using h)
          exact ⟨e1, by omega, fun t hm => by have := e3 t hm; omega⟩
        · simp only [h0, h1, if_false] at h
          obtain ⟨q, hq, hr⟩ := Option.map_eq_some_iff.1 h
          cases q with
          | bad e p => simp [Res.add] at hr
          | ok U =>
            simp only [Res.add, Res.ok.injEq] at hr
            subst hr
            obtain ⟨e1, e2, e3⟩ := ih _ _ _ hq
            refine ⟨?_, by simp; omega, fun t hm => ?_⟩
            · cases U with
              | nil => exact absurd e1 id
              | cons u U => exact ⟨h0, e1⟩
            · rcases List.mem_cons.1 (by simpa using hm) with rfl | hm
              · exact mk_size _ _ _ _
              · have := e3 t hm; omega

theorem lexes_ok {l : List UInt8} {T : List Tok} (h : Lexes l (.ok T)) : EndT T ∧ T.length ≤ 8193 ∧ ∀ t ∈ T, t.s.size ≤ 8192 := by
  unfold Lexes at h
  split at h
  · cases h
  · obtain ⟨f, hf⟩ := h
    obtain ⟨a, b, c⟩ := lexL_ok f l 0 T hf
    exact ⟨a, by omega, fun t ht => by have := c t ht; omega⟩

end Go.Proofs.Ytimfiaphhomelaa.Rd
