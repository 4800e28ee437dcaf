/-
  Plain facts on a pass over the rules: what holds of a table as rules are tried one by one, that a pass that betters none ends with the least words, that a pass that betters lessens what is left to better. No program in it.
-/
import Derived.Test.YtoipinnfmjaaaaaDoorLeastAns
namespace Go.Proofs.YtoipinnfmjaaaaaDoor.Le
open Go.Proofs.YtoipinnfmjaaaaaDoor.Gr (Gram nonB termB top names nameS checkN termB_iff nonB_iff)
set_option linter.unusedVariables false

/-- What holds of a table all along. -/
structure Inv (G : Gram) (T : Int → Ans) : Prop where
  ok : OkS G 4096 T
  zero : T 0 = .is []
  term : ∀ s, termB G s = true → T s = .is [s]
theorem inv_tab0 (G : Gram) : Inv G (tab0 G) :=
  ⟨ok_tab0 (by omega), by unfold tab0; rw [if_pos rfl], fun s h => by have := termB_iff.1 h; unfold tab0; rw [if_neg (by omega), if_pos h]⟩
theorem Inv.bnd {G : Gram} {T : Int → Ans} (h : Inv G T) : Bnd T := fun s x e => ((h.ok s).1 x e).2
theorem Inv.set {G : Gram} {T : Int → Ans} (h : Inv G T) {r : Int × List Int} (hr : r ∈ G.rules) (hn : nonB G r.1 = true) : Inv G (setA T r.1 (J T r.2)) :=
  ⟨h.ok.set hr, (keep_set hn (Or.inl rfl)).trans h.zero, fun s hs => (keep_set hn (Or.inr hs)).trans (h.term s hs)⟩

/-- Behind the first j rules of a pass. -/
structure Tried (G : Gram) (n : Nat) (T0 : Int → Ans) (j : Nat) (T : Int → Ans) (b : Bool) : Prop where
  inv : Inv G T
  no : b = false → T = T0 ∧ ∀ i (h : i < G.rules.length), i < j → betterS (J T0 G.rules[i].2) (T0 G.rules[i].1) = false
  yes : b = true → leftA G 4096 T n < leftA G 4096 T0 n
theorem tried_zero {G : Gram} {n : Nat} {T : Int → Ans} (h : Inv G T) : Tried G n T 0 T false := ⟨h, fun _ => ⟨rfl, fun i _ hi => absurd hi (by omega)⟩, fun h => by cases h⟩
theorem Tried.skip {G : Gram} {n : Nat} {T0 T : Int → Ans} {j : Nat} {b : Bool} (h : Tried G n T0 j T b) (hj : j < G.rules.length) (hb : betterS (J T G.rules[j].2) (T G.rules[j].1) = false) : Tried G n T0 (j + 1) T b := by
  refine ⟨h.inv, fun e => ?_, h.yes⟩
  obtain ⟨e1, e2⟩ := h.no e
  refine ⟨e1, fun i hi hl => ?_⟩
  by_cases he : i = j
  · subst he
    rw [← e1]
    exact hb
  · exact e2 i hi (by omega)
theorem Tried.put {G : Gram} {n : Nat} {T0 T : Int → Ans} {j : Nat} {b : Bool} (h : Tried G n T0 j T b) (hj : j < G.rules.length) (hn : nonB G G.rules[j].1 = true) (h0 : 0 ≤ G.rules[j].1) (h1 : G.rules[j].1 < (n : Int))
    (hb : betterS (J T G.rules[j].2) (T G.rules[j].1) = true) : Tried G n T0 (j + 1) (setA T G.rules[j].1 (J T G.rules[j].2)) true := by
  have hm := List.getElem_mem hj
  refine ⟨h.inv.set hm hn, (fun e => by cases e), fun _ => ?_⟩
  have hl : leftA G 4096 (setA T G.rules[j].1 (J T G.rules[j].2)) n < leftA G 4096 T n := left_set h.inv.ok hm h0 h1 hb
  cases b with
  | false =>
    have e1 := (h.no rfl).1
    rw [e1] at hl ⊢
    exact hl
  | true => exact Nat.lt_trans hl (h.yes rfl)
/-- Behind all rules. -/
structure Passed (G : Gram) (n : Nat) (T0 : Int → Ans) (T : Int → Ans) (b : Bool) : Prop where
  inv : Inv G T
  no : b = false → Cls G 4096 T
  yes : b = true → leftA G 4096 T n < leftA G 4096 T0 n
theorem Tried.all {G : Gram} {n : Nat} {T0 T : Int → Ans} {j : Nat} {b : Bool} (h : Tried G n T0 j T b) (hj : ¬ j < G.rules.length) : Passed G n T0 T b := by
  refine ⟨h.inv, fun e => ?_, h.yes⟩
  obtain ⟨e1, e2⟩ := h.no e
  refine ⟨h.inv.zero, h.inv.term, fun r hr => ?_⟩
  obtain ⟨i, hi, rfl⟩ := List.getElem_of_mem hr
  rw [e1]
  exact e2 i hi (by omega)

/-- The least words of a grammar. -/
noncomputable def leastT (G : Gram) : Int → Ans := @dite _ (∃ T, OkS G 4096 T ∧ Cls G 4096 T) (Classical.propDecidable _) (fun h => h.choose) (fun _ _ => .none)
theorem least_is {G : Gram} {T : Int → Ans} (ok : OkS G 4096 T) (c : Cls G 4096 T) : T = leastT G := by
  have h : ∃ T, OkS G 4096 T ∧ Cls G 4096 T := ⟨T, ok, c⟩
  have e : leastT G = h.choose := by unfold leastT; exact dif_pos h
  rw [e]
  funext s
  exact c.unique ok h.choose_spec.1 h.choose_spec.2 s
/-- What the program and the plain answers hold: nothing for a grammar that may not be. -/
noncomputable def ansT (G : Gram) : Int → Ans := if checkN G = 0 then leastT G else fun _ => .none
noncomputable def nilB (G : Gram) : Bool := !decide (checkN G = 0)

end Go.Proofs.YtoipinnfmjaaaaaDoor.Le
