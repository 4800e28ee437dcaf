/-
  Plain facts for the statement on rules: the rules of a symbol by their numbers, and whether one of them has the symbol's word. No program in it.
-/
import Derived.Test.YtpfokebbpbigdaaLeastInv
import Derived.Test.YtpfokebbpbigdaaGramOf
namespace Go.Proofs.Ytpfokebbpbigdaa.Le
open Go.Proofs.Ytpfokebbpbigdaa.Gr
set_option linter.unusedVariables false

def rightI (G : Gram) (x : Int) : List Int := (G.rules.getD x.toNat (0, [])).2
theorem rightI_get {G : Gram} {k : Nat} (h : k < G.rules.length) : rightI G (k : Int) = G.rules[k].2 := by
  simp [rightI, List.getD_eq_getElem?_getD, List.getElem?_eq_getElem h]
theorem ofL_at {G : Gram} {s : Int} {i : Nat} (hi : i < (ofL G s).length) : ∃ k : Nat, (ofL G s)[i] = (k : Int) ∧ k < G.rules.length ∧ Gr.leftOf G.rules k = s := by
  have h := List.getElem_mem hi
  unfold ofL ofI at h
  obtain ⟨k, hk, e⟩ := List.mem_map.1 h
  obtain ⟨h1, h2⟩ := mem_ofTo.1 hk
  exact ⟨k, e.symm, h1, h2⟩
theorem ofL_has {G : Gram} {s : Int} {k : Nat} (hk : k < G.rules.length) (h : Gr.leftOf G.rules k = s) : ∃ (i : Nat) (hi : i < (ofL G s).length), (ofL G s)[i] = (k : Int) := by
  have hm : (k : Int) ∈ ofL G s := by
    unfold ofL ofI
    exact List.mem_map.2 ⟨k, mem_ofTo.2 ⟨hk, h⟩, rfl⟩
  exact List.getElem_of_mem hm
theorem ofL_le (G : Gram) (s : Int) : (ofL G s).length ≤ G.rules.length := ofI_le _ _ _

/-- Whether one of the first i rules of the symbol has its word. -/
def Met (G : Gram) (T : Int → Ans) (s : Int) (i : Nat) (b : Bool) : Prop := b = true ↔ (isA (T s) = true ∧ ∃ (j : Nat) (hj : j < (ofL G s).length), j < i ∧ J T (rightI G (ofL G s)[j]) = T s)
theorem met_zero (G : Gram) (T : Int → Ans) (s : Int) : Met G T s 0 false := ⟨(fun h => by cases h), fun ⟨_, j, _, hj, _⟩ => absurd hj (by omega)⟩
theorem ans_eq {a t : Ans} (ht : isA t = true) : a = t ↔ isA a = true ∧ wordA t = wordA a := by
  constructor
  · rintro rfl
    exact ⟨ht, rfl⟩
  · rintro ⟨h1, h2⟩
    rw [isA_of h1, isA_of ht, h2]
theorem met_no {G : Gram} {T : Int → Ans} {s : Int} {i : Nat} {b : Bool} (h : Met G T s i b) (hi : i < (ofL G s).length) (ha : isA (J T (rightI G (ofL G s)[i])) = false) : Met G T s (i + 1) b := by
  unfold Met at h ⊢
  rw [h]
  refine and_congr_right fun ht => ⟨fun ⟨j, hj, hl, e⟩ => ⟨j, hj, by omega, e⟩, fun ⟨j, hj, hl, e⟩ => ?_⟩
  by_cases he : j = i
  · subst he
    rw [e, ht] at ha
    cases ha
  · exact ⟨j, hj, by omega, e⟩
theorem met_had {G : Gram} {T : Int → Ans} {s : Int} {i : Nat} (h : Met G T s i true) : Met G T s (i + 1) true := by
  obtain ⟨h1, j, hj, hl, e⟩ := h.1 rfl
  exact ⟨fun _ => ⟨h1, j, hj, by omega, e⟩, fun _ => rfl⟩
theorem met_step {G : Gram} {T : Int → Ans} {s : Int} {i : Nat} (h : Met G T s i false) (hi : i < (ofL G s).length) (ha : isA (J T (rightI G (ofL G s)[i])) = true) (ht : isA (T s) = true) : Met G T s (i + 1) (decide (wordA (T s) = wordA (J T (rightI G (ofL G s)[i])))) := by
  unfold Met
  rw [decide_eq_true_iff]
  constructor
  · intro e
    exact ⟨ht, i, hi, by omega, (ans_eq ht).2 ⟨ha, e⟩⟩
  · rintro ⟨_, j, hj, hl, e⟩
    by_cases he : j = i
    · subst he
      exact ((ans_eq ht).1 e).2
    · exact absurd (h.2 ⟨ht, j, hj, by omega, e⟩) (by decide)
theorem met_end {G : Gram} {T : Int → Ans} {s : Int} {i : Nat} {b : Bool} (h : Met G T s i b) (hi : ¬ i < (ofL G s).length) (ok : OkS G 4096 T) (c : Cls G 4096 T) (hn : nonB G s = true) : b = isA (T s) := by
  unfold Met at h
  rw [Bool.eq_iff_iff, h]
  refine ⟨fun h => h.1, fun ht => ⟨ht, ?_⟩⟩
  have h1 := nonB_iff.1 hn
  obtain ⟨r, hr, e1, e2⟩ := c.met ok (isA_of ht) (by omega) (by
    rw [← Bool.not_eq_true, termB_iff]
    omega)
  obtain ⟨k, hk, e3⟩ := List.getElem_of_mem hr
  obtain ⟨j, hj, e4⟩ := ofL_has (s := s) hk (by rw [Gr.leftOf_get hk, e3]; exact e1)
  refine ⟨j, hj, by omega, ?_⟩
  rw [e4, rightI_get hk, e3, isA_of ht]
  exact e2
/-- What is told of a rule's right side. -/
theorem rule_tells {a t : Ans} (hb : betterS a t = false) (ha : isA a = true) : isA t = true ∧ ¬ (wordA a).length < (wordA t).length ∧ ((wordA a).length = (wordA t).length → lexB (wordA a) (wordA t) = false) := by
  cases a with
  | none => cases ha
  | far => cases ha
  | is v =>
    cases t with
    | none => cases hb
    | far => cases hb
    | is w =>
      have h : lessB v w = false := hb
      unfold lessB at h
      refine ⟨rfl, fun k => ?_, fun k => ?_⟩
      · have k' : v.length < w.length := k
        rw [if_neg (by omega), decide_eq_false_iff_not] at h
        exact h k'
      · have k' : v.length = w.length := k
        rw [if_pos k'] at h
        exact h
theorem rule_not {G : Gram} {T : Int → Ans} (c : Cls G 4096 T) {k : Nat} (hk : k < G.rules.length) {s : Int} (hs : Gr.leftOf G.rules k = s) : betterS (J T (rightI G (k : Int))) (T s) = false := by
  have := c.rule _ (List.getElem_mem hk)
  rw [rightI_get hk, ← hs, Gr.leftOf_get hk]
  exact this

end Go.Proofs.Ytpfokebbpbigdaa.Le
