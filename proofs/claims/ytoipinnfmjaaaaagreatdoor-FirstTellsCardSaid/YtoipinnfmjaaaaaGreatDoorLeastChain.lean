/-
  Plain facts on putting words together from the left, as a loop does it; and on the grammar of LeastLong: nonterminals, each of which is the next one so many times. No program in it.
-/
import Derived.Test.YtoipinnfmjaaaaaGreatDoorLeastWords
namespace Go.Proofs.YtoipinnfmjaaaaaGreatDoor.Le
open Go.Proofs.YtoipinnfmjaaaaaGreatDoor.Gr (Gram nonB termB top names nameS checkN termB_iff nonB_iff)
set_option linter.unusedVariables false

/-! ### From the left -/

theorem putA_le {M : Nat} {v w : List Int} (h : (v ++ w).length ≤ M) : putA M (.is v) (.is w) = .is (v ++ w) := if_pos h
theorem putA_gt {M : Nat} {v w : List Int} (h : ¬ (v ++ w).length ≤ M) : putA M (.is v) (.is w) = .far := if_neg h
theorem putA_nl (M : Nat) (a : Ans) : putA M .none a = .none := by cases a <;> rfl
theorem putA_nr (M : Nat) (a : Ans) : putA M a .none = .none := by cases a <;> rfl
theorem putA_fr {M : Nat} {a : Ans} (h : a ≠ .none) : putA M a .far = .far := by
  cases a with
  | none => exact absurd rfl h
  | far => rfl
  | is w => rfl
theorem putA_fl {M : Nat} {a : Ans} (h : a ≠ .none) : putA M .far a = .far := by
  cases a with
  | none => exact absurd rfl h
  | far => rfl
  | is w => rfl
theorem putA_assoc (M : Nat) (a b c : Ans) : putA M (putA M a b) c = putA M a (putA M b c) := by
  cases a with
  | none => rw [putA_nl, putA_nl, putA_nl]
  | far =>
    cases b with
    | none => rw [putA_nr, putA_nl, putA_nr]
    | far =>
      cases c with
      | none => rw [putA_nr, putA_nr, putA_nr]
      | far => rfl
      | is z => rfl
    | is y =>
      cases c with
      | none => rw [putA_nr, putA_nr, putA_nr]
      | far => rfl
      | is z =>
        have h : putA M (.is y) (.is z) ≠ .none := fun k => by
          rcases putA_none.1 k with k | k <;> cases k
        rw [putA_fl h]
        rfl
  | is x =>
    cases b with
    | none => rw [putA_nr, putA_nl, putA_nr]
    | far =>
      cases c with
      | none => rw [putA_nr, putA_nr, putA_nr]
      | far => rfl
      | is z => rfl
    | is y =>
      cases c with
      | none => rw [putA_nr, putA_nr, putA_nr]
      | far =>
        have h : putA M (.is x) (.is y) ≠ .none := fun k => by
          rcases putA_none.1 k with k | k <;> cases k
        rw [putA_fr h]
        rfl
      | is z =>
        by_cases h : (x ++ y ++ z).length ≤ M
        · have h' : (x ++ (y ++ z)).length ≤ M := by rwa [← List.append_assoc]
          have h1 : (x ++ y).length ≤ M := by simp only [List.length_append] at h ⊢; omega
          have h2 : (y ++ z).length ≤ M := by simp only [List.length_append] at h ⊢; omega
          rw [putA_le h1, putA_le h2, putA_le h, putA_le h', List.append_assoc]
        · have h' : ¬ (x ++ (y ++ z)).length ≤ M := by rwa [← List.append_assoc]
          have l : putA M (putA M (.is x) (.is y)) (.is z) = .far := by
            by_cases h1 : (x ++ y).length ≤ M
            · rw [putA_le h1, putA_gt h]
            · rw [putA_gt h1]; rfl
          have r : putA M (.is x) (putA M (.is y) (.is z)) = .far := by
            by_cases h2 : (y ++ z).length ≤ M
            · rw [putA_le h2, putA_gt h']
            · rw [putA_gt h2]; rfl
          rw [l, r]
theorem join_le {M : Nat} {T : Int → Ans} {l x : List Int} (h : joinS M T l = .is x) : x.length ≤ M := by
  cases l with
  | nil => injection h with h; subst h; exact Nat.zero_le _
  | cons s l =>
    obtain ⟨v, w, _, _, h3, h4⟩ := putA_is (show putA M (T s) (joinS M T l) = .is x from h)
    exact h4
theorem putA_unit {M : Nat} {a : Ans} (h : ∀ x, a = .is x → x.length ≤ M) : putA M (.is []) a = a := by
  cases a with
  | none => rfl
  | far => rfl
  | is x => exact putA_le (h x rfl)
theorem putA_unit_r {M : Nat} {a : Ans} (h : ∀ x, a = .is x → x.length ≤ M) : putA M a (.is []) = a := by
  cases a with
  | none => rfl
  | far => rfl
  | is x =>
    have e : x ++ [] = x := List.append_nil x
    rw [putA_le (by rw [e]; exact h x rfl), e]
theorem join_append (M : Nat) (T : Int → Ans) (l k : List Int) : joinS M T (l ++ k) = putA M (joinS M T l) (joinS M T k) := by
  induction l with
  | nil => exact (putA_unit fun x hx => join_le hx).symm
  | cons s l ih =>
    show putA M (T s) (joinS M T (l ++ k)) = putA M (putA M (T s) (joinS M T l)) (joinS M T k)
    rw [ih, putA_assoc]
theorem join_one {M : Nat} {T : Int → Ans} {s : Int} (h : ∀ x, T s = .is x → x.length ≤ M) : joinS M T [s] = T s := putA_unit_r h
theorem join_snoc {M : Nat} {T : Int → Ans} {l : List Int} {s : Int} (h : ∀ x, T s = .is x → x.length ≤ M) : joinS M T (l ++ [s]) = putA M (joinS M T l) (T s) := by
  rw [join_append, join_one h]
/-- A step of the loop: behind the first i of them, and behind i + 1. -/
theorem join_take {M : Nat} {T : Int → Ans} {l : List Int} {i : Nat} (hi : i < l.length) (h : ∀ x, T l[i] = .is x → x.length ≤ M) : joinS M T (l.take (i + 1)) = putA M (joinS M T (l.take i)) (T l[i]) := by
  rw [List.take_succ_eq_append_getElem hi, join_snoc h]
/-- One that has none, and there is none for the whole. -/
theorem join_gone {M : Nat} {T : Int → Ans} {l : List Int} {s : Int} (hs : s ∈ l) (h : T s = .none) : joinS M T l = .none := by
  induction l with
  | nil => cases hs
  | cons t l ih =>
    rcases List.mem_cons.1 hs with e | e
    · subst e
      exact putA_none.2 (Or.inl h)
    · exact putA_none.2 (Or.inr (ih e))

/-! ### A chain of nonterminals -/

def chainR (depth many i : Nat) : Int × List Int := (((2 + i : Nat) : Int), List.replicate many (if i + 1 = depth then 1 else ((3 + i : Nat) : Int)))
def lens (depth many : Nat) (s : Int) : Nat := if s ≤ 0 then 0 else if s = 1 then 1 else many ^ (depth + 2 - s.toNat)
def lenL (depth many : Nat) (l : List Int) : Nat := (l.map (lens depth many)).sum
theorem lens_at (depth many i : Nat) : lens depth many ((2 + i : Nat) : Int) = many ^ (depth - i) := by
  unfold lens
  rw [if_neg (by omega), if_neg (by omega)]
  congr 1
  omega
theorem lenL_rep (depth many n : Nat) (s : Int) : lenL depth many (List.replicate n s) = n * lens depth many s := by
  induction n with
  | zero => simp [lenL]
  | succ n ih =>
    have e : lenL depth many (List.replicate (n + 1) s) = lens depth many s + lenL depth many (List.replicate n s) := by
      simp only [lenL, List.replicate_succ, List.map_cons, List.sum_cons]
    rw [e, ih, Nat.succ_mul, Nat.add_comm]
theorem lenL_rule {depth many i : Nat} (hi : i < depth) : lenL depth many (chainR depth many i).2 = lens depth many (chainR depth many i).1 := by
  unfold chainR
  show lenL depth many (List.replicate many _) = lens depth many ((2 + i : Nat) : Int)
  rw [lenL_rep, lens_at]
  have e : depth - i = (depth - (i + 1)) + 1 := by omega
  rw [e, Nat.pow_succ, Nat.mul_comm]
  congr 1
  by_cases h : i + 1 = depth
  · rw [if_pos h, h, Nat.sub_self, Nat.pow_zero]
    rfl
  · rw [if_neg h]
    have e2 : 3 + i = 2 + (i + 1) := by omega
    rw [e2, lens_at]

structure Chain (G : Gram) (depth many : Nat) : Prop where
  one : G.terms.length = 1
  rules : G.rules = (List.range depth).map (chainR depth many)
theorem Chain.mem {G : Gram} {depth many : Nat} (h : Chain G depth many) {r : Int × List Int} (hr : r ∈ G.rules) : ∃ i, i < depth ∧ r = chainR depth many i := by
  rw [h.rules] at hr
  obtain ⟨i, h1, h2⟩ := List.mem_map.1 hr
  exact ⟨i, List.mem_range.1 h1, h2.symm⟩
theorem Chain.has {G : Gram} {depth many : Nat} (h : Chain G depth many) {i : Nat} (hi : i < depth) : chainR depth many i ∈ G.rules := by
  rw [h.rules]
  exact List.mem_map.2 ⟨i, List.mem_range.2 hi, rfl⟩
/-- Each word is a row of the one terminal, as long as told. -/
theorem Chain.word {G : Gram} {depth many : Nat} (h : Chain G depth many) {l w : List Int} (hw : Ws G l w) : w.length = lenL depth many l := by
  induction hw with
  | nil => rfl
  | zero _ ih =>
    rw [ih]
    simp [lenL, lens]
  | @term s l w ht _ ih =>
    rw [termB_iff, h.one] at ht
    have e : s = 1 := by omega
    subst e
    rw [List.length_cons, ih]
    show _ = ((1 :: l).map (lens depth many)).sum
    rw [List.map_cons, List.sum_cons]
    show lenL depth many l + 1 = 1 + lenL depth many l
    omega
  | @rule r l v w hr _ _ ih1 ih2 =>
    obtain ⟨i, hi, e⟩ := h.mem hr
    rw [List.length_append, ih1, ih2, e, lenL_rule hi]
    show _ = ((_ :: l).map (lens depth many)).sum
    rw [List.map_cons, List.sum_cons]
    rfl
theorem Ws.rep {G : Gram} {s : Int} {v : List Int} (h : Ws G [s] v) : ∀ n : Nat, ∃ w, Ws G (List.replicate n s) w := by
  intro n
  induction n with
  | zero => exact ⟨[], .nil⟩
  | succ n ih =>
    obtain ⟨w, hw⟩ := ih
    exact ⟨v ++ w, h.cons hw⟩
theorem Chain.some {G : Gram} {depth many : Nat} (h : Chain G depth many) : ∀ k i : Nat, i + k + 1 = depth → ∃ w, Ws G [((2 + i : Nat) : Int)] w := by
  intro k
  induction k with
  | zero =>
    intro i hi
    have h1 : Ws G [1] [1] := .term (by rw [termB_iff, h.one]; omega) .nil
    obtain ⟨w, hw⟩ := h1.rep many
    refine ⟨w, .one (h.has (i := i) (by omega)) ?_⟩
    show Ws G (List.replicate many (if i + 1 = depth then 1 else ((3 + i : Nat) : Int))) w
    rw [if_pos (by omega)]
    exact hw
  | succ k ih =>
    intro i hi
    obtain ⟨v, hv⟩ := ih (i + 1) (by omega)
    obtain ⟨w, hw⟩ := hv.rep many
    refine ⟨w, .one (h.has (i := i) (by omega)) ?_⟩
    show Ws G (List.replicate many (if i + 1 = depth then 1 else ((3 + i : Nat) : Int))) w
    rw [if_neg (by omega)]
    have e : 3 + i = 2 + (i + 1) := by omega
    rw [e]
    exact hw
/-- What a table tells of the first one. -/
theorem Chain.tells {G : Gram} {depth many M : Nat} (h : Chain G depth many) (hd : 0 < depth) {T : Int → Ans} (ok : OkS G M T) (c : Cls G M T) :
    if many ^ depth ≤ M then ∃ v, T 2 = .is v ∧ v.length = many ^ depth else T 2 = .far := by
  have hl : lenL depth many [2] = many ^ depth := by
    have := lens_at depth many 0
    simp [lenL] at this ⊢
    exact this
  obtain ⟨w, hw⟩ := h.some (depth - 1) 0 (by omega)
  have hw2 : Ws G [2] w := hw
  have k := c.one ok hw2
  have lw := h.word hw2
  split
  · rename_i hm
    obtain ⟨v, e, _⟩ := k.2 (by rw [lw, hl]; exact hm)
    exact ⟨v, e, by rw [h.word ((ok 2).1 v e).1, hl]⟩
  · rename_i hm
    cases e : T 2 with
    | none => exact absurd e k.1
    | far => rfl
    | is v =>
      have hv := (ok 2).1 v e
      rw [h.word hv.1, hl] at hv
      exact absurd hv.2 hm

end Go.Proofs.YtoipinnfmjaaaaaGreatDoor.Le
