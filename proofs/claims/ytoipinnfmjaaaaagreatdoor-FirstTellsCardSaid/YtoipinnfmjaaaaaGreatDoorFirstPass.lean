/-
  Plain facts on passes over the rules of a grammar: what holds of the tables as rules are tried one by one, for what symbols begin with and for what stands behind them; a pass that adds nothing ends with just the sets, a pass that adds something lessens what is missing. No program in it.
-/
import Derived.Test.YtoipinnfmjaaaaaGreatDoorFirstPlain
namespace Go.Proofs.YtoipinnfmjaaaaaGreatDoor.Fi
open Go.Proofs.YtoipinnfmjaaaaaGreatDoor.Gr (Gram nonB termB top names nameS checkN termB_iff nonB_iff)
set_option linter.unusedVariables false

/-- Left sides are symbols below n. -/
def Lefts (G : Gram) (n : Nat) : Prop := ∀ r ∈ G.rules, 0 ≤ r.1 ∧ r.1 < (n : Int)

/-! ### What symbols begin with -/

def missCF (C : Int → Bool) (F : Int → Int → Bool) (m n : Nat) : Nat := missR C n + missT F m n
/-- Does a rule add something? -/
def grows (C : Int → Bool) (F : Int → Int → Bool) (r : Int × List Int) : Prop := (∃ t, lineB C F r.2 t = true ∧ F r.1 t = false) ∨ (allC C r.2 = true ∧ C r.1 = false)
theorem shut_of {C : Int → Bool} {F : Int → Int → Bool} {r : Int × List Int} (h : ¬ grows C F r) : Shut C F r := by
  constructor
  · intro k
    cases e : C r.1 with
    | true => rfl
    | false => exact absurd (.inr ⟨k, e⟩) h
  · intro t k
    cases e : F r.1 t with
    | true => rfl
    | false => exact absurd (.inl ⟨t, k, e⟩) h
theorem addC_le {C : Int → Bool} {r : Int × List Int} {x : Int} (h : C x = true) : addC C r x = true := by unfold addC; rw [h]; rfl
theorem addF_le {C : Int → Bool} {F : Int → Int → Bool} {r : Int × List Int} {x t : Int} (h : F x t = true) : addF C F r x t = true := by unfold addF; rw [h]; rfl
theorem addC_hit {C : Int → Bool} {r : Int × List Int} (h : allC C r.2 = true) : addC C r r.1 = true := by unfold addC; rw [h]; simp
theorem addF_hit {C : Int → Bool} {F : Int → Int → Bool} {r : Int × List Int} {t : Int} (h : lineB C F r.2 t = true) : addF C F r r.1 t = true := by unfold addF; rw [h]; simp
theorem grows_miss {G : Gram} {C : Int → Bool} {F : Int → Int → Bool} {n : Nat} (hs : Snd G C F) (hl : Lefts G n) {r : Int × List Int} (hr : r ∈ G.rules) (h : grows C F r) :
    missCF (addC C r) (addF C F r) (G.terms.length + 1) n < missCF C F (G.terms.length + 1) n := by
  obtain ⟨h0, h1⟩ := hl r hr
  have e : ((r.1.toNat : Nat) : Int) = r.1 := by omega
  have m1 := missR_le (P := C) (Q := addC C r) (n := n) fun i _ k => addC_le k
  have m2 := missT_le (F := F) (H := addF C F r) (m := G.terms.length + 1) (n := n) fun x t _ _ k => addF_le k
  unfold missCF
  rcases h with ⟨t, h2, h3⟩ | ⟨h2, h3⟩
  · obtain ⟨t0, t1⟩ := line_range (hs.line h2)
    have et : ((t.toNat : Nat) : Int) = t := by omega
    have := missT_lt (F := F) (H := addF C F r) (m := G.terms.length + 1) (n := n) (k := r.1.toNat) (fun x t _ _ k => addF_le k) (by omega)
      (missR_lt (k := t.toNat) (fun i _ k => addF_le k) (by omega) (by rw [e, et]; exact h3) (by rw [e, et]; exact addF_hit h2))
    omega
  · have := missR_lt (P := C) (Q := addC C r) (n := n) (k := r.1.toNat) (fun i _ k => addC_le k) (by omega) (by rw [e]; exact h3) (by rw [e]; exact addC_hit h2)
    omega

/-- Behind the first j rules of a pass. -/
structure TriedF (G : Gram) (n : Nat) (C0 : Int → Bool) (F0 : Int → Int → Bool) (j : Nat) (C : Int → Bool) (F : Int → Int → Bool) (b : Bool) : Prop where
  snd : Snd G C F
  leaf : Leaf G F
  no : b = false → (C = C0 ∧ F = F0) ∧ ∀ i (h : i < G.rules.length), i < j → Shut C0 F0 G.rules[i]
  yes : b = true → missCF C F (G.terms.length + 1) n < missCF C0 F0 (G.terms.length + 1) n
theorem triedF_zero {G : Gram} {n : Nat} {C : Int → Bool} {F : Int → Int → Bool} (h : Snd G C F) (hl : Leaf G F) : TriedF G n C F 0 C F false := ⟨h, hl, fun _ => ⟨⟨rfl, rfl⟩, fun i _ hi => absurd hi (by omega)⟩, fun h => by cases h⟩
theorem TriedF.step {G : Gram} {n : Nat} {C0 C : Int → Bool} {F0 F : Int → Int → Bool} {j : Nat} {b c : Bool} (h : TriedF G n C0 F0 j C F b) (hl : Lefts G n) (hj : j < G.rules.length) (hc : c = true ↔ grows C F G.rules[j]) :
    TriedF G n C0 F0 (j + 1) (addC C G.rules[j]) (addF C F G.rules[j]) (b || c) := by
  have hm := List.getElem_mem hj
  have hs1 : Snd G C (Fi.addF C F G.rules[j]) := h.snd.addF hm
  have hs : Snd G (addC C G.rules[j]) (Fi.addF C F G.rules[j]) := ⟨(h.snd.addC hm).can, hs1.fst⟩
  have hlf : Leaf G (addF C F G.rules[j]) := fun x hx => addF_le (h.leaf x hx)
  cases c with
  | false =>
    have hg : Shut C F G.rules[j] := shut_of fun k => by have := hc.2 k; cases this
    rw [addC_same hg.can, addF_same hg.fst, Bool.or_false]
    refine ⟨h.snd, h.leaf, fun e => ?_, h.yes⟩
    obtain ⟨⟨e1, e2⟩, e3⟩ := h.no e
    refine ⟨⟨e1, e2⟩, fun i hi hl => ?_⟩
    by_cases he : i = j
    · subst he
      rw [← e1, ← e2]
      exact hg
    · exact e3 i hi (by omega)
  | true =>
    have hg := grows_miss h.snd hl hm (hc.1 rfl)
    rw [Bool.or_true]
    refine ⟨hs, hlf, (fun e => by cases e), fun _ => ?_⟩
    cases b with
    | false =>
      obtain ⟨⟨e1, e2⟩, _⟩ := h.no rfl
      rw [e1, e2] at hg ⊢
      exact hg
    | true => exact Nat.lt_trans hg (h.yes rfl)
/-- Behind all rules. -/
theorem TriedF.all {G : Gram} {n : Nat} {C0 C : Int → Bool} {F0 F : Int → Int → Bool} {j : Nat} (h : TriedF G n C0 F0 j C F false) (hj : ¬ j < G.rules.length) : Just G C F := by
  obtain ⟨⟨e1, e2⟩, e3⟩ := h.no rfl
  refine just_of h.snd h.leaf fun r hr => ?_
  obtain ⟨i, hi, rfl⟩ := List.getElem_of_mem hr
  rw [e1, e2]
  exact e3 i hi (by omega)

/-! ### The tables at the beginning -/

def tabC0 : Int → Bool := fun _ => false
def tabF0 (G : Gram) : Int → Int → Bool := fun x t => decide (x = t ∧ 0 ≤ x ∧ x ≤ (G.terms.length : Int))
theorem snd0 (G : Gram) : Snd G tabC0 (tabF0 G) := by
  refine ⟨(fun x h => by cases h), fun x t h => ?_⟩
  unfold tabF0 at h
  rw [decide_eq_true_iff] at h
  obtain ⟨rfl, h1, h2⟩ := h
  exact .leaf (by rw [termB_iff]; omega)
theorem leaf0 (G : Gram) : Leaf G (tabF0 G) := fun x hx => by
  unfold tabF0
  rw [decide_eq_true_iff]
  rw [termB_iff] at hx
  omega

/-! ### What stands behind -/

/-- What stands behind the k-th symbol of a right side: begins so, or what stands behind the left side. -/
def behP (C : Int → Bool) (F B : Int → Int → Bool) (r : Int × List Int) (k : Nat) (t : Int) : Bool := lineB C F (r.2.drop (k + 1)) t || (allC C (r.2.drop (k + 1)) && B r.1 t)
def addB (C : Int → Bool) (F B : Int → Int → Bool) (r : Int × List Int) (k : Nat) (x : Int) : Int → Int → Bool := fun y t => B y t || (decide (y = x) && behP C F B r k t)
/-- The k-th symbol of a right side gets nothing more. -/
def PShut (G : Gram) (C : Int → Bool) (F B : Int → Int → Bool) (r : Int × List Int) (k : Nat) : Prop := ∀ hk : k < r.2.length, nonB G r.2[k] = true → ∀ t, behP C F B r k t = true → B r.2[k] t = true
theorem bshut_of {G : Gram} {C : Int → Bool} {F B : Int → Int → Bool} {r : Int × List Int} (h : ∀ k, PShut G C F B r k) : BShut G C F B r := fun pre x post e hn => by
  have hl : pre.length < r.2.length := by rw [e, List.length_append, List.length_cons]; omega
  have hx : r.2[pre.length] = x := by
    have : r.2[pre.length]? = some x := by rw [e]; simp
    rw [List.getElem?_eq_getElem hl] at this
    injection this
  have hd : r.2.drop (pre.length + 1) = post := by
    rw [e, ← List.drop_drop, List.drop_left]
    rfl
  have hp := h pre.length hl (by rw [hx]; exact hn)
  rw [hx] at hp
  unfold behP at hp
  rw [hd] at hp
  exact ⟨fun t ht => hp t (by rw [ht]; rfl), fun ha t ht => hp t (by rw [ha, ht]; simp)⟩
theorem beh_fol {G : Gram} {C : Int → Bool} {F B : Int → Int → Bool} (j : Just G C F) (hb : BSnd G B) {r : Int × List Int} (hr : r ∈ G.rules) {k : Nat} (hk : k < r.2.length) (hn : nonB G r.2[k] = true) {t : Int} (h : behP C F B r k t = true) : Fol G r.2[k] t := by
  have e : r.2 = r.2.take k ++ r.2[k] :: r.2.drop (k + 1) := by
    rw [← List.drop_eq_getElem_cons hk, List.take_append_drop]
  unfold behP at h
  rw [Bool.or_eq_true, Bool.and_eq_true] at h
  rcases h with h | ⟨h1, h2⟩
  · exact .next hr e hn ((j.line _ _).1 h)
  · exact .last hr e hn ((j.all _).1 h1) (hb.fol _ _ h2)
/-- Behind the first j rules of a pass, and the first k symbols of the next one. -/
structure TriedB (G : Gram) (n : Nat) (C : Int → Bool) (F B0 : Int → Int → Bool) (j k : Nat) (B : Int → Int → Bool) (b : Bool) : Prop where
  snd : BSnd G B
  start : B G.start 0 = true
  no : b = false → B = B0 ∧ (∀ i (h : i < G.rules.length), i < j → ∀ l, PShut G C F B0 G.rules[i] l) ∧ ∀ h : j < G.rules.length, ∀ l, l < k → PShut G C F B0 G.rules[j] l
  yes : b = true → missT B (G.terms.length + 1) n < missT B0 (G.terms.length + 1) n
theorem triedB_zero {G : Gram} {n : Nat} {C : Int → Bool} {F B : Int → Int → Bool} (h : BSnd G B) (h0 : B G.start 0 = true) : TriedB G n C F B 0 0 B false :=
  ⟨h, h0, fun _ => ⟨rfl, (fun i _ hi => absurd hi (by omega)), fun _ l hl => absurd hl (by omega)⟩, fun h => by cases h⟩
/-- A symbol that is no nonterminal. -/
theorem TriedB.skip {G : Gram} {n : Nat} {C : Int → Bool} {F B0 B : Int → Int → Bool} {j k : Nat} {b : Bool} (h : TriedB G n C F B0 j k B b) (hj : j < G.rules.length) (hs : ∀ hk : k < G.rules[j].2.length, nonB G G.rules[j].2[k] = false) : TriedB G n C F B0 j (k + 1) B b := by
  refine ⟨h.snd, h.start, fun e => ?_, h.yes⟩
  obtain ⟨e1, e2, e3⟩ := h.no e
  refine ⟨e1, e2, fun hj l hl => ?_⟩
  by_cases he : l = k
  · subst he
    exact fun hk hn => by rw [hs hk] at hn; cases hn
  · exact e3 hj l (by omega)
theorem TriedB.step {G : Gram} {n : Nat} {C : Int → Bool} {F B0 B : Int → Int → Bool} {j k : Nat} {b c : Bool} (h : TriedB G n C F B0 j k B b) (hJ : Just G C F) (hj : j < G.rules.length) (hk : k < G.rules[j].2.length) (hn : nonB G G.rules[j].2[k] = true)
    (h0 : 0 ≤ G.rules[j].2[k]) (h1 : G.rules[j].2[k] < (n : Int)) (hc : c = true ↔ ∃ t, behP C F B G.rules[j] k t = true ∧ B G.rules[j].2[k] t = false) :
    TriedB G n C F B0 j (k + 1) (addB C F B G.rules[j] k G.rules[j].2[k]) (b || c) := by
  have hm := List.getElem_mem hj
  have hbs : BSnd G (addB C F B G.rules[j] k G.rules[j].2[k]) := h.snd.put fun t ht => beh_fol hJ h.snd hm hk hn ht
  have le : ∀ {x t : Int}, B x t = true → addB C F B G.rules[j] k G.rules[j].2[k] x t = true := fun {x t} e => by unfold addB; rw [e]; rfl
  cases c with
  | false =>
    have hsh : ∀ t, behP C F B G.rules[j] k t = true → B G.rules[j].2[k] t = true := fun t ht => by
      cases e : B G.rules[j].2[k] t with
      | true => rfl
      | false => have := hc.2 ⟨t, ht, e⟩; cases this
    have same : addB C F B G.rules[j] k G.rules[j].2[k] = B := by
      funext x t
      unfold addB
      by_cases e : x = G.rules[j].2[k]
      · subst e
        cases ha : behP C F B G.rules[j] k t with
        | false => simp
        | true => simp [hsh t ha]
      · simp [e]
    rw [same, Bool.or_false]
    refine ⟨h.snd, h.start, fun e => ?_, h.yes⟩
    obtain ⟨e1, e2, e3⟩ := h.no e
    refine ⟨e1, e2, fun hj' l hl => ?_⟩
    by_cases he : l = k
    · subst he
      rw [← e1]
      exact fun _ _ t ht => hsh t ht
    · exact e3 hj' l (by omega)
  | true =>
    obtain ⟨t, h2, h3⟩ := hc.1 rfl
    obtain ⟨t0, t1⟩ := fol_range (beh_fol hJ h.snd hm hk hn h2)
    have et : ((t.toNat : Nat) : Int) = t := by omega
    have ex : ((G.rules[j].2[k].toNat : Nat) : Int) = G.rules[j].2[k] := by omega
    have hg : missT (addB C F B G.rules[j] k G.rules[j].2[k]) (G.terms.length + 1) n < missT B (G.terms.length + 1) n :=
      missT_lt (k := G.rules[j].2[k].toNat) (fun x t _ _ e => le e) (by omega)
        (missR_lt (k := t.toNat) (fun i _ e => le e) (by omega) (by rw [ex, et]; exact h3) (by rw [ex, et]; unfold addB; rw [h2]; simp))
    rw [Bool.or_true]
    refine ⟨hbs, le h.start, (fun e => by cases e), fun _ => ?_⟩
    cases b with
    | false =>
      have e1 := (h.no rfl).1
      rw [e1] at hg ⊢
      exact hg
    | true => exact Nat.lt_trans hg (h.yes rfl)
/-- A rule is through. -/
theorem TriedB.next {G : Gram} {n : Nat} {C : Int → Bool} {F B0 B : Int → Int → Bool} {j k : Nat} {b : Bool} (h : TriedB G n C F B0 j k B b) (hj : j < G.rules.length) (hk : ¬ k < G.rules[j].2.length) : TriedB G n C F B0 (j + 1) 0 B b := by
  refine ⟨h.snd, h.start, fun e => ?_, h.yes⟩
  obtain ⟨e1, e2, e3⟩ := h.no e
  refine ⟨e1, fun i hi hl l => ?_, fun _ l hl => absurd hl (by omega)⟩
  by_cases he : i = j
  · subst he
    by_cases hlk : l < k
    · exact e3 hi l hlk
    · exact fun hl2 => absurd hl2 (by omega)
  · exact e2 i hi (by omega) l
theorem TriedB.all {G : Gram} {n : Nat} {C : Int → Bool} {F B0 B : Int → Int → Bool} {j k : Nat} (h : TriedB G n C F B0 j k B false) (hJ : Just G C F) (hj : ¬ j < G.rules.length) : ∀ x t, B x t = true ↔ Fol G x t := by
  obtain ⟨e1, e2, _⟩ := h.no rfl
  refine behind_of hJ h.snd h.start fun r hr => ?_
  obtain ⟨i, hi, rfl⟩ := List.getElem_of_mem hr
  rw [e1]
  exact bshut_of fun l => e2 i hi (by omega) l
/-- Behind the beginning. -/
def tabB0 (G : Gram) : Int → Int → Bool := fun x t => decide (x = G.start ∧ t = 0)
theorem bsnd0 (G : Gram) : BSnd G (tabB0 G) ∧ tabB0 G G.start 0 = true := by
  refine ⟨⟨fun x t h => ?_⟩, by simp [tabB0]⟩
  unfold tabB0 at h
  rw [decide_eq_true_iff] at h
  obtain ⟨rfl, rfl⟩ := h
  exact .start

end Go.Proofs.YtoipinnfmjaaaaaGreatDoor.Fi
