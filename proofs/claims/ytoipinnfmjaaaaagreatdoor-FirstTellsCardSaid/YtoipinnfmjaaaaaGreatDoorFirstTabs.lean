/-
  Plain facts on the program's passes over the rules of a grammar: first what can be empty is settled, then what symbols begin with; the head of symbols in a row; tables of yes and no as sets of numbers. No program in it.
-/
import Derived.Test.YtoipinnfmjaaaaaGreatDoorFirstPass
import Derived.Test.YtoipinnfmjaaaaaGreatDoorBitsPlain
namespace Go.Proofs.YtoipinnfmjaaaaaGreatDoor.Fi
open Go.Proofs.YtoipinnfmjaaaaaGreatDoor.Gr (Gram nonB termB top names nameS checkN termB_iff nonB_iff)
open Go.Proofs.YtoipinnfmjaaaaaGreatDoor.Bt (Upto has putI putR orr gains put els els_at)
set_option linter.unusedVariables false

/-! ### What can be empty, alone -/

/-- Behind the first j rules of a pass. -/
structure TriedE (G : Gram) (n : Nat) (C0 : Int → Bool) (j : Nat) (C : Int → Bool) (b : Bool) : Prop where
  snd : ∀ x, C x = true → Can G x
  no : b = false → C = C0 ∧ ∀ i (h : i < G.rules.length), i < j → allC C0 G.rules[i].2 = true → C0 G.rules[i].1 = true
  yes : b = true → missR C n < missR C0 n
theorem triedE_zero {G : Gram} {n : Nat} {C : Int → Bool} (h : ∀ x, C x = true → Can G x) : TriedE G n C 0 C false := ⟨h, fun _ => ⟨rfl, fun i _ hi => absurd hi (by omega)⟩, fun h => by cases h⟩
theorem TriedE.step {G : Gram} {n : Nat} {C0 C : Int → Bool} {j : Nat} {b c : Bool} (h : TriedE G n C0 j C b) (hl : Lefts G n) (hj : j < G.rules.length) (hc : c = true ↔ allC C G.rules[j].2 = true ∧ C G.rules[j].1 = false) :
    TriedE G n C0 (j + 1) (addC C G.rules[j]) (b || c) := by
  have hm := List.getElem_mem hj
  have hs : ∀ x, addC C G.rules[j] x = true → Can G x := fun x k => by
    unfold addC at k
    rw [Bool.or_eq_true, Bool.and_eq_true, decide_eq_true_iff] at k
    rcases k with k | ⟨e, k⟩
    · exact h.snd x k
    · subst e
      exact .mk _ hm fun z hz => h.snd z (allC_iff.1 k z hz)
  cases c with
  | false =>
    have hg : allC C G.rules[j].2 = true → C G.rules[j].1 = true := fun k => by
      cases e : C G.rules[j].1 with
      | true => rfl
      | false => have := hc.2 ⟨k, e⟩; cases this
    rw [addC_same hg, Bool.or_false]
    refine ⟨h.snd, fun e => ?_, h.yes⟩
    obtain ⟨e1, e3⟩ := h.no e
    refine ⟨e1, fun i hi hl => ?_⟩
    by_cases he : i = j
    · subst he
      rw [← e1]
      exact hg
    · exact e3 i hi (by omega)
  | true =>
    obtain ⟨h2, h3⟩ := hc.1 rfl
    obtain ⟨l0, l1⟩ := hl _ hm
    have e : ((G.rules[j].1.toNat : Nat) : Int) = G.rules[j].1 := by omega
    have hg := missR_lt (P := C) (Q := addC C G.rules[j]) (n := n) (k := G.rules[j].1.toNat) (fun i _ k => addC_le k) (by omega) (by rw [e]; exact h3) (by rw [e]; exact addC_hit h2)
    rw [Bool.or_true]
    refine ⟨hs, (fun e => by cases e), fun _ => ?_⟩
    cases b with
    | false =>
      have e1 := (h.no rfl).1
      rw [e1] at hg ⊢
      exact hg
    | true => exact Nat.lt_trans hg (h.yes rfl)
theorem TriedE.all {G : Gram} {n : Nat} {C0 C : Int → Bool} {j : Nat} (h : TriedE G n C0 j C false) (hj : ¬ j < G.rules.length) : C = canB G := by
  obtain ⟨e1, e3⟩ := h.no rfl
  have hc : ∀ x, Can G x → C x = true := fun x k => by
    induction k with
    | mk r hr _ ih =>
      obtain ⟨i, hi, rfl⟩ := List.getElem_of_mem hr
      rw [e1] at ih ⊢
      exact e3 i hi (by omega) (allC_iff.2 fun z hz => ih z hz)
  funext x
  rw [Bool.eq_iff_iff, canB_iff]
  exact ⟨h.snd x, hc x⟩

/-! ### What symbols begin with, once that is settled -/

/-- Behind the first j rules of a pass. -/
structure TriedG (G : Gram) (n : Nat) (F0 : Int → Int → Bool) (j : Nat) (F : Int → Int → Bool) (b : Bool) : Prop where
  snd : Snd G (canB G) F
  leaf : Leaf G F
  no : b = false → F = F0 ∧ ∀ i (h : i < G.rules.length), i < j → ∀ t, lineB (canB G) F0 G.rules[i].2 t = true → F0 G.rules[i].1 t = true
  yes : b = true → missT F (G.terms.length + 1) n < missT F0 (G.terms.length + 1) n
theorem triedG_zero {G : Gram} {n : Nat} {F : Int → Int → Bool} (h : Snd G (canB G) F) (hl : Leaf G F) : TriedG G n F 0 F false := ⟨h, hl, fun _ => ⟨rfl, fun i _ hi => absurd hi (by omega)⟩, fun h => by cases h⟩
theorem TriedG.step {G : Gram} {n : Nat} {F0 F : Int → Int → Bool} {j : Nat} {b c : Bool} (h : TriedG G n F0 j F b) (hl : Lefts G n) (hj : j < G.rules.length) (hc : c = true ↔ ∃ t, lineB (canB G) F G.rules[j].2 t = true ∧ F G.rules[j].1 t = false) :
    TriedG G n F0 (j + 1) (addF (canB G) F G.rules[j]) (b || c) := by
  have hm := List.getElem_mem hj
  have hs := h.snd.addF hm
  have hlf : Leaf G (addF (canB G) F G.rules[j]) := fun x hx => addF_le (h.leaf x hx)
  cases c with
  | false =>
    have hg : ∀ t, lineB (canB G) F G.rules[j].2 t = true → F G.rules[j].1 t = true := fun t k => by
      cases e : F G.rules[j].1 t with
      | true => rfl
      | false => have := hc.2 ⟨t, k, e⟩; cases this
    rw [addF_same hg, Bool.or_false]
    refine ⟨h.snd, h.leaf, fun e => ?_, h.yes⟩
    obtain ⟨e1, e3⟩ := h.no e
    refine ⟨e1, fun i hi hl => ?_⟩
    by_cases he : i = j
    · subst he
      rw [← e1]
      exact hg
    · exact e3 i hi (by omega)
  | true =>
    obtain ⟨t, h2, h3⟩ := hc.1 rfl
    obtain ⟨t0, t1⟩ := line_range (h.snd.line h2)
    obtain ⟨l0, l1⟩ := hl _ hm
    have et : ((t.toNat : Nat) : Int) = t := by omega
    have e : ((G.rules[j].1.toNat : Nat) : Int) = G.rules[j].1 := by omega
    have hg := missT_lt (F := F) (H := addF (canB G) F G.rules[j]) (m := G.terms.length + 1) (n := n) (k := G.rules[j].1.toNat) (fun x t _ _ k => addF_le k) (by omega)
      (missR_lt (k := t.toNat) (fun i _ k => addF_le k) (by omega) (by rw [e, et]; exact h3) (by rw [e, et]; exact addF_hit h2))
    rw [Bool.or_true]
    refine ⟨hs, hlf, (fun e => by cases e), fun _ => ?_⟩
    cases b with
    | false =>
      have e1 := (h.no rfl).1
      rw [e1] at hg ⊢
      exact hg
    | true => exact Nat.lt_trans hg (h.yes rfl)
theorem TriedG.all {G : Gram} {n : Nat} {F0 F : Int → Int → Bool} {j : Nat} (h : TriedG G n F0 j F false) (hj : ¬ j < G.rules.length) : F = fstB G := by
  obtain ⟨e1, e3⟩ := h.no rfl
  have hJ : Just G (canB G) F := just_of h.snd h.leaf fun r hr => by
    obtain ⟨i, hi, rfl⟩ := List.getElem_of_mem hr
    refine ⟨fun k => canB_iff.2 (.mk _ hr fun z hz => canB_iff.1 (allC_iff.1 k z hz)), ?_⟩
    rw [e1]
    exact e3 i hi (by omega)
  exact hJ.eq.2
theorem fol_eq {G : Gram} {B : Int → Int → Bool} (h : ∀ x t, B x t = true ↔ Fol G x t) : B = folB G := by
  funext x t
  rw [Bool.eq_iff_iff, h, folB_iff]
theorem tabC0_snd (G : Gram) : ∀ x, tabC0 x = true → Can G x := fun x h => by cases h
theorem snd0' (G : Gram) : Snd G (canB G) (tabF0 G) := ⟨fun x h => canB_iff.1 h, (snd0 G).fst⟩

/-! ### The head of symbols -/

/-- How many symbols there are, up to the first one that cannot be empty. -/
def headN (C : Int → Bool) : List Int → Nat
  | [] => 0
  | y :: l => if C y = true then headN C l + 1 else 1
theorem headN_le (C : Int → Bool) (l : List Int) : headN C l ≤ l.length := by
  induction l with
  | nil => exact Nat.le_refl _
  | cons y l ih =>
    unfold headN
    rw [List.length_cons]
    split <;> omega
theorem headN_hit {C : Int → Bool} : ∀ {l : List Int} {i : Nat} (h : i < l.length), (∀ k (hk : k < l.length), k < i → C l[k] = true) → C l[i] = false → headN C l = i + 1 ∧ allC C l = false
  | [], i, h, _, _ => absurd h (by simp)
  | y :: l, 0, _, _, hc => by
    have hy : C y = false := hc
    unfold headN
    rw [hy]
    exact ⟨rfl, by unfold allC; rw [List.all_cons, hy]; rfl⟩
  | y :: l, i + 1, h, hb, hc => by
    have hy : C y = true := hb 0 (by simp) (by omega)
    obtain ⟨e1, e2⟩ := headN_hit (C := C) (l := l) (i := i) (by simpa using h) (fun k hk hki => hb (k + 1) (by simpa using hk) (by omega)) hc
    unfold headN
    rw [hy, e1]
    refine ⟨rfl, ?_⟩
    unfold allC at e2 ⊢
    rw [List.all_cons, hy, e2]
    rfl
theorem headN_all {C : Int → Bool} : ∀ {l : List Int}, (∀ k (hk : k < l.length), C l[k] = true) → headN C l = l.length ∧ allC C l = true
  | [], _ => ⟨rfl, rfl⟩
  | y :: l, hb => by
    have hy : C y = true := hb 0 (by simp)
    obtain ⟨e1, e2⟩ := headN_all (C := C) (l := l) (fun k hk => hb (k + 1) (by simpa using hk))
    unfold headN
    rw [hy, e1]
    refine ⟨rfl, ?_⟩
    unfold allC at e2 ⊢
    rw [List.all_cons, hy, e2]
    rfl
theorem head_line (C : Int → Bool) (F : Int → Int → Bool) (t : Int) : ∀ l : List Int, ((l.take (headN C l)).any fun y => F y t) = lineB C F l t
  | [] => rfl
  | y :: l => by
    have ih := head_line C F t l
    unfold headN lineB
    cases hy : C y with
    | true => simp only [if_pos, List.take_succ_cons, List.any_cons, ih, Bool.true_and]
    | false => simp

/-! ### Tables as sets of numbers -/

/-- A row of a table, as a set of numbers. -/
def rw' (P : Int → Bool) : Nat → Bool := fun i => P (i : Int)
/-- A table says nothing of what is not below n. -/
def Rng (P : Int → Bool) (n : Nat) : Prop := ∀ x, P x = true → 0 ≤ x ∧ x < (n : Int)
theorem has_rw {P : Int → Bool} {n : Nat} (h : Rng P n) (x : Int) : has (rw' P) x = P x := by
  unfold has rw'
  by_cases h0 : 0 ≤ x
  · rw [decide_eq_true h0, show ((x.toNat : Nat) : Int) = x from by omega]
    rfl
  · rw [decide_eq_false h0]
    cases e : P x with
    | false => rfl
    | true => exact absurd (h x e).1 h0
theorem upto_rw {P : Int → Bool} {n : Nat} (h : Rng P n) (hn : n ≤ 4096) : Upto (rw' P) n := ⟨hn, fun i hi => by
  unfold rw'
  cases e : P (i : Int) with
  | false => rfl
  | true => have := (h _ e).2; omega⟩
theorem els_rw {P : Int → Bool} {n : Nat} (h : Rng P n) (hn : n ≤ 4096) : (els (rw' P)).map (fun i : Nat => (i : Int)) = lst P n := by
  rw [els_at (upto_rw h hn)]
  rfl
/-- What is joined to a set: the rows of some symbols. -/
def jn (B : Nat → Bool) (F : Int → Int → Bool) (X : List Int) : Nat → Bool := fun i => B i || X.any fun y => F y (i : Int)
theorem jn_nil (B : Nat → Bool) (F : Int → Int → Bool) : jn B F [] = B := by
  funext i
  simp [jn]
theorem jn_step {B : Nat → Bool} {F : Int → Int → Bool} {n : Nat} (X : List Int) {y : Int} (h : Rng (F y) n) : orr (jn B F X) n (rw' (F y)) = jn B F (X ++ [y]) := by
  funext i
  unfold orr jn rw'
  rw [List.any_append]
  cases e : F y (i : Int) with
  | false => simp [e]
  | true =>
    have := (h _ e).2
    have h2 : i < n := by omega
    simp [e, h2]
/-- A set to which its own row is joined. -/
theorem jn_self {B : Nat → Bool} {F : Int → Int → Bool} (X : List Int) {y : Int} (h : B = rw' (F y)) : jn B F X = jn B F (X ++ [y]) := by
  funext i
  unfold jn
  rw [List.any_append, h]
  unfold rw'
  cases e : F y (i : Int) <;> simp [e]
theorem jn_none {B : Nat → Bool} {F : Int → Int → Bool} (X : List Int) {y : Int} (h : ∀ t, F y t = false) : jn B F X = jn B F (X ++ [y]) := by
  funext i
  unfold jn
  rw [List.any_append]
  simp [h]
/-- Has the joining changed something? -/
def Gn (B : Nat → Bool) (F : Int → Int → Bool) (X : List Int) (b : Bool) : Prop := b = true ↔ ∃ i : Nat, (∃ y ∈ X, F y (i : Int) = true) ∧ B i = false
theorem gn_nil (B : Nat → Bool) (F : Int → Int → Bool) : Gn B F [] false := by
  unfold Gn
  constructor
  · intro h; cases h
  · rintro ⟨_, ⟨_, h, _⟩, _⟩
    cases h
theorem gn_step {B : Nat → Bool} {F : Int → Int → Bool} {n : Nat} {X : List Int} {y : Int} {b : Bool} (h : Rng (F y) n) (hb : Gn B F X b) : Gn B F (X ++ [y]) (b || gains (jn B F X) n (rw' (F y))) := by
  unfold Gn at hb ⊢
  rw [Bool.or_eq_true, hb]
  constructor
  · rintro (⟨i, ⟨z, hz, h1⟩, h2⟩ | hg)
    · exact ⟨i, ⟨z, List.mem_append_left _ hz, h1⟩, h2⟩
    · unfold gains at hg
      rw [List.any_eq_true] at hg
      obtain ⟨i, hi, h1⟩ := hg
      rw [Bool.and_eq_true] at h1
      refine ⟨i, ⟨y, by simp, h1.1⟩, ?_⟩
      have h2 := h1.2
      unfold jn at h2
      cases e : B i with
      | false => rfl
      | true => rw [e] at h2; simp at h2
  · rintro ⟨i, ⟨z, hz, h1⟩, h2⟩
    rcases List.mem_append.1 hz with hz | hz
    · exact .inl ⟨i, ⟨z, hz, h1⟩, h2⟩
    · rw [List.mem_singleton] at hz
      subst hz
      by_cases e : ∃ y ∈ X, F y (i : Int) = true
      · exact .inl ⟨i, e, h2⟩
      · refine .inr (Bt.gains_yes (i := i) (by have := (h _ h1).2; omega) ?_ h1)
        unfold jn
        rw [h2, Bool.false_or, List.any_eq_false]
        exact fun y hy k => e ⟨y, hy, k⟩
theorem gn_same {B : Nat → Bool} {F : Int → Int → Bool} {X : List Int} {y : Int} {b : Bool} (h : ∀ i : Nat, F y (i : Int) = true → B i = true) (hb : Gn B F X b) : Gn B F (X ++ [y]) b := by
  unfold Gn at hb ⊢
  rw [hb]
  constructor
  · rintro ⟨i, ⟨z, hz, h1⟩, h2⟩
    exact ⟨i, ⟨z, List.mem_append_left _ hz, h1⟩, h2⟩
  · rintro ⟨i, ⟨z, hz, h1⟩, h2⟩
    rcases List.mem_append.1 hz with hz | hz
    · exact ⟨i, ⟨z, hz, h1⟩, h2⟩
    · rw [List.mem_singleton] at hz
      subst hz
      rw [h i h1] at h2
      cases h2

end Go.Proofs.YtoipinnfmjaaaaaGreatDoor.Fi
