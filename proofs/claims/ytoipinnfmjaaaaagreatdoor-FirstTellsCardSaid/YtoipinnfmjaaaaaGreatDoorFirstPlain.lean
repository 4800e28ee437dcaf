/-
  Plain facts on what symbols begin with and what stands behind them: the least sets, as the document has them; tables of yes and no that are sound and that no rule adds to hold just these sets. No program in it.
-/
import Derived.Test.YtoipinnfmjaaaaaGreatDoorGramPlain
namespace Go.Proofs.YtoipinnfmjaaaaaGreatDoor.Fi
open Go.Proofs.YtoipinnfmjaaaaaGreatDoor.Gr (Gram nonB termB top names nameS checkN termB_iff nonB_iff)
set_option linter.unusedVariables false

/-! ### The sets -/

/-- It can be empty. -/
inductive Can (G : Gram) : Int → Prop
  | mk (r : Int × List Int) : r ∈ G.rules → (∀ y ∈ r.2, Can G y) → Can G r.1
/-- It begins with that terminal, or with the end. -/
inductive Fst (G : Gram) : Int → Int → Prop
  | leaf {x : Int} : x = 0 ∨ termB G x = true → Fst G x x
  | rule {r : Int × List Int} {pre : List Int} {y : Int} {post : List Int} {t : Int} : r ∈ G.rules → r.2 = pre ++ y :: post → (∀ z ∈ pre, Can G z) → Fst G y t → Fst G r.1 t
/-- Symbols in a row begin so. -/
def LineP (G : Gram) (l : List Int) (t : Int) : Prop := ∃ pre y post, l = pre ++ y :: post ∧ (∀ z ∈ pre, Can G z) ∧ Fst G y t
/-- It can stand behind a nonterminal. -/
inductive Fol (G : Gram) : Int → Int → Prop
  | start : Fol G G.start 0
  | next {r : Int × List Int} {pre : List Int} {x : Int} {post : List Int} {t : Int} : r ∈ G.rules → r.2 = pre ++ x :: post → nonB G x = true → LineP G post t → Fol G x t
  | last {r : Int × List Int} {pre : List Int} {x : Int} {post : List Int} {t : Int} : r ∈ G.rules → r.2 = pre ++ x :: post → nonB G x = true → (∀ z ∈ post, Can G z) → Fol G r.1 t → Fol G x t

theorem lineP_nil {G : Gram} {t : Int} : ¬ LineP G [] t := fun ⟨pre, y, post, h, _⟩ => by
  cases pre <;> cases h
theorem lineP_cons {G : Gram} {y : Int} {l : List Int} {t : Int} : LineP G (y :: l) t ↔ Fst G y t ∨ (Can G y ∧ LineP G l t) := by
  constructor
  · rintro ⟨pre, z, post, h, hc, hf⟩
    cases pre with
    | nil =>
      injection h with h1 h2
      subst h1
      exact .inl hf
    | cons a pre =>
      injection h with h1 h2
      subst h1
      exact .inr ⟨hc _ (List.mem_cons_self ..), pre, z, post, h2, fun w hw => hc w (List.mem_cons_of_mem _ hw), hf⟩
  · rintro (h | ⟨h1, pre, z, post, h2, h3, h4⟩)
    · exact ⟨[], y, l, rfl, (fun z hz => by cases hz), h⟩
    · refine ⟨y :: pre, z, post, by rw [h2]; rfl, fun w hw => ?_, h4⟩
      rcases List.mem_cons.1 hw with e | e
      · subst e
        exact h1
      · exact h3 w e
/-- What a right side begins with its left side begins with. -/
theorem Fst.line {G : Gram} {r : Int × List Int} {t : Int} (hr : r ∈ G.rules) (h : LineP G r.2 t) : Fst G r.1 t := by
  obtain ⟨pre, y, post, h1, h2, h3⟩ := h
  exact .rule hr h1 h2 h3
theorem fst_range {G : Gram} {x t : Int} (h : Fst G x t) : 0 ≤ t ∧ t ≤ (G.terms.length : Int) := by
  induction h with
  | leaf h =>
    rcases h with h | h
    · omega
    · have := termB_iff.1 h
      omega
  | rule _ _ _ _ ih => exact ih
theorem line_range {G : Gram} {l : List Int} {t : Int} (h : LineP G l t) : 0 ≤ t ∧ t ≤ (G.terms.length : Int) := by
  obtain ⟨_, _, _, _, _, h⟩ := h
  exact fst_range h
theorem fol_range {G : Gram} {x t : Int} (h : Fol G x t) : 0 ≤ t ∧ t ≤ (G.terms.length : Int) := by
  induction h with
  | start => omega
  | next _ _ _ h => exact line_range h
  | last _ _ _ _ _ ih => exact ih
theorem can_left {G : Gram} {x : Int} (h : Can G x) : ∃ r ∈ G.rules, r.1 = x := by
  cases h with
  | mk r hr _ => exact ⟨r, hr, rfl⟩
theorem fst_in {G : Gram} {x t : Int} (h : Fst G x t) : x = 0 ∨ termB G x = true ∨ ∃ r ∈ G.rules, r.1 = x := by
  cases h with
  | leaf h => exact h.imp id .inl
  | rule hr _ _ _ => exact .inr (.inr ⟨_, hr, rfl⟩)

/-! ### Tables -/

def allC (C : Int → Bool) (l : List Int) : Bool := l.all C
def lineB (C : Int → Bool) (F : Int → Int → Bool) : List Int → Int → Bool
  | [], _ => false
  | y :: l, t => F y t || (C y && lineB C F l t)
theorem allC_iff {C : Int → Bool} {l : List Int} : allC C l = true ↔ ∀ z ∈ l, C z = true := by
  unfold allC
  exact List.all_eq_true
theorem lineB_iff {C : Int → Bool} {F : Int → Int → Bool} {l : List Int} {t : Int} : lineB C F l t = true ↔ ∃ pre y post, l = pre ++ y :: post ∧ (∀ z ∈ pre, C z = true) ∧ F y t = true := by
  induction l with
  | nil =>
    constructor
    · intro h; cases h
    · rintro ⟨pre, y, post, h, _⟩
      cases pre <;> cases h
  | cons a l ih =>
    unfold lineB
    rw [Bool.or_eq_true, Bool.and_eq_true, ih]
    constructor
    · rintro (h | ⟨h1, pre, z, post, h2, h3, h4⟩)
      · exact ⟨[], a, l, rfl, (fun z hz => by cases hz), h⟩
      · refine ⟨a :: pre, z, post, by rw [h2]; rfl, fun w hw => ?_, h4⟩
        rcases List.mem_cons.1 hw with e | e
        · subst e
          exact h1
        · exact h3 w e
    · rintro ⟨pre, z, post, h, hc, hf⟩
      cases pre with
      | nil =>
        injection h with h1 h2
        subst h1
        exact .inl hf
      | cons b pre =>
        injection h with h1 h2
        subst h1
        exact .inr ⟨hc _ (List.mem_cons_self ..), pre, z, post, h2, fun w hw => hc w (List.mem_cons_of_mem _ hw), hf⟩

/-- What the tables say is so. -/
structure Snd (G : Gram) (C : Int → Bool) (F : Int → Int → Bool) : Prop where
  can : ∀ x, C x = true → Can G x
  fst : ∀ x t, F x t = true → Fst G x t
/-- The leaves stand in them. -/
def Leaf (G : Gram) (F : Int → Int → Bool) : Prop := ∀ x, x = 0 ∨ termB G x = true → F x x = true
/-- A rule adds nothing. -/
structure Shut (C : Int → Bool) (F : Int → Int → Bool) (r : Int × List Int) : Prop where
  can : allC C r.2 = true → C r.1 = true
  fst : ∀ t, lineB C F r.2 t = true → F r.1 t = true
theorem Snd.all {G : Gram} {C : Int → Bool} {F : Int → Int → Bool} (h : Snd G C F) {l : List Int} (hl : allC C l = true) : ∀ z ∈ l, Can G z := fun z hz => h.can z (allC_iff.1 hl z hz)
theorem Snd.line {G : Gram} {C : Int → Bool} {F : Int → Int → Bool} (h : Snd G C F) {l : List Int} {t : Int} (hl : lineB C F l t = true) : LineP G l t := by
  obtain ⟨pre, y, post, h1, h2, h3⟩ := lineB_iff.1 hl
  exact ⟨pre, y, post, h1, fun z hz => h.can z (h2 z hz), h.fst y t h3⟩
/-- Sound tables to which no rule adds hold just the sets. -/
structure Just (G : Gram) (C : Int → Bool) (F : Int → Int → Bool) : Prop where
  can : ∀ x, C x = true ↔ Can G x
  fst : ∀ x t, F x t = true ↔ Fst G x t
theorem just_of {G : Gram} {C : Int → Bool} {F : Int → Int → Bool} (h : Snd G C F) (hl : Leaf G F) (hs : ∀ r ∈ G.rules, Shut C F r) : Just G C F := by
  have hc : ∀ x, Can G x → C x = true := fun x k => by
    induction k with
    | mk r hr _ ih => exact (hs r hr).can (allC_iff.2 fun z hz => ih z hz)
  refine ⟨fun x => ⟨h.can x, hc x⟩, fun x t => ⟨h.fst x t, fun k => ?_⟩⟩
  induction k with
  | leaf k => exact hl _ k
  | rule hr h1 h2 _ ih => exact (hs _ hr).fst _ (lineB_iff.2 ⟨_, _, _, h1, fun z hz => hc z (h2 z hz), ih⟩)
theorem Just.all {G : Gram} {C : Int → Bool} {F : Int → Int → Bool} (h : Just G C F) (l : List Int) : allC C l = true ↔ ∀ z ∈ l, Can G z := by
  rw [allC_iff]
  exact ⟨fun k z hz => (h.can z).1 (k z hz), fun k z hz => (h.can z).2 (k z hz)⟩
theorem Just.line {G : Gram} {C : Int → Bool} {F : Int → Int → Bool} (h : Just G C F) (l : List Int) (t : Int) : lineB C F l t = true ↔ LineP G l t := by
  rw [lineB_iff]
  constructor
  · rintro ⟨pre, y, post, h1, h2, h3⟩
    exact ⟨pre, y, post, h1, fun z hz => (h.can z).1 (h2 z hz), (h.fst y t).1 h3⟩
  · rintro ⟨pre, y, post, h1, h2, h3⟩
    exact ⟨pre, y, post, h1, fun z hz => (h.can z).2 (h2 z hz), (h.fst y t).2 h3⟩

/-! ### What a rule adds -/

def addC (C : Int → Bool) (r : Int × List Int) : Int → Bool := fun x => C x || (decide (x = r.1) && allC C r.2)
def addF (C : Int → Bool) (F : Int → Int → Bool) (r : Int × List Int) : Int → Int → Bool := fun x t => F x t || (decide (x = r.1) && lineB C F r.2 t)
theorem Snd.addF {G : Gram} {C : Int → Bool} {F : Int → Int → Bool} (h : Snd G C F) {r : Int × List Int} (hr : r ∈ G.rules) : Snd G C (addF C F r) := by
  refine ⟨h.can, fun x t k => ?_⟩
  unfold Fi.addF at k
  rw [Bool.or_eq_true, Bool.and_eq_true, decide_eq_true_iff] at k
  rcases k with k | ⟨e, k⟩
  · exact h.fst x t k
  · subst e
    exact .line hr (h.line k)
theorem Snd.addC {G : Gram} {C : Int → Bool} {F : Int → Int → Bool} (h : Snd G C F) {r : Int × List Int} (hr : r ∈ G.rules) : Snd G (addC C r) F := by
  refine ⟨fun x k => ?_, h.fst⟩
  unfold Fi.addC at k
  rw [Bool.or_eq_true, Bool.and_eq_true, decide_eq_true_iff] at k
  rcases k with k | ⟨e, k⟩
  · exact h.can x k
  · subst e
    exact .mk r hr (h.all k)
theorem addC_same {C : Int → Bool} {r : Int × List Int} (h : allC C r.2 = true → C r.1 = true) : addC C r = C := by
  funext x
  unfold addC
  by_cases e : x = r.1
  · subst e
    cases ha : allC C r.2 with
    | false => simp
    | true => simp [h ha]
  · simp [e]
theorem addF_same {C : Int → Bool} {F : Int → Int → Bool} {r : Int × List Int} (h : ∀ t, lineB C F r.2 t = true → F r.1 t = true) : addF C F r = F := by
  funext x t
  unfold addF
  by_cases e : x = r.1
  · subst e
    cases ha : lineB C F r.2 t with
    | false => simp
    | true => simp [h t ha]
  · simp [e]

/-! ### What stands behind -/

structure BSnd (G : Gram) (B : Int → Int → Bool) : Prop where
  fol : ∀ x t, B x t = true → Fol G x t
/-- A rule adds nothing behind its symbols. -/
def BShut (G : Gram) (C : Int → Bool) (F B : Int → Int → Bool) (r : Int × List Int) : Prop :=
  ∀ pre x post, r.2 = pre ++ x :: post → nonB G x = true → (∀ t, lineB C F post t = true → B x t = true) ∧ (allC C post = true → ∀ t, B r.1 t = true → B x t = true)
theorem behind_of {G : Gram} {C : Int → Bool} {F B : Int → Int → Bool} (j : Just G C F) (h : BSnd G B) (h0 : B G.start 0 = true) (hs : ∀ r ∈ G.rules, BShut G C F B r) : ∀ x t, B x t = true ↔ Fol G x t := fun x t => by
  refine ⟨h.fol x t, fun k => ?_⟩
  induction k with
  | start => exact h0
  | next hr h1 h2 h3 => exact (hs _ hr _ _ _ h1 h2).1 _ ((j.line _ _).2 h3)
  | last hr h1 h2 h3 _ ih => exact (hs _ hr _ _ _ h1 h2).2 ((j.all _).2 h3) _ ih
/-- What is put behind a symbol of a right side. -/
theorem BSnd.put {G : Gram} {B : Int → Int → Bool} (h : BSnd G B) {x : Int} {P : Int → Bool} (hP : ∀ t, P t = true → Fol G x t) : BSnd G (fun y t => B y t || (decide (y = x) && P t)) := by
  refine ⟨fun y t k => ?_⟩
  rw [Bool.or_eq_true, Bool.and_eq_true, decide_eq_true_iff] at k
  rcases k with k | ⟨e, k⟩
  · exact h.fol y t k
  · subst e
    exact hP t k

/-! ### As yes and no -/

noncomputable def canB (G : Gram) (x : Int) : Bool := @decide (Can G x) (Classical.propDecidable _)
noncomputable def fstB (G : Gram) (x t : Int) : Bool := @decide (Fst G x t) (Classical.propDecidable _)
noncomputable def folB (G : Gram) (x t : Int) : Bool := @decide (Fol G x t) (Classical.propDecidable _)
theorem canB_iff {G : Gram} {x : Int} : canB G x = true ↔ Can G x := by unfold canB; exact @decide_eq_true_iff _ (Classical.propDecidable _)
theorem fstB_iff {G : Gram} {x t : Int} : fstB G x t = true ↔ Fst G x t := by unfold fstB; exact @decide_eq_true_iff _ (Classical.propDecidable _)
theorem folB_iff {G : Gram} {x t : Int} : folB G x t = true ↔ Fol G x t := by unfold folB; exact @decide_eq_true_iff _ (Classical.propDecidable _)
theorem just_b (G : Gram) : Just G (canB G) (fstB G) := ⟨fun _ => canB_iff, fun _ _ => fstB_iff⟩
theorem Just.eq {G : Gram} {C : Int → Bool} {F : Int → Int → Bool} (h : Just G C F) : C = canB G ∧ F = fstB G := by
  constructor
  · funext x
    rw [Bool.eq_iff_iff, h.can, canB_iff]
  · funext x t
    rw [Bool.eq_iff_iff, h.fst, fstB_iff]

/-! ### As lists -/

/-- The numbers below n that are there, rising. -/
def lst (P : Int → Bool) (n : Nat) : List Int := ((List.range n).filter fun i : Nat => P (i : Int)).map fun i : Nat => (i : Int)
theorem mem_lst {P : Int → Bool} {n : Nat} {t : Int} : t ∈ lst P n ↔ 0 ≤ t ∧ t < (n : Int) ∧ P t = true := by
  unfold lst
  rw [List.mem_map]
  constructor
  · rintro ⟨i, hi, rfl⟩
    rw [List.mem_filter, List.mem_range] at hi
    exact ⟨by omega, by omega, hi.2⟩
  · rintro ⟨h0, h1, h2⟩
    have e : ((t.toNat : Nat) : Int) = t := by omega
    exact ⟨t.toNat, by rw [List.mem_filter, List.mem_range]; exact ⟨by omega, by rw [e]; exact h2⟩, e⟩
theorem lst_zero (P : Int → Bool) : lst P 0 = [] := rfl
theorem lst_hit {P : Int → Bool} {n : Nat} (h : P (n : Int) = true) : lst P (n + 1) = lst P n ++ [(n : Int)] := by
  unfold lst
  rw [List.range_succ, List.filter_append, List.map_append]
  simp [h]
theorem lst_miss {P : Int → Bool} {n : Nat} (h : P (n : Int) = false) : lst P (n + 1) = lst P n := by
  unfold lst
  rw [List.range_succ, List.filter_append, List.map_append]
  simp [h]
theorem lst_len (P : Int → Bool) (n : Nat) : (lst P n).length ≤ n := by
  unfold lst
  rw [List.length_map]
  exact Nat.le_trans (List.length_filter_le _ _) (by simp)
theorem lst_congr {P Q : Int → Bool} {n : Nat} (h : ∀ i : Nat, i < n → P (i : Int) = Q (i : Int)) : lst P n = lst Q n := by
  unfold lst
  congr 1
  exact List.filter_congr fun i hi => h i (List.mem_range.1 hi)
theorem lst_none {P : Int → Bool} {n : Nat} (h : ∀ i : Nat, i < n → P (i : Int) = false) : lst P n = [] := by
  rw [List.eq_nil_iff_forall_not_mem]
  intro t ht
  obtain ⟨h0, h1, h2⟩ := mem_lst.1 ht
  have := h t.toNat (by omega)
  have e : ((t.toNat : Nat) : Int) = t := by omega
  rw [e, h2] at this
  cases this

/-! ### How many are missing -/

def missR (P : Int → Bool) : Nat → Nat
  | 0 => 0
  | n + 1 => missR P n + if P (n : Int) = true then 0 else 1
theorem missR_le {P Q : Int → Bool} {n : Nat} (h : ∀ i : Nat, i < n → P (i : Int) = true → Q (i : Int) = true) : missR Q n ≤ missR P n := by
  induction n with
  | zero => exact Nat.le_refl _
  | succ n ih =>
    have h1 := ih fun i hi => h i (by omega)
    unfold missR
    by_cases hp : P (n : Int) = true
    · rw [if_pos hp, if_pos (h n (by omega) hp)]
      exact h1
    · rw [if_neg hp]
      split <;> omega
theorem missR_lt {P Q : Int → Bool} {n k : Nat} (h : ∀ i : Nat, i < n → P (i : Int) = true → Q (i : Int) = true) (hk : k < n) (hp : P (k : Int) = false) (hq : Q (k : Int) = true) : missR Q n < missR P n := by
  induction n with
  | zero => omega
  | succ n ih =>
    unfold missR
    by_cases e : k = n
    · subst e
      have h1 := missR_le (n := k) fun i hi => h i (by omega)
      rw [if_pos hq, if_neg (by rw [hp]; decide)]
      omega
    · have h1 := ih (fun i hi => h i (by omega)) (by omega)
      by_cases hp2 : P (n : Int) = true
      · rw [if_pos hp2, if_pos (h n (by omega) hp2)]
        exact h1
      · rw [if_neg hp2]
        split <;> omega
def missT (F : Int → Int → Bool) (m : Nat) : Nat → Nat
  | 0 => 0
  | n + 1 => missT F m n + missR (F (n : Int)) m
theorem missT_le {F H : Int → Int → Bool} {m n : Nat} (h : ∀ x t : Nat, x < n → t < m → F (x : Int) (t : Int) = true → H (x : Int) (t : Int) = true) : missT H m n ≤ missT F m n := by
  induction n with
  | zero => exact Nat.le_refl _
  | succ n ih => exact Nat.add_le_add (ih fun x t hx => h x t (by omega)) (missR_le fun t ht => h n t (by omega) ht)
theorem missT_lt {F H : Int → Int → Bool} {m n k : Nat} (h : ∀ x t : Nat, x < n → t < m → F (x : Int) (t : Int) = true → H (x : Int) (t : Int) = true) (hk : k < n) (hr : missR (H (k : Int)) m < missR (F (k : Int)) m) : missT H m n < missT F m n := by
  induction n with
  | zero => omega
  | succ n ih =>
    show missT H m n + missR (H (n : Int)) m < missT F m n + missR (F (n : Int)) m
    by_cases e : k = n
    · subst e
      have := missT_le (F := F) (H := H) (m := m) (n := k) fun x t hx => h x t (by omega)
      omega
    · have h1 := ih (fun x t hx => h x t (by omega)) (by omega)
      have h2 := missR_le (P := F (n : Int)) (Q := H (n : Int)) (n := m) fun t ht => h n t (by omega) ht
      omega

end Go.Proofs.YtoipinnfmjaaaaaGreatDoor.Fi
