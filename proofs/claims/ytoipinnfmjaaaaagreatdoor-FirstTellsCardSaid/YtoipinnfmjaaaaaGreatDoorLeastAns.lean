/-
  Plain facts on answers as the program and the plain answers hold them: a word's length and its numbers, what a loop over symbols has put together so far, which of two answers is better. No program in it.
-/
import Derived.Test.YtoipinnfmjaaaaaGreatDoorLeastChain
namespace Go.Proofs.YtoipinnfmjaaaaaGreatDoor.Le
open Go.Proofs.YtoipinnfmjaaaaaGreatDoor.Gr (Gram nonB termB top names nameS checkN termB_iff nonB_iff)
set_option linter.unusedVariables false

/-- The length as the program keeps it: of what is too long, and of none, a number of its own. -/
def lenA : Ans → Nat
  | .none => 4098
  | .far => 4097
  | .is w => w.length
def wordA : Ans → List Int
  | .is w => w
  | _ => []
def hasA : Ans → Bool
  | .none => false
  | _ => true
def farA : Ans → Bool
  | .far => true
  | _ => false
def isA : Ans → Bool
  | .is _ => true
  | _ => false
/-- What Length answers. -/
def telA : Ans → Int
  | .none => -1
  | .far => 4097
  | .is w => w.length

/-- An answer within bounds. -/
def Bd (a : Ans) : Prop := ∀ x, a = .is x → x.length ≤ 4096
def Bnd (T : Int → Ans) : Prop := ∀ s, Bd (T s)
theorem bd_none : Bd .none := fun x h => by cases h
theorem bd_far : Bd .far := fun x h => by cases h
theorem bd_is {w : List Int} (h : w.length ≤ 4096) : Bd (.is w) := fun x e => by injection e with e; subst e; exact h
theorem lenA_le {a : Ans} (h : Bd a) : lenA a ≤ 4098 := by
  cases a with
  | none => exact Nat.le_refl _
  | far => show (4097 : Nat) ≤ 4098; omega
  | is w => have := h w rfl; show w.length ≤ 4098; omega
theorem wordA_le {a : Ans} (h : Bd a) : (wordA a).length ≤ 4096 := by
  cases a with
  | none => exact Nat.zero_le _
  | far => exact Nat.zero_le _
  | is w => exact h w rfl
theorem len_none {a : Ans} (h : Bd a) : lenA a = 4098 ↔ a = .none := by
  cases a with
  | none => exact ⟨fun _ => rfl, fun _ => rfl⟩
  | far => exact ⟨fun k => absurd k (by show ¬ (4097 : Nat) = 4098; omega), fun k => by cases k⟩
  | is w => exact ⟨fun k => absurd k (by have := h w rfl; show ¬ w.length = 4098; omega), fun k => by cases k⟩
theorem len_is {a : Ans} (h : Bd a) : lenA a ≤ 4096 ↔ isA a = true := by
  cases a with
  | none => exact ⟨fun k => absurd k (by show ¬ (4098 : Nat) ≤ 4096; omega), fun k => by cases k⟩
  | far => exact ⟨fun k => absurd k (by show ¬ (4097 : Nat) ≤ 4096; omega), fun k => by cases k⟩
  | is w => exact ⟨fun _ => rfl, fun _ => h w rfl⟩
theorem isA_of {a : Ans} (h : isA a = true) : a = .is (wordA a) := by cases a <;> first | rfl | cases h
theorem isA_not {a : Ans} (h : isA a = false) : wordA a = [] := by cases a <;> first | rfl | cases h
theorem lenA_of {a : Ans} (h : isA a = true) : lenA a = (wordA a).length := by cases a <;> first | rfl | cases h
theorem tel_len {a : Ans} (h : Bd a) : telA a = if lenA a = 4098 then -1 else (lenA a : Int) := by
  by_cases k : a = .none
  · subst k
    rfl
  · rw [if_neg fun e => k ((len_none h).1 e)]
    cases a with
    | none => exact absurd rfl k
    | far => rfl
    | is w => rfl

/-! ### Put together -/

def J (T : Int → Ans) (l : List Int) : Ans := joinS 4096 T l
theorem bd_join (T : Int → Ans) (l : List Int) : Bd (J T l) := fun x h => join_le h

/-- How long the first k together are, none of which has none. -/
def SumTo (T : Int → Ans) (l : List Int) (k n : Nat) : Prop := J T (l.take k) ≠ .none ∧ n = lenA (J T (l.take k))
theorem j_take {T : Int → Ans} (hT : Bnd T) {l : List Int} {k : Nat} (hk : k < l.length) : J T (l.take (k + 1)) = putA 4096 (J T (l.take k)) (T l[k]) := join_take hk (hT l[k])
theorem sum_zero (T : Int → Ans) (l : List Int) : SumTo T l 0 0 := ⟨(fun h => by cases h), rfl⟩
theorem sum_le {T : Int → Ans} {l : List Int} {k n : Nat} (h : SumTo T l k n) : n ≤ 4097 := by
  have h1 := lenA_le (bd_join T (l.take k))
  have h2 := h.2
  have h3 : lenA (J T (l.take k)) ≠ 4098 := fun e => h.1 ((len_none (bd_join _ _)).1 e)
  omega
theorem len_put {a b : Ans} (ha : a ≠ .none) (hb : b ≠ .none) (da : Bd a) (db : Bd b) : lenA (putA 4096 a b) = min (lenA a + lenA b) 4097 ∧ putA 4096 a b ≠ .none := by
  cases a with
  | none => exact absurd rfl ha
  | far =>
    rw [putA_fl hb]
    refine ⟨?_, fun h => by cases h⟩
    show 4097 = min (4097 + lenA b) 4097
    omega
  | is v =>
    cases b with
    | none => exact absurd rfl hb
    | far =>
      rw [putA_fr ha]
      refine ⟨?_, fun h => by cases h⟩
      show 4097 = min (v.length + 4097) 4097
      omega
    | is w =>
      by_cases h : (v ++ w).length ≤ 4096
      · rw [putA_le h]
        refine ⟨?_, fun h => by cases h⟩
        show (v ++ w).length = min (v.length + w.length) 4097
        rw [List.length_append] at h ⊢
        omega
      · rw [putA_gt h]
        refine ⟨?_, fun h => by cases h⟩
        show 4097 = min (v.length + w.length) 4097
        rw [List.length_append] at h
        omega
theorem sum_step {T : Int → Ans} (hT : Bnd T) {l : List Int} {k n : Nat} (h : SumTo T l k n) (hk : k < l.length) (hn : T l[k] ≠ .none) : SumTo T l (k + 1) (min (n + lenA (T l[k])) 4097) := by
  have e := j_take hT hk
  have h1 := len_put h.1 hn (bd_join _ _) (hT l[k])
  refine ⟨?_, ?_⟩
  · rw [e]
    exact h1.2
  · rw [e, h1.1, h.2]
theorem sum_none {T : Int → Ans} {l : List Int} {k : Nat} (hk : k < l.length) (hn : T l[k] = .none) : J T l = .none := join_gone (List.getElem_mem hk) hn
theorem sum_end {T : Int → Ans} {l : List Int} {k n : Nat} (h : SumTo T l k n) (hk : ¬ k < l.length) : n = lenA (J T l) := by
  have := h.2
  rwa [List.take_of_length_le (by omega)] at this

/-- The words one behind the other. -/
def flat (T : Int → Ans) (l : List Int) : List Int := l.flatMap fun s => wordA (T s)
theorem flat_take {T : Int → Ans} {l : List Int} {k : Nat} (hk : k < l.length) : flat T (l.take (k + 1)) = flat T (l.take k) ++ wordA (T l[k]) := by
  unfold flat
  rw [List.take_succ_eq_append_getElem hk, List.flatMap_append]
  simp
theorem flat_le (T : Int → Ans) (l : List Int) (k : Nat) : (flat T (l.take k)).length ≤ (flat T l).length := by
  have e : flat T l = flat T (l.take k) ++ flat T (l.drop k) := by
    unfold flat
    rw [← List.flatMap_append, List.take_append_drop]
  rw [e, List.length_append]
  omega
theorem flat_join {T : Int → Ans} {l x : List Int} (h : J T l = .is x) : x = flat T l := by
  induction l generalizing x with
  | nil => injection h with h; exact h.symm
  | cons s l ih =>
    obtain ⟨v, w, h1, h2, h3, h4⟩ := putA_is (show putA 4096 (T s) (J T l) = .is x from h)
    rw [h3, ih h2]
    show _ = (s :: l).flatMap _
    rw [List.flatMap_cons]
    show _ = wordA (T s) ++ _
    rw [h1]
    rfl
theorem flat_word {T : Int → Ans} {l : List Int} (h : isA (J T l) = true) : wordA (J T l) = flat T l := flat_join (isA_of h)
theorem flat_len {T : Int → Ans} {l : List Int} (h : isA (J T l) = true) : (flat T l).length = lenA (J T l) := by rw [lenA_of h, flat_word h]

/-! ### The better one -/

/-- One number ahead of the other, as a library compares them. -/
def cmpL : List Int → List Int → Int
  | [], [] => 0
  | [], _ :: _ => -1
  | _ :: _, [] => 1
  | x :: r, y :: s => if x < y then -1 else if y < x then 1 else cmpL r s
theorem cmp_lex : ∀ {v w : List Int}, v.length = w.length → decide (cmpL v w < 0) = lexB v w := by
  intro v
  induction v with
  | nil =>
    intro w hl
    have : w = [] := List.eq_nil_of_length_eq_zero (by simpa using hl.symm)
    subst this
    rfl
  | cons x r ih =>
    intro w hl
    cases w with
    | nil => simp at hl
    | cons y s =>
      have hls : r.length = s.length := by simpa using hl
      show decide ((if x < y then (-1 : Int) else if y < x then 1 else cmpL r s) < 0) = if x = y then lexB r s else decide (x < y)
      by_cases h1 : x < y
      · rw [if_pos h1, if_neg (by omega)]
        simp [h1]
      · rw [if_neg h1]
        by_cases h2 : y < x
        · rw [if_pos h2, if_neg (by omega)]
          simp [h1]
        · rw [if_neg h2, if_pos (by omega)]
          exact ih hls
/-- The first k agree. -/
def SameTo (v w : List Int) (k : Nat) : Prop := v.take k = w.take k
theorem same_zero (v w : List Int) : SameTo v w 0 := rfl
theorem same_step {v w : List Int} {k : Nat} (h : SameTo v w k) (hv : k < v.length) (hw : k < w.length) (e : v[k] = w[k]) : SameTo v w (k + 1) := by
  unfold SameTo at h ⊢
  rw [List.take_succ_eq_append_getElem hv, List.take_succ_eq_append_getElem hw, h, e]
theorem same_end {v w : List Int} {k : Nat} (h : SameTo v w k) (hv : ¬ k < v.length) (hl : v.length = w.length) : v = w := by
  unfold SameTo at h
  rwa [List.take_of_length_le (by omega), List.take_of_length_le (by omega)] at h
theorem lex_self (v : List Int) : lexB v v = false := by
  induction v with
  | nil => rfl
  | cons x r ih => show (if x = x then lexB r r else _) = false; rw [if_pos rfl, ih]
theorem cmp_self (v : List Int) : cmpL v v = 0 := by
  induction v with
  | nil => rfl
  | cons x r ih =>
    show (if x < x then (-1 : Int) else if x < x then 1 else cmpL r r) = 0
    rw [if_neg (by omega), if_neg (by omega), ih]
theorem lex_at {v w : List Int} {k : Nat} (h : SameTo v w k) (hv : k < v.length) (hw : k < w.length) (e : v[k] ≠ w[k]) : lexB v w = decide (v[k] < w[k]) := by
  induction v generalizing w k with
  | nil => simp at hv
  | cons x r ih =>
    cases w with
    | nil => simp at hw
    | cons y s =>
      cases k with
      | zero =>
        show (if x = y then lexB r s else decide (x < y)) = _
        rw [if_neg (by simpa using e)]
        rfl
      | succ k =>
        unfold SameTo at h
        rw [List.take_succ_cons, List.take_succ_cons] at h
        injection h with h1 h2
        show (if x = y then lexB r s else decide (x < y)) = _
        rw [if_pos h1]
        exact ih h2 (by simpa using hv) (by simpa using hw) (by simpa using e)
theorem cmp_at {v w : List Int} {k : Nat} (h : SameTo v w k) (hv : k < v.length) (hw : k < w.length) (e : v[k] ≠ w[k]) : cmpL v w = if v[k] < w[k] then -1 else 1 := by
  induction v generalizing w k with
  | nil => simp at hv
  | cons x r ih =>
    cases w with
    | nil => simp at hw
    | cons y s =>
      cases k with
      | zero =>
        have e' : x ≠ y := by simpa using e
        show (if x < y then (-1 : Int) else if y < x then 1 else cmpL r s) = if x < y then -1 else 1
        by_cases h1 : x < y
        · rw [if_pos h1, if_pos h1]
        · rw [if_neg h1, if_neg h1, if_pos (by omega)]
      | succ k =>
        unfold SameTo at h
        rw [List.take_succ_cons, List.take_succ_cons] at h
        injection h with h1 h2
        show (if x < y then (-1 : Int) else if y < x then 1 else cmpL r s) = _
        rw [if_neg (by omega), if_neg (by omega)]
        exact ih h2 (by simpa using hv) (by simpa using hw) (by simpa using e)
theorem better_ne {a b : Ans} (da : Bd a) (db : Bd b) (h : lenA a ≠ lenA b) : betterS a b = decide (lenA a < lenA b) := by
  cases a with
  | none =>
    have := lenA_le db
    rw [decide_eq_false (by show ¬ (4098 : Nat) < lenA b; omega)]
    rfl
  | far =>
    cases b with
    | none => rfl
    | far => exact absurd rfl h
    | is w =>
      have := db w rfl
      rw [decide_eq_false (by show ¬ (4097 : Nat) < w.length; omega)]
      rfl
  | is v =>
    have hv := da v rfl
    cases b with
    | none =>
      rw [decide_eq_true (by show v.length < (4098 : Nat); omega)]
      rfl
    | far =>
      rw [decide_eq_true (by show v.length < (4097 : Nat); omega)]
      rfl
    | is w =>
      show lessB v w = decide (v.length < w.length)
      unfold lessB
      exact if_neg h
theorem better_eq {a b : Ans} (da : Bd a) (db : Bd b) (h : lenA a = lenA b) : betterS a b = lexB (wordA a) (wordA b) ∧ (wordA a).length = (wordA b).length := by
  cases a with
  | none =>
    have := (len_none db).1 h.symm
    subst this
    exact ⟨rfl, rfl⟩
  | far =>
    cases b with
    | none => exact absurd h (by show ¬ (4097 : Nat) = 4098; omega)
    | far => exact ⟨rfl, rfl⟩
    | is w => exact absurd h (by have := db w rfl; show ¬ (4097 : Nat) = w.length; omega)
  | is v =>
    have hv := da v rfl
    cases b with
    | none => exact absurd h (by show ¬ v.length = 4098; omega)
    | far => exact absurd h (by show ¬ v.length = 4097; omega)
    | is w =>
      refine ⟨?_, h⟩
      show lessB v w = lexB v w
      unfold lessB
      exact if_pos h

/-! ### Tables -/

/-- A table over the symbols below n: none for what is no symbol, each word within bounds. -/
structure TOk (n : Nat) (T : Int → Ans) : Prop where
  out : ∀ s : Int, ¬ (0 ≤ s ∧ s < (n : Int)) → T s = .none
  bnd : Bnd T
theorem tok_none : TOk 0 fun _ => .none := ⟨fun _ _ => rfl, fun _ => bd_none⟩
theorem TOk.set {n : Nat} {T : Int → Ans} (h : TOk n T) {s : Int} {a : Ans} (h0 : 0 ≤ s) (hn : s < (n : Int)) (ha : Bd a) : TOk n (setA T s a) := by
  refine ⟨fun t ht => ?_, fun t => ?_⟩
  · rw [setA_miss _ _ fun e => ht (by subst e; exact ⟨h0, hn⟩)]
    exact h.out t ht
  · by_cases e : t = s
    · subst e
      rw [setA_hit]
      exact ha
    · rw [setA_miss _ _ e]
      exact h.bnd t
theorem join_one' {T : Int → Ans} (h : Bnd T) (s : Int) : J T [s] = T s := join_one (h s)

end Go.Proofs.YtoipinnfmjaaaaaGreatDoor.Le
