/- A part of the proof. -/
import Derived.Test.YtnfbjlainpenaaaGreatPk16
set_option linter.unusedVariables false
namespace Go.Proofs.YtnfbjlainpenaaaGreat
namespace Le
theorem zBP {M : Nat} {v w : List Int} (h : (v ++ w).length <= M) : putA M (.is v) (.is w) = .is (v ++ w) := if_pos h
theorem zCu {M : Nat} {v w : List Int} (h : ¬ (v ++ w).length <= M) : putA M (.is v) (.is w) = .far := if_neg h
theorem zCv (M : Nat) (a : Ans) : putA M .none a = .none := by cases a <;> rfl
theorem zAa (M : Nat) (a : Ans) : putA M a .none = .none := by cases a <;> rfl
theorem zIz {M : Nat} {a : Ans} (h : a ≠ .none) : putA M a .far = .far := by
 cases a with
 | none => exact absurd rfl h
 | far => rfl
 | is w => rfl
theorem zIy {M : Nat} {a : Ans} (h : a ≠ .none) : putA M .far a = .far := by
 cases a with
 | none => exact absurd rfl h
 | far => rfl
 | is w => rfl
theorem zHC (M : Nat) (a b c : Ans) : putA M (putA M a b) c = putA M a (putA M b c) := by
 cases a with
 | none => rw [zCv, zCv, zCv]
 | far =>
  cases b with
  | none => rw [zAa, zCv, zAa]
  | far =>
   cases c with
   | none => rw [zAa, zAa, zAa]
   | far => rfl
   | is z => rfl
  | is y =>
   cases c with
   | none => rw [zAa, zAa, zAa]
   | far => rfl
   | is z =>
    have h : putA M (.is y) (.is z) ≠ .none := fun k => by
     rcases zA3.1 k with k | k <;> cases k
    rw [zIy h]
    rfl
 | is x =>
  cases b with
  | none => rw [zAa, zCv, zAa]
  | far =>
   cases c with
   | none => rw [zAa, zAa, zAa]
   | far => rfl
   | is z => rfl
  | is y =>
   cases c with
   | none => rw [zAa, zAa, zAa]
   | far =>
    have h : putA M (.is x) (.is y) ≠ .none := fun k => by
     rcases zA3.1 k with k | k <;> cases k
    rw [zIz h]
    rfl
   | is z =>
    by_cases h : (x ++ y ++ z).length <= M
    ·have h' : (x ++ (y ++ z)).length <= M := by rwa [← List.append_assoc]
     have h1 : (x ++ y).length <= M := by simp only [List.length_append] at h ⊢; omega
     have h2 : (y ++ z).length <= M := by simp only [List.length_append] at h ⊢; omega
     rw [zBP h1, zBP h2, zBP h, zBP h', List.append_assoc]
    ·have h' : ¬ (x ++ (y ++ z)).length <= M := by rwa [← List.append_assoc]
     have l : putA M (putA M (.is x) (.is y)) (.is z) = .far := by
      by_cases h1 : (x ++ y).length <= M
      ·rw [zBP h1, zCu h]
      ·rw [zCu h1]; rfl
     have r : putA M (.is x) (putA M (.is y) (.is z)) = .far := by
      by_cases h2 : (y ++ z).length <= M
      ·rw [zBP h2, zCu h']
      ·rw [zCu h2]; rfl
     rw [l, r]
theorem zIO {M : Nat} {T : Int -> Ans} {l x : List Int} (h : zAZ M T l = .is x) : x.length <= M := by
 cases l with
 | nil => injection h with h; subst h; exact Nat.zero_le _
 | cons s l =>
  obtain ⟨v, w, _, _, h3, h4⟩ := zEE (show putA M (T s) (zAZ M T l) = .is x from h)
  exact h4
theorem zI0 {M : Nat} {a : Ans} (h : ∀ x, a = .is x -> x.length <= M) : putA M (.is []) a = a := by
 cases a with
 | none => rfl
 | far => rfl
 | is x => exact zBP (h x rfl)
theorem zFX {M : Nat} {a : Ans} (h : ∀ x, a = .is x -> x.length <= M) : putA M a (.is []) = a := by
 cases a with
 | none => rfl
 | far => rfl
 | is x =>
  have e : x ++ [] = x := List.append_nil x
  rw [zBP (by rw [e]; exact h x rfl), e]
theorem zFL (M : Nat) (T : Int -> Ans) (l k : List Int) : zAZ M T (l ++ k) = putA M (zAZ M T l) (zAZ M T k) := by
 induction l with
 | nil => exact (zI0 fun x hx => zIO hx).symm
 | cons s l ih =>
  show putA M (T s) (zAZ M T (l ++ k)) = putA M (putA M (T s) (zAZ M T l)) (zAZ M T k)
  rw [ih, zHC]
theorem join_one {M : Nat} {T : Int -> Ans} {s : Int} (h : ∀ x, T s = .is x -> x.length <= M) : zAZ M T [s] = T s := zFX h
theorem zIP {M : Nat} {T : Int -> Ans} {l : List Int} {s : Int} (h : ∀ x, T s = .is x -> x.length <= M) : zAZ M T (l ++ [s]) = putA M (zAZ M T l) (T s) := by
 rw [zFL, join_one h]
theorem zIQ {M : Nat} {T : Int -> Ans} {l : List Int} {i : Nat} (hi : i < l.length) (h : ∀ x, T l[i] = .is x -> x.length <= M) : zAZ M T (l.take (i + 1)) = putA M (zAZ M T (l.take i)) (T l[i]) := by
 rw [List.take_succ_eq_append_getElem hi, zIP h]
theorem zIN {M : Nat} {T : Int -> Ans} {l : List Int} {s : Int} (hs : s ∈ l) (h : T s = .none) : zAZ M T l = .none := by
 induction l with
 | nil => cases hs
 | cons t l ih =>
  rcases List.mem_cons.1 hs with e | e
  ·subst e
   exact zA3.2 (Or.inl h)
  ·exact zA3.2 (Or.inr (ih e))
def lenA : Ans -> Nat
 | .none => 4098
 | .far => 4097
 | .is w => w.length
def zAK : Ans -> List Int
 | .is w => w
 | _ => []
def isA : Ans -> Bool
 | .is _ => true
 | _ => false
def Bd (a : Ans) : Prop := ∀ x, a = .is x -> x.length <= 4096
def Bnd (T : Int -> Ans) : Prop := ∀ s, Bd (T s)
theorem zLP : Bd .none := fun x h => by cases h
theorem zD7 {a : Ans} (h : Bd a) : lenA a <= 4098 := by
 cases a with
 | none => exact Nat.le_refl _
 | far => show (4097 : Nat) <= 4098; omega
 | is w => have := h w rfl; show w.length <= 4098; omega
theorem zGb {a : Ans} (h : Bd a) : (zAK a).length <= 4096 := by
 cases a with
 | none => exact Nat.zero_le _
 | far => exact Nat.zero_le _
 | is w => exact h w rfl
theorem zD8 {a : Ans} (h : Bd a) : lenA a = 4098 ↔ a = .none := by
 cases a with
 | none => exact ⟨fun _ => rfl, fun _ => rfl⟩
 | far => exact ⟨fun k => absurd k (by show ¬ (4097 : Nat) = 4098; omega), fun k => by cases k⟩
 | is w => exact ⟨fun k => absurd k (by have := h w rfl; show ¬ w.length = 4098; omega), fun k => by cases k⟩
theorem zIY {a : Ans} (h : Bd a) : lenA a <= 4096 ↔ isA a = true := by
 cases a with
 | none => exact ⟨fun k => absurd k (by show ¬ (4098 : Nat) <= 4096; omega), fun k => by cases k⟩
 | far => exact ⟨fun k => absurd k (by show ¬ (4097 : Nat) <= 4096; omega), fun k => by cases k⟩
 | is w => exact ⟨fun _ => rfl, fun _ => h w rfl⟩
theorem zMo {a : Ans} (h : isA a = true) : a = .is (zAK a) := by cases a <;> first | rfl | cases h
theorem zLk {a : Ans} (h : isA a = false) : zAK a = [] := by cases a <;> first | rfl | cases h
theorem zLs {a : Ans} (h : isA a = true) : lenA a = (zAK a).length := by cases a <;> first | rfl | cases h
def J (T : Int -> Ans) (l : List Int) : Ans := zAZ 4096 T l
theorem zBL (T : Int -> Ans) (l : List Int) : Bd (J T l) := fun x h => zIO h
def zGg (T : Int -> Ans) (l : List Int) (k n : Nat) : Prop := J T (l.take k) ≠ .none /\ n = lenA (J T (l.take k))
theorem zMq {T : Int -> Ans} (hT : Bnd T) {l : List Int} {k : Nat} (hk : k < l.length) : J T (l.take (k + 1)) = putA 4096 (J T (l.take k)) (T l[k]) := zIQ hk (hT l[k])
theorem zKs (T : Int -> Ans) (l : List Int) : zGg T l 0 0 := ⟨(fun h => by cases h), rfl⟩
theorem zM3 {T : Int -> Ans} {l : List Int} {k n : Nat} (h : zGg T l k n) : n <= 4097 := by
 have h1 := zD7 (zBL T (l.take k))
 have h2 := h.2
 have h3 : lenA (J T (l.take k)) ≠ 4098 := fun e => h.1 ((zD8 (zBL _ _)).1 e)
 omega
theorem zLt {a b : Ans} (ha : a ≠ .none) (hb : b ≠ .none) (da : Bd a) (db : Bd b) : lenA (putA 4096 a b) = min (lenA a + lenA b) 4097 /\ putA 4096 a b ≠ .none := by
 cases a with
 | none => exact absurd rfl ha
 | far =>
  rw [zIy hb]
  refine ⟨?_, fun h => by cases h⟩
  show 4097 = min (4097 + lenA b) 4097
  omega
 | is v =>
  cases b with
  | none => exact absurd rfl hb
  | far =>
   rw [zIz ha]
   refine ⟨?_, fun h => by cases h⟩
   show 4097 = min (v.length + 4097) 4097
   omega
  | is w =>
   by_cases h : (v ++ w).length <= 4096
   ·rw [zBP h]
    refine ⟨?_, fun h => by cases h⟩
    show (v ++ w).length = min (v.length + w.length) 4097
    rw [List.length_append] at h ⊢
    omega
   ·rw [zCu h]
    refine ⟨?_, fun h => by cases h⟩
    show 4097 = min (v.length + w.length) 4097
    rw [List.length_append] at h
    omega
theorem zKr {T : Int -> Ans} (hT : Bnd T) {l : List Int} {k n : Nat} (h : zGg T l k n) (hk : k < l.length) (hn : T l[k] ≠ .none) : zGg T l (k + 1) (min (n + lenA (T l[k])) 4097) := by
 have e := zMq hT hk
 have h1 := zLt h.1 hn (zBL _ _) (hT l[k])
 refine ⟨?_, ?_⟩
 ·rw [e]
  exact h1.2
 ·rw [e, h1.1, h.2]
theorem zKq {T : Int -> Ans} {l : List Int} {k : Nat} (hk : k < l.length) (hn : T l[k] = .none) : J T l = .none := zIN (List.getElem_mem hk) hn
theorem zMO {T : Int -> Ans} {l : List Int} {k n : Nat} (h : zGg T l k n) (hk : ¬ k < l.length) : n = lenA (J T l) := by
 have := h.2
 rwa [List.take_of_length_le (by omega)] at this
def flat (T : Int -> Ans) (l : List Int) : List Int := l.flatMap fun s => zAK (T s)
theorem zH6 {T : Int -> Ans} {l : List Int} {k : Nat} (hk : k < l.length) : flat T (l.take (k + 1)) = flat T (l.take k) ++ zAK (T l[k]) := by
 unfold flat
 rw [List.take_succ_eq_append_getElem hk, List.flatMap_append]
 simp
theorem zLf (T : Int -> Ans) (l : List Int) (k : Nat) : (flat T (l.take k)).length <= (flat T l).length := by
 have e : flat T l = flat T (l.take k) ++ flat T (l.drop k) := by
  unfold flat
  rw [← List.flatMap_append, List.take_append_drop]
 rw [e, List.length_append]
 omega
theorem zH5 {T : Int -> Ans} {l x : List Int} (h : J T l = .is x) : x = flat T l := by
 induction l generalizing x with
 | nil => injection h with h; exact h.symm
 | cons s l ih =>
  obtain ⟨v, w, h1, h2, h3, h4⟩ := zEE (show putA 4096 (T s) (J T l) = .is x from h)
  rw [h3, ih h2]
  show _ = (s :: l).flatMap _
  rw [List.flatMap_cons]
  show _ = zAK (T s) ++ _
  rw [h1]
  rfl
theorem zEb {T : Int -> Ans} {l : List Int} (h : isA (J T l) = true) : zAK (J T l) = flat T l := zH5 (zMo h)
theorem zJx {T : Int -> Ans} {l : List Int} (h : isA (J T l) = true) : (flat T l).length = lenA (J T l) := by rw [zLs h, zEb h]
def cmpL : List Int -> List Int -> Int
 | [], [] => 0
 | [], _ :: _ => -1
 | _ :: _, [] => 1
 | x :: r, y :: s => if x < y then -1 else if y < x then 1 else cmpL r s
theorem zLY : ∀ {v w : List Int}, v.length = w.length -> decide (cmpL v w < 0) = lexB v w := by
 intro v
 induction v with
 | nil =>
  intro w hl
  have : w = [] := List.eq_nil_of_length_eq_zero (by simpa using hl.symm)
  subst this
  rfl
 | cons x r ih =>
  intro w hl
  cases w with
  | nil => simp at hl
  | cons y s =>
   have hls : r.length = s.length := by simpa using hl
   show decide ((if x < y then (-1 : Int) else if y < x then 1 else cmpL r s) < 0) = if x = y then lexB r s else decide (x < y)
   by_cases h1 : x < y
   ·rw [if_pos h1, if_neg (by omega)]
    simp [h1]
   ·rw [if_neg h1]
    by_cases h2 : y < x
    ·rw [if_pos h2, if_neg (by omega)]
     simp [h1]
    ·rw [if_neg h2, if_pos (by omega)]
     exact ih hls
def zA8 (v w : List Int) (k : Nat) : Prop := v.take k = w.take k
theorem zEz (v w : List Int) : zA8 v w 0 := rfl
theorem zEy {v w : List Int} {k : Nat} (h : zA8 v w k) (hv : k < v.length) (hw : k < w.length) (e : v[k] = w[k]) : zA8 v w (k + 1) := by
 unfold zA8 at h ⊢
 rw [List.take_succ_eq_append_getElem hv, List.take_succ_eq_append_getElem hw, h, e]
theorem zGS {v w : List Int} {k : Nat} (h : zA8 v w k) (hv : ¬ k < v.length) (hl : v.length = w.length) : v = w := by
 unfold zA8 at h
 rwa [List.take_of_length_le (by omega), List.take_of_length_le (by omega)] at h
theorem zJt (v : List Int) : cmpL v v = 0 := by
 induction v with
 | nil => rfl
 | cons x r ih =>
  show (if x < x then (-1 : Int) else if x < x then 1 else cmpL r r) = 0
  rw [if_neg (by omega), if_neg (by omega), ih]
theorem zMi {v w : List Int} {k : Nat} (h : zA8 v w k) (hv : k < v.length) (hw : k < w.length) (e : v[k] ≠ w[k]) : cmpL v w = if v[k] < w[k] then -1 else 1 := by
 induction v generalizing w k with
 | nil => simp at hv
 | cons x r ih =>
  cases w with
  | nil => simp at hw
  | cons y s =>
   cases k with
   | zero =>
    have e' : x ≠ y := by simpa using e
    show (if x < y then (-1 : Int) else if y < x then 1 else cmpL r s) = if x < y then -1 else 1
    by_cases h1 : x < y
    ·rw [if_pos h1, if_pos h1]
    ·rw [if_neg h1, if_neg h1, if_pos (by omega)]
   | succ k =>
    unfold zA8 at h
    rw [List.take_succ_cons, List.take_succ_cons] at h
    injection h with h1 h2
    show (if x < y then (-1 : Int) else if y < x then 1 else cmpL r s) = _
    rw [if_neg (by omega), if_neg (by omega)]
    exact ih h2 (by simpa using hv) (by simpa using hw) (by simpa using e)
theorem zHk {a b : Ans} (da : Bd a) (db : Bd b) (h : lenA a ≠ lenA b) : zAY a b = decide (lenA a < lenA b) := by
 cases a with
 | none =>
  have := zD7 db
  rw [decide_eq_false (by show ¬ (4098 : Nat) < lenA b; omega)]
  rfl
 | far =>
  cases b with
  | none => rfl
  | far => exact absurd rfl h
  | is w =>
   have := db w rfl
   rw [decide_eq_false (by show ¬ (4097 : Nat) < w.length; omega)]
   rfl
 | is v =>
  have hv := da v rfl
  cases b with
  | none =>
   rw [decide_eq_true (by show v.length < (4098 : Nat); omega)]
   rfl
  | far =>
   rw [decide_eq_true (by show v.length < (4097 : Nat); omega)]
   rfl
  | is w =>
   show zB3 v w = decide (v.length < w.length)
   unfold zB3
   exact if_neg h
theorem zHj {a b : Ans} (da : Bd a) (db : Bd b) (h : lenA a = lenA b) : zAY a b = lexB (zAK a) (zAK b) /\ (zAK a).length = (zAK b).length := by
 cases a with
 | none =>
  have := (zD8 db).1 h.symm
  subst this
  exact ⟨rfl, rfl⟩
 | far =>
  cases b with
  | none => exact absurd h (by show ¬ (4097 : Nat) = 4098; omega)
  | far => exact ⟨rfl, rfl⟩
  | is w => exact absurd h (by have := db w rfl; show ¬ (4097 : Nat) = w.length; omega)
 | is v =>
  have hv := da v rfl
  cases b with
  | none => exact absurd h (by show ¬ v.length = 4098; omega)
  | far => exact absurd h (by show ¬ v.length = 4097; omega)
  | is w =>
   refine ⟨?_, h⟩
   show zB3 v w = lexB v w
   unfold zB3
   exact if_pos h
structure TOk (n : Nat) (T : Int -> Ans) : Prop where
 out : ∀ s : Int, ¬ (0 <= s /\ s < (n : Int)) -> T s = .none
 bnd : Bnd T
theorem TOk.set {n : Nat} {T : Int -> Ans} (h : TOk n T) {s : Int} {a : Ans} (h0 : 0 <= s) (hn : s < (n : Int)) (ha : Bd a) : TOk n (setA T s a) := by
 refine ⟨fun t ht => ?_, fun t => ?_⟩
 ·rw [zAi _ _ fun e => ht (by subst e; exact ⟨h0, hn⟩)]
  exact h.out t ht
 ·by_cases e : t = s
  ·subst e
   rw [zBB]
   exact ha
  ·rw [zAi _ _ e]
   exact h.bnd t
