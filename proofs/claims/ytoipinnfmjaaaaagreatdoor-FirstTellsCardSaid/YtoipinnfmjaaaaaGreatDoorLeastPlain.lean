/-
  Plain facts on the words of symbols: a word as a number (the shortlex order is the order of these numbers), what a symbol derives, tables that hold a word for each symbol and when such a table is the least one. No program in it.
-/
import Derived.Test.YtoipinnfmjaaaaaGreatDoorGramPlain
namespace Go.Proofs.YtoipinnfmjaaaaaGreatDoor.Le
open Go.Proofs.YtoipinnfmjaaaaaGreatDoor.Gr (Gram nonB termB top names nameS checkN)
set_option linter.unusedVariables false

/-! ### A word as a number -/

def numF (B : Nat) (a : Nat) (w : List Int) : Nat := w.foldl (fun a d => a * B + d.toNat) a
def numW (B : Nat) (w : List Int) : Nat := numF B 0 w
/-- Its letters are digits from 1 on. -/
def Dig (B : Nat) (w : List Int) : Prop := ∀ x ∈ w, 1 ≤ x ∧ x.toNat < B
theorem dig_nil (B : Nat) : Dig B [] := fun x h => by cases h
theorem dig_append {B : Nat} {v w : List Int} (h : Dig B v) (k : Dig B w) : Dig B (v ++ w) := fun x hx => by
  rcases List.mem_append.1 hx with h1 | h1
  · exact h x h1
  · exact k x h1
theorem numF_add (B : Nat) (w : List Int) : ∀ a, numF B a w = a * B ^ w.length + numW B w := by
  induction w with
  | nil => intro a; simp [numF, numW]
  | cons x r ih =>
    intro a
    have e1 : numF B a (x :: r) = numF B (a * B + x.toNat) r := rfl
    have e2 : numW B (x :: r) = numF B (0 * B + x.toNat) r := rfl
    rw [e1, e2, ih, ih (0 * B + x.toNat), List.length_cons, Nat.pow_succ, Nat.add_mul, Nat.zero_mul, Nat.zero_add]
    rw [Nat.mul_assoc a B, Nat.mul_comm B (B ^ r.length)]
    omega
theorem numW_cons (B : Nat) (x : Int) (w : List Int) : numW B (x :: w) = x.toNat * B ^ w.length + numW B w := by
  have e : numW B (x :: w) = numF B (0 * B + x.toNat) w := rfl
  rw [e, numF_add, Nat.zero_mul, Nat.zero_add]
theorem numW_append (B : Nat) (v w : List Int) : numW B (v ++ w) = numW B v * B ^ w.length + numW B w := by
  unfold numW numF
  rw [List.foldl_append]
  exact numF_add B w _
theorem numW_lt {B : Nat} (hB : 0 < B) {w : List Int} (h : Dig B w) : numW B w < B ^ w.length := by
  induction w with
  | nil => simp [numW, numF]
  | cons x r ih =>
    have hx := h x (List.mem_cons_self ..)
    have hr := ih fun y hy => h y (List.mem_cons_of_mem _ hy)
    rw [numW_cons, List.length_cons, Nat.pow_succ, Nat.mul_comm (B ^ r.length) B]
    have h1 : (x.toNat + 1) * B ^ r.length ≤ B * B ^ r.length := Nat.mul_le_mul_right _ hx.2
    rw [Nat.add_mul, Nat.one_mul] at h1
    omega
theorem numW_ge {B : Nat} {x : Int} {w : List Int} (h : Dig B (x :: w)) : B ^ w.length ≤ numW B (x :: w) := by
  have hx := (h x (List.mem_cons_self ..)).1
  rw [numW_cons]
  have h1 : 1 * B ^ w.length ≤ x.toNat * B ^ w.length := Nat.mul_le_mul_right _ (by omega)
  omega
/-- A shorter word is a less one. -/
theorem numW_short {B : Nat} (hB : 0 < B) {v w : List Int} (hv : Dig B v) (hw : Dig B w) (h : v.length < w.length) : numW B v < numW B w := by
  cases w with
  | nil => simp at h
  | cons x r =>
    have h1 := numW_lt hB hv
    have h2 := numW_ge hw
    have h3 : B ^ v.length ≤ B ^ r.length := Nat.pow_le_pow_right hB (by simp at h; omega)
    omega
theorem len_of_num {B : Nat} (hB : 0 < B) {v w : List Int} (hv : Dig B v) (hw : Dig B w) (h : numW B v ≤ numW B w) : v.length ≤ w.length := by
  refine Nat.not_lt.1 fun hlt => ?_
  have := numW_short hB hw hv hlt
  omega
theorem numW_inj {B : Nat} (hB : 0 < B) : ∀ {v w : List Int}, Dig B v → Dig B w → numW B v = numW B w → v = w := by
  intro v
  induction v with
  | nil =>
    intro w _ hw h
    have := len_of_num hB hw (dig_nil B) (by omega)
    exact (List.eq_nil_of_length_eq_zero (by simpa using this)).symm
  | cons x r ih =>
    intro w hv hw h
    have h1 := len_of_num hB hv hw (by omega)
    have h2 := len_of_num hB hw hv (by omega)
    cases w with
    | nil => simp at h1
    | cons y s =>
      have hl : r.length = s.length := by simp at h1 h2; omega
      have hr : Dig B r := fun z hz => hv z (List.mem_cons_of_mem _ hz)
      have hs : Dig B s := fun z hz => hw z (List.mem_cons_of_mem _ hz)
      have b1 := numW_lt hB hr
      have b2 := numW_lt hB hs
      rw [numW_cons, numW_cons, ← hl] at h
      rw [← hl] at b2
      have hp : 0 < B ^ r.length := Nat.pow_pos hB
      have hxy : x.toNat = y.toNat := by
        have d1 : (x.toNat * B ^ r.length + numW B r) / B ^ r.length = x.toNat := by
          rw [Nat.mul_comm, Nat.mul_add_div hp, Nat.div_eq_of_lt b1, Nat.add_zero]
        have d2 : (y.toNat * B ^ r.length + numW B s) / B ^ r.length = y.toNat := by
          rw [Nat.mul_comm, Nat.mul_add_div hp, Nat.div_eq_of_lt b2, Nat.add_zero]
        rw [← d1, h, d2]
      rw [hxy] at h
      have hx := (hv x (List.mem_cons_self ..)).1
      have hy := (hw y (List.mem_cons_self ..)).1
      have e : x = y := by omega
      subst e
      rw [ih hr hs (by omega)]
/-- Put together of no greater parts it is no greater. -/
theorem numW_mono {B : Nat} (hB : 0 < B) {a a' b b' : List Int} (hb : Dig B b) (hb' : Dig B b') (h1 : numW B a ≤ numW B a') (h2 : numW B b ≤ numW B b') : numW B (a ++ b) ≤ numW B (a' ++ b') := by
  rw [numW_append, numW_append]
  have hl := len_of_num hB hb hb' h2
  have h3 : numW B a * B ^ b.length ≤ numW B a' * B ^ b'.length := Nat.mul_le_mul h1 (Nat.pow_le_pow_right hB hl)
  omega

/-! ### The order, as the document has it -/

def lexB : List Int → List Int → Bool
  | x :: r, y :: s => if x = y then lexB r s else decide (x < y)
  | _, _ => false
/-- The shorter one; of two of one length the one whose first other number is less. -/
def lessB (a b : List Int) : Bool := if a.length = b.length then lexB a b else decide (a.length < b.length)
theorem lex_num {B : Nat} (hB : 0 < B) : ∀ {v w : List Int}, Dig B v → Dig B w → v.length = w.length → (lexB v w = true ↔ numW B v < numW B w) := by
  intro v
  induction v with
  | nil =>
    intro w _ _ hl
    have : w = [] := List.eq_nil_of_length_eq_zero (by simpa using hl.symm)
    subst this
    simp [lexB]
  | cons x r ih =>
    intro w hv hw hl
    cases w with
    | nil => simp at hl
    | cons y s =>
      have hls : r.length = s.length := by simpa using hl
      have hr : Dig B r := fun z hz => hv z (List.mem_cons_of_mem _ hz)
      have hs : Dig B s := fun z hz => hw z (List.mem_cons_of_mem _ hz)
      have b1 := numW_lt hB hr
      have b2 := numW_lt hB hs
      have hx := hv x (List.mem_cons_self ..)
      have hy := hw y (List.mem_cons_self ..)
      rw [numW_cons, numW_cons, ← hls]
      rw [← hls] at b2
      unfold lexB
      by_cases e : x = y
      · subst e
        rw [if_pos rfl, ih hr hs hls]
        omega
      · rw [if_neg e, decide_eq_true_iff]
        constructor
        · intro h
          have h1 : (x.toNat + 1) * B ^ r.length ≤ y.toNat * B ^ r.length := Nat.mul_le_mul_right _ (by omega)
          rw [Nat.add_mul, Nat.one_mul] at h1
          omega
        · intro h
          refine Int.not_le.1 fun hle => ?_
          have h1 : (y.toNat + 1) * B ^ r.length ≤ x.toNat * B ^ r.length := Nat.mul_le_mul_right _ (by omega)
          rw [Nat.add_mul, Nat.one_mul] at h1
          omega
theorem less_num {B : Nat} (hB : 0 < B) {v w : List Int} (hv : Dig B v) (hw : Dig B w) : lessB v w = true ↔ numW B v < numW B w := by
  unfold lessB
  by_cases hl : v.length = w.length
  · rw [if_pos hl]
    exact lex_num hB hv hw hl
  · rw [if_neg hl, decide_eq_true_iff]
    constructor
    · exact numW_short hB hv hw
    · intro h
      have := len_of_num hB hv hw (Nat.le_of_lt h)
      omega

end Go.Proofs.YtoipinnfmjaaaaaGreatDoor.Le
