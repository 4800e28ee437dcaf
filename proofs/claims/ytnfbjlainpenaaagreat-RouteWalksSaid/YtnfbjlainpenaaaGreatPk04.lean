/- A part of the proof. -/
import Derived.Test.YtnfbjlainpenaaaGreatPk01
import Derived.Test.YtnfbjlainpenaaaGreatPk02
set_option linter.unusedVariables false
namespace Go.Proofs.YtnfbjlainpenaaaGreat
namespace Gr
open Go.RowKit Go.Maps
structure Gram where
 terms : List ByteArray
 nons : List ByteArray
 rules : List (Int × List Int)
 start : Int
def names (G : Gram) : List ByteArray := G.terms ++ G.nons
def top (G : Gram) : Nat := G.terms.length + G.nons.length
def zBJ (G : Gram) (s : Int) : Bool := decide (1 <= s /\ s <= (G.terms.length : Int))
def nonB (G : Gram) (s : Int) : Bool := decide ((G.terms.length : Int) < s /\ s <= (top G : Int))
def zCq (G : Gram) (s : Int) : ByteArray := if s = 0 then ⟨#[36]⟩ else if 1 <= s /\ s <= (top G : Int) then (names G).getD (s.toNat - 1) ⟨#[]⟩ else ⟨#[]⟩
theorem zAW {G : Gram} {s : Int} : nonB G s = true ↔ (G.terms.length : Int) < s /\ s <= (G.terms.length : Int) + (G.nons.length : Int) := by
 unfold nonB top
 rw [decide_eq_true_iff]
 omega
theorem zKQ {G : Gram} {s : Int} : nonB G s = false ↔ s <= (G.terms.length : Int) \/ (G.terms.length : Int) + (G.nons.length : Int) < s := by
 rw [← Bool.not_eq_true, zAW]
 omega
theorem zAN {G : Gram} {s : Int} : zBJ G s = true ↔ 1 <= s /\ s <= (G.terms.length : Int) := by
 unfold zBJ
 rw [decide_eq_true_iff]
theorem zAT (G : Gram) : (names G).length = top G := by simp [names, top]
theorem zIl (G : Gram) : zCq G 0 = ⟨#[36]⟩ := by simp [zCq]
theorem zKN {G : Gram} {s : Int} (h : s < 0 \/ (top G : Int) < s) : zCq G s = ⟨#[]⟩ := by
 unfold zCq
 rw [if_neg (by omega), if_neg (by omega)]
theorem zFR {G : Gram} {s : Nat} (h : s < top G) : zCq G ((s : Int) + 1) = (names G)[s]'(by rw [zAT]; exact h) := by
 unfold zCq
 rw [if_neg (by omega), if_pos (by omega)]
 have e : ((s : Int) + 1).toNat - 1 = s := by omega
 rw [e]
 simp [List.getD_eq_getElem?_getD, List.getElem?_eq_getElem (show s < (names G).length by rw [zAT]; exact h)]
theorem zIj {G : Gram} {s : Nat} (h : s < G.terms.length) : zCq G ((s : Int) + 1) = G.terms[s] := by
 rw [zFR (by unfold top; omega)]
 simp [names, List.getElem_append_left h]
theorem zKM {G : Gram} {s : Nat} (h : s < G.nons.length) : zCq G (((G.terms.length + s : Nat) : Int) + 1) = G.nons[s] := by
 rw [zFR (by unfold top; omega)]
 simp [names, List.getElem_append_right]
def leftOf (R : List (Int × List Int)) (i : Nat) : Int := (R.getD i (0, [])).1
theorem zBj {R : List (Int × List Int)} {i : Nat} (h : i < R.length) : leftOf R i = R[i].1 := by
 simp [leftOf, List.getD_eq_getElem?_getD, List.getElem?_eq_getElem h]
def ofTo (R : List (Int × List Int)) (s : Int) (k : Nat) : List Nat := (List.range k).filter fun i => leftOf R i == s
def ofN (G : Gram) (s : Int) : List Nat := ofTo G.rules s G.rules.length
theorem zKS {R : List (Int × List Int)} {s : Int} {k : Nat} (h : leftOf R k = s) : ofTo R s (k + 1) = ofTo R s k ++ [k] := by
 simp [ofTo, List.range_succ, List.filter_append, h]
theorem zIr {R : List (Int × List Int)} {s : Int} {k : Nat} (h : ¬ leftOf R k = s) : ofTo R s (k + 1) = ofTo R s k := by
 simp [ofTo, List.range_succ, List.filter_append, h]
theorem zIq (R : List (Int × List Int)) (s : Int) (k : Nat) : (ofTo R s k).length <= k := by
 unfold ofTo
 exact Nat.le_trans (List.length_filter_le _ _) (by simp)
theorem zKK {R : List (Int × List Int)} {s : Int} {k i : Nat} : i ∈ ofTo R s k ↔ i < k /\ leftOf R i = s := by
 simp [ofTo]
theorem zCo {G : Gram} {s : Int} {i : Nat} : i ∈ ofN G s ↔ i < G.rules.length /\ leftOf G.rules i = s := zKK
def zAQ (G : Gram) (i : Int) : Bool := decide (0 <= i /\ i <= (G.rules.length : Int))
def zAJ (G : Gram) (i : Int) : Int × List Int := if i < 0 \/ (G.rules.length : Int) < i then (0, []) else if i = G.rules.length then (0, [G.start]) else G.rules.getD i.toNat (0, [])
theorem zCd {G : Gram} {i : Int} (h : i < 0 \/ (G.rules.length : Int) < i) : zAQ G i = false /\ zAJ G i = (0, []) := by
 refine ⟨?_, by unfold zAJ; rw [if_pos h]⟩
 unfold zAQ
 rw [decide_eq_false_iff_not]
 omega
theorem zBA (G : Gram) : zAQ G G.rules.length = true /\ zAJ G G.rules.length = (0, [G.start]) := by
 refine ⟨by simp [zAQ], ?_⟩
 unfold zAJ
 rw [if_neg (by omega), if_pos rfl]
theorem zBc {G : Gram} {i : Nat} (h : i < G.rules.length) : zAQ G i = true /\ zAJ G i = G.rules[i] := by
 refine ⟨by simp [zAQ]; omega, ?_⟩
 unfold zAJ
 rw [if_neg (by omega), if_neg (by omega)]
 simp [List.getD_eq_getElem?_getD, List.getElem?_eq_getElem h]
def zAt (r q : Int × List Int) : Bool := r.1 == q.1 && decide (r.2 = q.2)
theorem zCB {r q : Int × List Int} : zAt r q = true ↔ r = q := by
 obtain ⟨a, b⟩ := r
 obtain ⟨c, d⟩ := q
 simp [zAt]
theorem zFf {r q : Int × List Int} : zAt r q = false ↔ r ≠ q := by rw [ne_eq, ← zCB, Bool.not_eq_true]
def insB (x : Int) : Bool := decide (33 <= x /\ x <= 126 /\ x ≠ 39)
def InTo (s : ByteArray) (k : Nat) : Prop := ∀ j (h : j < s.size), 1 <= j -> j < k -> insB ((s[j]'h).toNat : Int) = true
def Closes (s : ByteArray) (k : Nat) : Prop := 2 <= k /\ k < 24 /\ InTo s k /\ ∃ h : k < s.size, (s[k]'h).toNat = 39
theorem zFx (s : ByteArray) : InTo s 1 := fun j _ h1 h2 => absurd h1 (by omega)
theorem zEd {s : ByteArray} {k : Nat} (h : InTo s k) (hk : k < s.size) (hi : insB ((s[k]'hk).toNat : Int) = true) : InTo s (k + 1) := fun j hj h1 h2 => by
 by_cases e : j = k
 ·subst e
  exact hi
 ·exact h j hj h1 (by omega)
theorem zDM {s : ByteArray} {k : Nat} (h : Closes s k) {i : Nat} (hi : i < s.size) (h1 : 1 <= i) (hk : i < k) : insB ((s[i]'hi).toNat : Int) = true := h.2.2.1 i hi h1 hk
noncomputable def quoS (s : ByteArray) : Bool := @decide ((∃ h : 0 < s.size, (s[0]'h).toNat = 39) /\ ∃ k, Closes s k /\ k + 1 = s.size) (Classical.propDecidable _)
theorem zGp {s : ByteArray} {k j : Nat} (h : Closes s k) (g : Closes s j) : k = j := by
 obtain ⟨h1, h2, h3, h4, h5⟩ := h
 obtain ⟨g1, g2, g3, g4, g5⟩ := g
 rcases Nat.lt_trichotomy k j with hlt | rfl | hlt
 ·have := g3 k h4 (by omega) hlt
  rw [h5] at this
  simp [insB] at this
 ·rfl
 ·have := h3 j g4 (by omega) hlt
  rw [g5] at this
  simp [insB] at this
theorem zI2 {s : ByteArray} (h : ¬ ∃ h : 0 < s.size, (s[0]'h).toNat = 39) : quoS s = false := by
 unfold quoS
 rw [decide_eq_false_iff_not]
 exact fun k => h k.1
theorem zGM {s : ByteArray} (h : ¬ ∃ k, Closes s k) : quoS s = false := by
 unfold quoS
 rw [decide_eq_false_iff_not]
 exact fun ⟨_, k, hk, _⟩ => h ⟨k, hk⟩
theorem zGN {s : ByteArray} {k : Nat} (h0 : ∃ h : 0 < s.size, (s[0]'h).toNat = 39) (h : Closes s k) : quoS s = decide (k + 1 = s.size) := by
 unfold quoS
 rw [Bool.eq_iff_iff, @decide_eq_true_iff _ (Classical.propDecidable _), decide_eq_true_iff]
 constructor
 ·rintro ⟨_, j, hj, e⟩
  rw [zGp h hj]
  exact e
 ·exact fun e => ⟨h0, k, h, e⟩
def plnS (s : ByteArray) : Bool := decide (s.size <= 24) && Ch.namB s.data.toList
def zAv (G : Gram) : Bool := decide (120 < G.terms.length) || decide (120 < G.nons.length) || decide (300 < G.rules.length) || G.rules.any fun r => decide (8 < r.2.length)
noncomputable def zBY (G : Gram) : Bool := (G.terms.all fun s => plnS s || quoS s) && G.nons.all plnS
def zCL (G : Gram) : Bool := decide (names G).Nodup
def zAl (G : Gram) : Bool := nonB G G.start && G.rules.all fun r => nonB G r.1 && r.2.all fun x => decide (1 <= x /\ x <= (top G : Int))
def zAk (G : Gram) : Bool := decide G.rules.Nodup
def zBd (G : Gram) : Bool := (List.range G.nons.length).all fun i => !(ofN G ((G.terms.length : Int) + 1 + i)).isEmpty
noncomputable def checkN (G : Gram) : Int := if zAv G then 7 else if !zBY G then 10 else if !zCL G then 8 else if !zAl G then 1 else if !zAk G then 8 else if !zBd G then 9 else 0
theorem zAc {G : Gram} (h : checkN G = 0) : zAv G = false /\ zBY G = true /\ zCL G = true /\ zAl G = true /\ zAk G = true /\ zBd G = true := by
 unfold checkN at h
 cases h1 : zAv G <;> cases h2 : zBY G <;> cases h3 : zCL G <;> cases h4 : zAl G <;> cases h5 : zAk G <;> cases h6 : zBd G <;> simp [h1, h2, h3, h4, h5, h6] at h ⊢
theorem zCm {G : Gram} (h : zAl G = true) {i : Nat} (hi : i < G.rules.length) : nonB G (leftOf G.rules i) = true := by
 simp only [zAl, Bool.and_eq_true, List.all_eq_true] at h
 rw [zBj hi]
 exact (h.2 _ (List.getElem_mem hi)).1
end Gr
namespace Le
def numF (B : Nat) (a : Nat) (w : List Int) : Nat := w.foldl (fun a d => a * B + d.toNat) a
def numW (B : Nat) (w : List Int) : Nat := numF B 0 w
def Dig (B : Nat) (w : List Int) : Prop := ∀ x ∈ w, 1 <= x /\ x.toNat < B
theorem zDv (B : Nat) : Dig B [] := fun x h => by cases h
theorem zGr {B : Nat} {v w : List Int} (h : Dig B v) (k : Dig B w) : Dig B (v ++ w) := fun x hx => by
 rcases List.mem_append.1 hx with h1 | h1
 ·exact h x h1
 ·exact k x h1
theorem zGF (B : Nat) (w : List Int) : ∀ a, numF B a w = a * B ^ w.length + numW B w := by
 induction w with
 | nil => intro a; simp [numF, numW]
 | cons x r ih =>
  intro a
  have e1 : numF B a (x :: r) = numF B (a * B + x.toNat) r := rfl
  have e2 : numW B (x :: r) = numF B (0 * B + x.toNat) r := rfl
  rw [e1, e2, ih, ih (0 * B + x.toNat), List.length_cons, Nat.pow_succ, Nat.add_mul, Nat.zero_mul, Nat.zero_add]
  rw [Nat.mul_assoc a B, Nat.mul_comm B (B ^ r.length)]
  omega
theorem zBF (B : Nat) (x : Int) (w : List Int) : numW B (x :: w) = x.toNat * B ^ w.length + numW B w := by
 have e : numW B (x :: w) = numF B (0 * B + x.toNat) w := rfl
 rw [e, zGF, Nat.zero_mul, Nat.zero_add]
theorem zCr (B : Nat) (v w : List Int) : numW B (v ++ w) = numW B v * B ^ w.length + numW B w := by
 unfold numW numF
 rw [List.foldl_append]
 exact zGF B w _
theorem zCK {B : Nat} (hB : 0 < B) {w : List Int} (h : Dig B w) : numW B w < B ^ w.length := by
 induction w with
 | nil => simp [numW, numF]
 | cons x r ih =>
  have hx := h x (List.mem_cons_self ..)
  have hr := ih fun y hy => h y (List.mem_cons_of_mem _ hy)
  rw [zBF, List.length_cons, Nat.pow_succ, Nat.mul_comm (B ^ r.length) B]
  have h1 : (x.toNat + 1) * B ^ r.length <= B * B ^ r.length := Nat.mul_le_mul_right _ hx.2
  rw [Nat.add_mul, Nat.one_mul] at h1
  omega
theorem zL0 {B : Nat} {x : Int} {w : List Int} (h : Dig B (x :: w)) : B ^ w.length <= numW B (x :: w) := by
 have hx := (h x (List.mem_cons_self ..)).1
 rw [zBF]
 have h1 : 1 * B ^ w.length <= x.toNat * B ^ w.length := Nat.mul_le_mul_right _ (by omega)
 omega
theorem zDX {B : Nat} (hB : 0 < B) {v w : List Int} (hv : Dig B v) (hw : Dig B w) (h : v.length < w.length) : numW B v < numW B w := by
 cases w with
 | nil => simp at h
 | cons x r =>
  have h1 := zCK hB hv
  have h2 := zL0 hw
  have h3 : B ^ v.length <= B ^ r.length := Nat.pow_le_pow_right hB (by simp at h; omega)
  omega
theorem zAn {B : Nat} (hB : 0 < B) {v w : List Int} (hv : Dig B v) (hw : Dig B w) (h : numW B v <= numW B w) : v.length <= w.length := by
 refine Nat.not_lt.1 fun hlt => ?_
 have := zDX hB hw hv hlt
 omega
theorem zKR {B : Nat} (hB : 0 < B) : ∀ {v w : List Int}, Dig B v -> Dig B w -> numW B v = numW B w -> v = w := by
 intro v
 induction v with
 | nil =>
  intro w _ hw h
  have := zAn hB hw (zDv B) (by omega)
  exact (List.eq_nil_of_length_eq_zero (by simpa using this)).symm
 | cons x r ih =>
  intro w hv hw h
  have h1 := zAn hB hv hw (by omega)
  have h2 := zAn hB hw hv (by omega)
  cases w with
  | nil => simp at h1
  | cons y s =>
   have hl : r.length = s.length := by simp at h1 h2; omega
   have hr : Dig B r := fun z hz => hv z (List.mem_cons_of_mem _ hz)
   have hs : Dig B s := fun z hz => hw z (List.mem_cons_of_mem _ hz)
   have b1 := zCK hB hr
   have b2 := zCK hB hs
   rw [zBF, zBF, ← hl] at h
   rw [← hl] at b2
   have hp : 0 < B ^ r.length := Nat.pow_pos hB
   have hxy : x.toNat = y.toNat := by
    have d1 : (x.toNat * B ^ r.length + numW B r) / B ^ r.length = x.toNat := by
     rw [Nat.mul_comm, Nat.mul_add_div hp, Nat.div_eq_of_lt b1, Nat.add_zero]
    have d2 : (y.toNat * B ^ r.length + numW B s) / B ^ r.length = y.toNat := by
     rw [Nat.mul_comm, Nat.mul_add_div hp, Nat.div_eq_of_lt b2, Nat.add_zero]
    rw [← d1, h, d2]
   rw [hxy] at h
   have hx := (hv x (List.mem_cons_self ..)).1
   have hy := (hw y (List.mem_cons_self ..)).1
   have e : x = y := by omega
   subst e
   rw [ih hr hs (by omega)]
theorem zIn {B : Nat} (hB : 0 < B) {a a' b b' : List Int} (hb : Dig B b) (hb' : Dig B b') (h1 : numW B a <= numW B a') (h2 : numW B b <= numW B b') : numW B (a ++ b) <= numW B (a' ++ b') := by
 rw [zCr, zCr]
 have hl := zAn hB hb hb' h2
 have h3 : numW B a * B ^ b.length <= numW B a' * B ^ b'.length := Nat.mul_le_mul h1 (Nat.pow_le_pow_right hB hl)
 omega
def lexB : List Int -> List Int -> Bool
 | x :: r, y :: s => if x = y then lexB r s else decide (x < y)
 | _, _ => false
def zB3 (a b : List Int) : Bool := if a.length = b.length then lexB a b else decide (a.length < b.length)
theorem zLu {B : Nat} (hB : 0 < B) : ∀ {v w : List Int}, Dig B v -> Dig B w -> v.length = w.length -> (lexB v w = true ↔ numW B v < numW B w) := by
 intro v
 induction v with
 | nil =>
  intro w _ _ hl
  have : w = [] := List.eq_nil_of_length_eq_zero (by simpa using hl.symm)
  subst this
  simp [lexB]
 | cons x r ih =>
  intro w hv hw hl
  cases w with
  | nil => simp at hl
  | cons y s =>
   have hls : r.length = s.length := by simpa using hl
   have hr : Dig B r := fun z hz => hv z (List.mem_cons_of_mem _ hz)
   have hs : Dig B s := fun z hz => hw z (List.mem_cons_of_mem _ hz)
   have b1 := zCK hB hr
   have b2 := zCK hB hs
   have hx := hv x (List.mem_cons_self ..)
   have hy := hw y (List.mem_cons_self ..)
   rw [zBF, zBF, ← hls]
   rw [← hls] at b2
   unfold lexB
   by_cases e : x = y
   ·subst e
    rw [if_pos rfl, ih hr hs hls]
    omega
   ·rw [if_neg e, decide_eq_true_iff]
    constructor
    ·intro h
     have h1 : (x.toNat + 1) * B ^ r.length <= y.toNat * B ^ r.length := Nat.mul_le_mul_right _ (by omega)
     rw [Nat.add_mul, Nat.one_mul] at h1
     omega
    ·intro h
     refine Int.not_le.1 fun hle => ?_
     have h1 : (y.toNat + 1) * B ^ r.length <= x.toNat * B ^ r.length := Nat.mul_le_mul_right _ (by omega)
     rw [Nat.add_mul, Nat.one_mul] at h1
     omega
theorem zF6 {B : Nat} (hB : 0 < B) {v w : List Int} (hv : Dig B v) (hw : Dig B w) : zB3 v w = true ↔ numW B v < numW B w := by
 unfold zB3
 by_cases hl : v.length = w.length
 ·rw [if_pos hl]
  exact zLu hB hv hw hl
 ·rw [if_neg hl, decide_eq_true_iff]
  constructor
  ·exact zDX hB hv hw
  ·intro h
   have := zAn hB hv hw (Nat.le_of_lt h)
   omega
