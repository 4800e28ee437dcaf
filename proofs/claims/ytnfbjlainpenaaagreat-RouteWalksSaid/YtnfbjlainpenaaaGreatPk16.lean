/- A part of the proof. -/
import Derived.Test.YtnfbjlainpenaaaGreatPk04
set_option linter.unusedVariables false
namespace Go.Proofs.YtnfbjlainpenaaaGreat
namespace Le
open Gr (Gram nonB zBJ zAN zAW)
inductive Ws (G : Gram) : List Int -> List Int -> Prop
 | nil : Ws G [] []
 | zero {l w} : Ws G l w -> Ws G (0 :: l) w
 | term {s : Int} {l w} : zBJ G s = true -> Ws G l w -> Ws G (s :: l) (s :: w)
 | rule {r : Int × List Int} {l v w} : r ∈ G.rules -> Ws G r.2 v -> Ws G l w -> Ws G (r.1 :: l) (v ++ w)
def base (G : Gram) : Nat := G.terms.length + 1
theorem zDs (G : Gram) : 0 < base G := Nat.succ_pos _
theorem Ws.dig {G : Gram} {l w : List Int} (h : Ws G l w) : Dig (base G) w := by
 induction h with
 | nil => exact zDv _
 | zero _ ih => exact ih
 | term ht _ ih =>
  rw [zAN] at ht
  intro x hx
  rcases List.mem_cons.1 hx with h1 | h1
  ·subst h1
   unfold base
   omega
  ·exact ih x h1
 | rule _ _ _ ih1 ih2 => exact zGr ih1 ih2
theorem Ws.append {G : Gram} {l k v w : List Int} (h : Ws G l v) (h' : Ws G k w) : Ws G (l ++ k) (v ++ w) := by
 induction h with
 | nil => exact h'
 | zero _ ih => exact .zero ih
 | term ht _ ih => exact .term ht ih
 | rule hr h1 _ _ ih => rw [List.append_assoc]; exact .rule hr h1 ih
theorem Ws.cons {G : Gram} {s : Int} {l v w : List Int} (h : Ws G [s] v) (h' : Ws G l w) : Ws G (s :: l) (v ++ w) := h.append h'
theorem Ws.one {G : Gram} {r : Int × List Int} {v : List Int} (hr : r ∈ G.rules) (h : Ws G r.2 v) : Ws G [r.1] v := by
 have := Ws.rule hr h .nil
 rwa [List.append_nil] at this
inductive Ans where
 | none
 | far
 | is (w : List Int)
def putA (M : Nat) : Ans -> Ans -> Ans
 | .none, _ => .none
 | _, .none => .none
 | .far, _ => .far
 | _, .far => .far
 | .is v, .is w => if (v ++ w).length <= M then .is (v ++ w) else .far
def zAZ (M : Nat) (T : Int -> Ans) : List Int -> Ans
 | [] => .is []
 | s :: l => putA M (T s) (zAZ M T l)
def zAY : Ans -> Ans -> Bool
 | .none, _ => false
 | _, .none => true
 | .is _, .far => true
 | .is v, .is w => zB3 v w
 | .far, _ => false
theorem zEE {M : Nat} {a b : Ans} {x : List Int} (h : putA M a b = .is x) : ∃ v w, a = .is v /\ b = .is w /\ x = v ++ w /\ x.length <= M := by
 cases a with
 | none => cases h
 | far => cases b <;> cases h
 | is v =>
  cases b with
  | none => cases h
  | far => cases h
  | is w =>
   by_cases hl : (v ++ w).length <= M
   ·have e : putA M (.is v) (.is w) = .is (v ++ w) := if_pos hl
    rw [e] at h
    injection h with h
    subst h
    exact ⟨_, _, rfl, rfl, rfl, hl⟩
   ·have e : putA M (.is v) (.is w) = .far := if_neg hl
    rw [e] at h
    cases h
theorem zA3 {M : Nat} {a b : Ans} : putA M a b = .none ↔ a = .none \/ b = .none := by
 cases a <;> cases b <;> simp [putA]
 split <;> simp
def OkS (G : Gram) (M : Nat) (T : Int -> Ans) : Prop := ∀ s, (∀ w, T s = .is w -> Ws G [s] w /\ w.length <= M) /\ (T s = .far -> ∃ w, Ws G [s] w)
structure Cls (G : Gram) (M : Nat) (T : Int -> Ans) : Prop where
 zero : T 0 = .is []
 term : ∀ s, zBJ G s = true -> T s = .is [s]
 rule : ∀ r ∈ G.rules, zAY (zAZ M T r.2) (T r.1) = false
theorem OkS.some {G : Gram} {M : Nat} {T : Int -> Ans} (h : OkS G M T) {s : Int} (hs : T s ≠ .none) : ∃ w, Ws G [s] w := by
 cases e : T s with
 | none => exact absurd e hs
 | far => exact (h s).2 e
 | is w => exact ⟨w, ((h s).1 w e).1⟩
theorem OkS.join_some {G : Gram} {M : Nat} {T : Int -> Ans} (h : OkS G M T) : ∀ {l : List Int}, zAZ M T l ≠ .none -> ∃ w, Ws G l w := by
 intro l
 induction l with
 | nil => exact fun _ => ⟨[], .nil⟩
 | cons s l ih =>
  intro hn
  have h1 : ¬ (T s = .none \/ zAZ M T l = .none) := fun k => hn (zA3.2 k)
  obtain ⟨v, hv⟩ := h.some fun k => h1 (Or.inl k)
  obtain ⟨w, hw⟩ := ih fun k => h1 (Or.inr k)
  exact ⟨v ++ w, hv.cons hw⟩
theorem OkS.join_is {G : Gram} {M : Nat} {T : Int -> Ans} (h : OkS G M T) : ∀ {l x : List Int}, zAZ M T l = .is x -> Ws G l x /\ x.length <= M := by
 intro l
 induction l with
 | nil =>
  intro x hx
  injection hx with hx
  subst hx
  exact ⟨.nil, Nat.zero_le _⟩
 | cons s l ih =>
  intro x hx
  obtain ⟨v, w, h1, h2, h3, h4⟩ := zEE hx
  subst h3
  exact ⟨((h s).1 v h1).1.cons (ih h2).1, h4⟩
def setA (T : Int -> Ans) (s : Int) (a : Ans) : Int -> Ans := fun t => if t = s then a else T t
theorem zBB (T : Int -> Ans) (s : Int) (a : Ans) : setA T s a s = a := if_pos rfl
theorem zAi (T : Int -> Ans) {s t : Int} (a : Ans) (h : t ≠ s) : setA T s a t = T t := if_neg h
theorem OkS.set {G : Gram} {M : Nat} {T : Int -> Ans} (h : OkS G M T) {r : Int × List Int} (hr : r ∈ G.rules) : OkS G M (setA T r.1 (zAZ M T r.2)) := by
 intro s
 by_cases e : s = r.1
 ·subst e
  rw [zBB]
  refine ⟨fun w hw => ?_, fun hf => ?_⟩
  ·have := h.join_is hw
   exact ⟨.one hr this.1, this.2⟩
  ·obtain ⟨w, hw⟩ := h.join_some (l := r.2) (by rw [hf]; exact (fun k => by cases k))
   exact ⟨w, .one hr hw⟩
 ·rw [zAi _ _ e]
  exact h s
theorem zE8 {a : Ans} (h : zAY a .none = false) : a = .none := by
 cases a <;> simp [zAY] at h ⊢
theorem Cls.least {G : Gram} {M : Nat} {T : Int -> Ans} (ok : OkS G M T) (c : Cls G M T) {l w : List Int} (h : Ws G l w) :
  zAZ M T l ≠ .none /\ (w.length <= M -> ∃ v, zAZ M T l = .is v /\ numW (base G) v <= numW (base G) w) := by
 have hB := zDs G
 have step : ∀ {s : Int} {l v w : List Int}, Dig (base G) v -> Ws G l w -> (T s ≠ .none /\ (v.length <= M -> ∃ u, T s = .is u /\ Dig (base G) u /\ numW (base G) u <= numW (base G) v)) ->
   (zAZ M T l ≠ .none /\ (w.length <= M -> ∃ v, zAZ M T l = .is v /\ numW (base G) v <= numW (base G) w)) ->
   zAZ M T (s :: l) ≠ .none /\ ((v ++ w).length <= M -> ∃ u, zAZ M T (s :: l) = .is u /\ numW (base G) u <= numW (base G) (v ++ w)) := by
  intro s l v w hv hw h1 h2
  refine ⟨fun k => ?_, fun hl => ?_⟩
  ·rcases zA3.1 k with k | k
   ·exact h1.1 k
   ·exact h2.1 k
  ·rw [List.length_append] at hl
   obtain ⟨u, e1, du, n1⟩ := h1.2 (by omega)
   obtain ⟨x, e2, n2⟩ := h2.2 (by omega)
   have dx := (ok.join_is e2).1.dig
   have l1 := zAn hB du hv n1
   have l2 := zAn hB dx hw.dig n2
   refine ⟨u ++ x, ?_, zIn hB dx hw.dig n1 n2⟩
   show putA M (T s) (zAZ M T l) = _
   rw [e1, e2]
   show (if (u ++ x).length <= M then _ else _) = _
   rw [if_pos (by rw [List.length_append]; omega)]
 induction h with
 | nil => exact ⟨(fun k => by cases k), fun _ => ⟨[], rfl, Nat.le_refl _⟩⟩
 | zero hw ih =>
  exact step (s := 0) (v := []) (zDv _) hw ⟨by rw [c.zero]; exact (fun k => by cases k), fun _ => ⟨[], c.zero, zDv _, Nat.le_refl _⟩⟩ ih
 | @term s l w ht hw ih =>
  have d : Dig (base G) [s] := Ws.dig (Ws.term ht .nil)
  exact step (v := [s]) d hw ⟨by rw [c.term s ht]; exact (fun k => by cases k), fun _ => ⟨[s], c.term s ht, d, Nat.le_refl _⟩⟩ ih
 | @rule r l v w hr hv hw ih1 ih2 =>
  refine step hv.dig hw ?_ ih2
  have hb := c.rule r hr
  refine ⟨fun k => ?_, fun hl => ?_⟩
  ·rw [k] at hb
   exact ih1.1 (zE8 hb)
  ·obtain ⟨x, e, n⟩ := ih1.2 hl
   rw [e] at hb
   have dx := (ok.join_is e).1.dig
   cases eT : T r.1 with
   | none => rw [eT] at hb; simp [zAY] at hb
   | far => rw [eT] at hb; simp [zAY] at hb
   | is u =>
    rw [eT] at hb
    have du := ((ok r.1).1 u eT).1.dig
    refine ⟨u, rfl, du, ?_⟩
    have hn : ¬ numW (base G) x < numW (base G) u := fun k => by
     have := (zF6 hB dx du).2 k
     have hb' : zB3 x u = false := hb
     rw [hb'] at this
     cases this
    omega
theorem Cls.one {G : Gram} {M : Nat} {T : Int -> Ans} (ok : OkS G M T) (c : Cls G M T) {s : Int} {w : List Int} (h : Ws G [s] w) :
  T s ≠ .none /\ (w.length <= M -> ∃ v, T s = .is v /\ numW (base G) v <= numW (base G) w) := by
 have k := c.least ok h
 refine ⟨fun e => k.1 (zA3.2 (Or.inl e)), fun hl => ?_⟩
 obtain ⟨v, e, n⟩ := k.2 hl
 obtain ⟨a, b, e1, e2, e3, _⟩ := zEE e
 injection e2 with e2
 subst e2
 rw [List.append_nil] at e3
 subst e3
 exact ⟨_, e1, n⟩
theorem Cls.unique {G : Gram} {M : Nat} {T T' : Int -> Ans} (ok : OkS G M T) (c : Cls G M T) (ok' : OkS G M T') (c' : Cls G M T') (s : Int) : T s = T' s := by
 have hB := zDs G
 cases e : T s with
 | none =>
  cases e' : T' s with
  | none => rfl
  | far => obtain ⟨w, hw⟩ := (ok' s).2 e'; exact absurd e (c.one ok hw).1
  | is w => exact absurd e (c.one ok ((ok' s).1 w e').1).1
 | far =>
  obtain ⟨w, hw⟩ := (ok s).2 e
  cases e' : T' s with
  | none => exact absurd e' (c'.one ok' hw).1
  | far => rfl
  | is x =>
   have hx := (ok' s).1 x e'
   obtain ⟨v, ev, _⟩ := (c.one ok hx.1).2 hx.2
   rw [e] at ev
   cases ev
 | is v =>
  have hv := (ok s).1 v e
  obtain ⟨w, ew, n⟩ := (c'.one ok' hv.1).2 hv.2
  have hw := (ok' s).1 w ew
  obtain ⟨x, ex, n'⟩ := (c.one ok hw.1).2 hw.2
  rw [e] at ex
  injection ex with ex
  subst ex
  rw [ew, zKR hB hv.1.dig hw.1.dig (by omega)]
def zEr (B M : Nat) : Ans -> Nat
 | .none => B ^ (M + 1) + 1
 | .far => B ^ (M + 1)
 | .is w => numW B w
theorem zMC {B M : Nat} (hB : 0 < B) {w : List Int} (h : Dig B w) (hl : w.length <= M) : numW B w < B ^ (M + 1) :=
 Nat.lt_of_lt_of_le (zCK hB h) (Nat.pow_le_pow_right hB (by omega))
theorem zE9 {B M : Nat} (hB : 0 < B) {a b : Ans} (ha : ∀ w, a = .is w -> Dig B w /\ w.length <= M) (hb : ∀ w, b = .is w -> Dig B w) (h : zAY a b = true) : zEr B M a < zEr B M b := by
 cases a with
 | none => cases b <;> simp [zAY] at h
 | far => cases b <;> simp [zAY, zEr] at h ⊢
 | is v =>
  have hv := ha v rfl
  have h1 := zMC hB hv.1 hv.2
  cases b with
  | none => show numW B v < B ^ (M + 1) + 1; omega
  | far => exact h1
  | is w => exact (zF6 hB hv.1 (hb w rfl)).1 h
def sumTo (f : Nat -> Nat) : Nat -> Nat
 | 0 => 0
 | n + 1 => sumTo f n + f n
theorem sumTo_le {f g : Nat -> Nat} : ∀ {n : Nat}, (∀ i, i < n -> f i <= g i) -> sumTo f n <= sumTo g n := by
 intro n
 induction n with
 | zero => exact fun _ => Nat.le_refl _
 | succ n ih => exact fun h => Nat.add_le_add (ih fun i hi => h i (by omega)) (h n (by omega))
theorem zKp {f g : Nat -> Nat} : ∀ {n k : Nat}, (∀ i, i < n -> f i <= g i) -> k < n -> f k < g k -> sumTo f n < sumTo g n := by
 intro n
 induction n with
 | zero => intro k _ hk; omega
 | succ n ih =>
  intro k h hk hlt
  show sumTo f n + f n < sumTo g n + g n
  by_cases e : k = n
  ·subst e
   have := sumTo_le (f := f) (g := g) (n := k) fun i hi => h i (by omega)
   omega
  ·have h1 := ih (k := k) (fun i hi => h i (by omega)) (by omega) hlt
   have h2 := h n (by omega)
   omega
def zCa (G : Gram) (M : Nat) (T : Int -> Ans) (n : Nat) : Nat := sumTo (fun i => zEr (base G) M (T (i : Int))) n
theorem zKD {G : Gram} {M : Nat} {T : Int -> Ans} (ok : OkS G M T) {r : Int × List Int} (hr : r ∈ G.rules) {n : Nat} (h0 : 0 <= r.1) (hn : r.1 < (n : Int)) (hb : zAY (zAZ M T r.2) (T r.1) = true) :
  zCa G M (setA T r.1 (zAZ M T r.2)) n < zCa G M T n := by
 have hB := zDs G
 have hk : zEr (base G) M (zAZ M T r.2) < zEr (base G) M (T r.1) :=
  zE9 hB (fun w hw => ⟨(ok.join_is hw).1.dig, (ok.join_is hw).2⟩) (fun w hw => ((ok r.1).1 w hw).1.dig) hb
 have e : ((r.1.toNat : Nat) : Int) = r.1 := by omega
 refine zKp (k := r.1.toNat) (fun i _ => ?_) (by omega) ?_
 ·by_cases ei : (i : Int) = r.1
  ·rw [ei, zBB]
   exact Nat.le_of_lt hk
  ·rw [zAi _ _ ei]
   exact Nat.le_refl _
 ·show zEr (base G) M (setA T r.1 (zAZ M T r.2) ((r.1.toNat : Nat) : Int)) < zEr (base G) M (T ((r.1.toNat : Nat) : Int))
  rw [e, zBB]
  exact hk
def tab0 (G : Gram) : Int -> Ans := fun s => if s = 0 then .is [] else if zBJ G s = true then .is [s] else .none
theorem zL2 {G : Gram} {M : Nat} (hM : 1 <= M) : OkS G M (tab0 G) := by
 intro s
 unfold tab0
 split
 ·rename_i h
  subst h
  refine ⟨fun w hw => ?_, fun h => by cases h⟩
  injection hw with hw
  subst hw
  exact ⟨.zero .nil, Nat.zero_le _⟩
 ·split
  ·rename_i ht
   refine ⟨fun w hw => ?_, fun h => by cases h⟩
   injection hw with hw
   subst hw
   exact ⟨.term ht .nil, hM⟩
  ·exact ⟨(fun w hw => by cases hw), fun h => by cases h⟩
theorem zF1 {G : Gram} {M : Nat} {T : Int -> Ans} {r : Int × List Int} (hn : nonB G r.1 = true) {s : Int} (h : s = 0 \/ zBJ G s = true) : setA T r.1 (zAZ M T r.2) s = T s := by
 refine zAi _ _ fun e => ?_
 subst e
 rw [zAW] at hn
 rcases h with h | h
 ·omega
 ·rw [zAN] at h
  omega
