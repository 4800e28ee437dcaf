/- A part of the proof. -/
import Derived.Test.YtbajcecncgdpmaaGreatDoorPk19
import Derived.Test.YtbajcecncgdpmaaGreatDoorPk14
set_option linter.unusedVariables false
namespace Go.Proofs.YtbajcecncgdpmaaGreatDoor
namespace Fi
open Gr (Gram nonB zAd)
def zJn (G : Gram) (n : Nat) : Prop := ∀ r ∈ G.rules, 0 <= r.1 /\ r.1 < (n : Int)
def zCq (C : Int -> Bool) (F : Int -> Int -> Bool) (m n : Nat) : Nat := zCm C n + zAr F m n
def grows (C : Int -> Bool) (F : Int -> Int -> Bool) (r : Int × List Int) : Prop := (∃ t, zAO C F r.2 t = true /\ F r.1 t = false) \/ (allC C r.2 = true /\ C r.1 = false)
theorem zIE {C : Int -> Bool} {F : Int -> Int -> Bool} {r : Int × List Int} (h : ¬ grows C F r) : Shut C F r := by
 constructor
 ·intro k
  cases e : C r.1 with
  | true => rfl
  | false => exact absurd (.inr ⟨k, e⟩) h
 ·intro t k
  cases e : F r.1 t with
  | true => rfl
  | false => exact absurd (.inl ⟨t, k, e⟩) h
theorem zHg {C : Int -> Bool} {r : Int × List Int} {x : Int} (h : C x = true) : addC C r x = true := by unfold addC; rw [h]; rfl
theorem zCy {C : Int -> Bool} {F : Int -> Int -> Bool} {r : Int × List Int} {x t : Int} (h : F x t = true) : addF C F r x t = true := by unfold addF; rw [h]; rfl
theorem zIb {C : Int -> Bool} {r : Int × List Int} (h : allC C r.2 = true) : addC C r r.1 = true := by unfold addC; rw [h]; simp
theorem zI8 {C : Int -> Bool} {F : Int -> Int -> Bool} {r : Int × List Int} {t : Int} (h : zAO C F r.2 t = true) : addF C F r r.1 t = true := by unfold addF; rw [h]; simp
theorem zKU {G : Gram} {C : Int -> Bool} {F : Int -> Int -> Bool} {n : Nat} (hs : Snd G C F) (hl : zJn G n) {r : Int × List Int} (hr : r ∈ G.rules) (h : grows C F r) :
  zCq (addC C r) (addF C F r) (G.terms.length + 1) n < zCq C F (G.terms.length + 1) n := by
 obtain ⟨h0, h1⟩ := hl r hr
 have e : ((r.1.toNat : Nat) : Int) = r.1 := by omega
 have m1 := zD3 (P := C) (Q := addC C r) (n := n) fun i _ k => zHg k
 have m2 := zIs (F := F) (H := addF C F r) (m := G.terms.length + 1) (n := n) fun x t _ _ k => zCy k
 unfold zCq
 rcases h with ⟨t, h2, h3⟩ | ⟨h2, h3⟩
 ·obtain ⟨t0, t1⟩ := zBA (hs.line h2)
  have et : ((t.toNat : Nat) : Int) = t := by omega
  have := zGQ (F := F) (H := addF C F r) (m := G.terms.length + 1) (n := n) (k := r.1.toNat) (fun x t _ _ k => zCy k) (by omega)
   (zDG (k := t.toNat) (fun i _ k => zCy k) (by omega) (by rw [e, et]; exact h3) (by rw [e, et]; exact zI8 h2))
  omega
 ·have := zDG (P := C) (Q := addC C r) (n := n) (k := r.1.toNat) (fun i _ k => zHg k) (by omega) (by rw [e]; exact h3) (by rw [e]; exact zIb h2)
  omega
structure TriedF (G : Gram) (n : Nat) (C0 : Int -> Bool) (F0 : Int -> Int -> Bool) (j : Nat) (C : Int -> Bool) (F : Int -> Int -> Bool) (b : Bool) : Prop where
 snd : Snd G C F
 leaf : Leaf G F
 no : b = false -> (C = C0 /\ F = F0) /\ ∀ i (h : i < G.rules.length), i < j -> Shut C0 F0 G.rules[i]
 yes : b = true -> zCq C F (G.terms.length + 1) n < zCq C0 F0 (G.terms.length + 1) n
theorem zR0 {G : Gram} {n : Nat} {C : Int -> Bool} {F : Int -> Int -> Bool} (h : Snd G C F) (hl : Leaf G F) : TriedF G n C F 0 C F false := ⟨h, hl, fun _ => ⟨⟨rfl, rfl⟩, fun i _ hi => absurd hi (by omega)⟩, fun h => by cases h⟩
theorem TriedF.step {G : Gram} {n : Nat} {C0 C : Int -> Bool} {F0 F : Int -> Int -> Bool} {j : Nat} {b c : Bool} (h : TriedF G n C0 F0 j C F b) (hl : zJn G n) (hj : j < G.rules.length) (hc : c = true ↔ grows C F G.rules[j]) :
  TriedF G n C0 F0 (j + 1) (addC C G.rules[j]) (addF C F G.rules[j]) (b || c) := by
 have hm := List.getElem_mem hj
 have hs1 : Snd G C (Fi.addF C F G.rules[j]) := h.snd.addF hm
 have hs : Snd G (addC C G.rules[j]) (Fi.addF C F G.rules[j]) := ⟨(h.snd.addC hm).can, hs1.fst⟩
 have hlf : Leaf G (addF C F G.rules[j]) := fun x hx => zCy (h.leaf x hx)
 cases c with
 | false =>
  have hg : Shut C F G.rules[j] := zIE fun k => by have := hc.2 k; cases this
  rw [zEo hg.can, zHS hg.fst, Bool.or_false]
  refine ⟨h.snd, h.leaf, fun e => ?_, h.yes⟩
  obtain ⟨⟨e1, e2⟩, e3⟩ := h.no e
  refine ⟨⟨e1, e2⟩, fun i hi hl => ?_⟩
  by_cases he : i = j
  ·subst he
   rw [← e1, ← e2]
   exact hg
  ·exact e3 i hi (by omega)
 | true =>
  have hg := zKU h.snd hl hm (hc.1 rfl)
  rw [Bool.or_true]
  refine ⟨hs, hlf, (fun e => by cases e), fun _ => ?_⟩
  cases b with
  | false =>
   obtain ⟨⟨e1, e2⟩, _⟩ := h.no rfl
   rw [e1, e2] at hg ⊢
   exact hg
  | true => exact Nat.lt_trans hg (h.yes rfl)
theorem TriedF.all {G : Gram} {n : Nat} {C0 C : Int -> Bool} {F0 F : Int -> Int -> Bool} {j : Nat} (h : TriedF G n C0 F0 j C F false) (hj : ¬ j < G.rules.length) : Just G C F := by
 obtain ⟨⟨e1, e2⟩, e3⟩ := h.no rfl
 refine zL3 h.snd h.leaf fun r hr => ?_
 obtain ⟨i, hi, rfl⟩ := List.getElem_of_mem hr
 rw [e1, e2]
 exact e3 i hi (by omega)
def zCM : Int -> Bool := fun _ => false
def zBO (G : Gram) : Int -> Int -> Bool := fun x t => decide (x = t /\ 0 <= x /\ x <= (G.terms.length : Int))
theorem snd0 (G : Gram) : Snd G zCM (zBO G) := by
 refine ⟨(fun x h => by cases h), fun x t h => ?_⟩
 unfold zBO at h
 rw [decide_eq_true_iff] at h
 obtain ⟨rfl, h1, h2⟩ := h
 exact .leaf (by rw [zAd]; omega)
theorem zSu (G : Gram) : Leaf G (zBO G) := fun x hx => by
 unfold zBO
 rw [decide_eq_true_iff]
 rw [zAd] at hx
 omega
def behP (C : Int -> Bool) (F B : Int -> Int -> Bool) (r : Int × List Int) (k : Nat) (t : Int) : Bool := zAO C F (r.2.drop (k + 1)) t || (allC C (r.2.drop (k + 1)) && B r.1 t)
def addB (C : Int -> Bool) (F B : Int -> Int -> Bool) (r : Int × List Int) (k : Nat) (x : Int) : Int -> Int -> Bool := fun y t => B y t || (decide (y = x) && behP C F B r k t)
def zSL (G : Gram) (C : Int -> Bool) (F B : Int -> Int -> Bool) (r : Int × List Int) (k : Nat) : Prop := ∀ hk : k < r.2.length, nonB G r.2[k] = true -> ∀ t, behP C F B r k t = true -> B r.2[k] t = true
theorem zNs {G : Gram} {C : Int -> Bool} {F B : Int -> Int -> Bool} {r : Int × List Int} (h : ∀ k, zSL G C F B r k) : zTS G C F B r := fun pre x post e hn => by
 have hl : pre.length < r.2.length := by rw [e, List.length_append, List.length_cons]; omega
 have hx : r.2[pre.length] = x := by
  have : r.2[pre.length]? = some x := by rw [e]; simp
  rw [List.getElem?_eq_getElem hl] at this
  injection this
 have hd : r.2.drop (pre.length + 1) = post := by
  rw [e, ← List.drop_drop, List.drop_left]
  rfl
 have hp := h pre.length hl (by rw [hx]; exact hn)
 rw [hx] at hp
 unfold behP at hp
 rw [hd] at hp
 exact ⟨fun t ht => hp t (by rw [ht]; rfl), fun ha t ht => hp t (by rw [ha, ht]; simp)⟩
theorem zK4 {G : Gram} {C : Int -> Bool} {F B : Int -> Int -> Bool} (j : Just G C F) (hb : BSnd G B) {r : Int × List Int} (hr : r ∈ G.rules) {k : Nat} (hk : k < r.2.length) (hn : nonB G r.2[k] = true) {t : Int} (h : behP C F B r k t = true) : Fol G r.2[k] t := by
 have e : r.2 = r.2.take k ++ r.2[k] :: r.2.drop (k + 1) := by
  rw [← List.drop_eq_getElem_cons hk, List.take_append_drop]
 unfold behP at h
 rw [Bool.or_eq_true, Bool.and_eq_true] at h
 rcases h with h | ⟨h1, h2⟩
 ·exact .next hr e hn ((j.line _ _).1 h)
 ·exact .last hr e hn ((j.all _).1 h1) (hb.fol _ _ h2)
structure TriedB (G : Gram) (n : Nat) (C : Int -> Bool) (F B0 : Int -> Int -> Bool) (j k : Nat) (B : Int -> Int -> Bool) (b : Bool) : Prop where
 snd : BSnd G B
 start : B G.start 0 = true
 no : b = false -> B = B0 /\ (∀ i (h : i < G.rules.length), i < j -> ∀ l, zSL G C F B0 G.rules[i] l) /\ ∀ h : j < G.rules.length, ∀ l, l < k -> zSL G C F B0 G.rules[j] l
 yes : b = true -> zAr B (G.terms.length + 1) n < zAr B0 (G.terms.length + 1) n
theorem zEZ {G : Gram} {n : Nat} {C : Int -> Bool} {F B : Int -> Int -> Bool} (h : BSnd G B) (h0 : B G.start 0 = true) : TriedB G n C F B 0 0 B false :=
 ⟨h, h0, fun _ => ⟨rfl, (fun i _ hi => absurd hi (by omega)), fun _ l hl => absurd hl (by omega)⟩, fun h => by cases h⟩
theorem TriedB.skip {G : Gram} {n : Nat} {C : Int -> Bool} {F B0 B : Int -> Int -> Bool} {j k : Nat} {b : Bool} (h : TriedB G n C F B0 j k B b) (hj : j < G.rules.length) (hs : ∀ hk : k < G.rules[j].2.length, nonB G G.rules[j].2[k] = false) : TriedB G n C F B0 j (k + 1) B b := by
 refine ⟨h.snd, h.start, fun e => ?_, h.yes⟩
 obtain ⟨e1, e2, e3⟩ := h.no e
 refine ⟨e1, e2, fun hj l hl => ?_⟩
 by_cases he : l = k
 ·subst he
  exact fun hk hn => by rw [hs hk] at hn; cases hn
 ·exact e3 hj l (by omega)
theorem TriedB.step {G : Gram} {n : Nat} {C : Int -> Bool} {F B0 B : Int -> Int -> Bool} {j k : Nat} {b c : Bool} (h : TriedB G n C F B0 j k B b) (hJ : Just G C F) (hj : j < G.rules.length) (hk : k < G.rules[j].2.length) (hn : nonB G G.rules[j].2[k] = true)
  (h0 : 0 <= G.rules[j].2[k]) (h1 : G.rules[j].2[k] < (n : Int)) (hc : c = true ↔ ∃ t, behP C F B G.rules[j] k t = true /\ B G.rules[j].2[k] t = false) :
  TriedB G n C F B0 j (k + 1) (addB C F B G.rules[j] k G.rules[j].2[k]) (b || c) := by
 have hm := List.getElem_mem hj
 have hbs : BSnd G (addB C F B G.rules[j] k G.rules[j].2[k]) := h.snd.put fun t ht => zK4 hJ h.snd hm hk hn ht
 have le : ∀ {x t : Int}, B x t = true -> addB C F B G.rules[j] k G.rules[j].2[k] x t = true := fun {x t} e => by unfold addB; rw [e]; rfl
 cases c with
 | false =>
  have hsh : ∀ t, behP C F B G.rules[j] k t = true -> B G.rules[j].2[k] t = true := fun t ht => by
   cases e : B G.rules[j].2[k] t with
   | true => rfl
   | false => have := hc.2 ⟨t, ht, e⟩; cases this
  have same : addB C F B G.rules[j] k G.rules[j].2[k] = B := by
   funext x t
   unfold addB
   by_cases e : x = G.rules[j].2[k]
   ·subst e
    cases ha : behP C F B G.rules[j] k t with
    | false => simp
    | true => simp [hsh t ha]
   ·simp [e]
  rw [same, Bool.or_false]
  refine ⟨h.snd, h.start, fun e => ?_, h.yes⟩
  obtain ⟨e1, e2, e3⟩ := h.no e
  refine ⟨e1, e2, fun hj' l hl => ?_⟩
  by_cases he : l = k
  ·subst he
   rw [← e1]
   exact fun _ _ t ht => hsh t ht
  ·exact e3 hj' l (by omega)
 | true =>
  obtain ⟨t, h2, h3⟩ := hc.1 rfl
  obtain ⟨t0, t1⟩ := zHE (zK4 hJ h.snd hm hk hn h2)
  have et : ((t.toNat : Nat) : Int) = t := by omega
  have ex : ((G.rules[j].2[k].toNat : Nat) : Int) = G.rules[j].2[k] := by omega
  have hg : zAr (addB C F B G.rules[j] k G.rules[j].2[k]) (G.terms.length + 1) n < zAr B (G.terms.length + 1) n :=
   zGQ (k := G.rules[j].2[k].toNat) (fun x t _ _ e => le e) (by omega)
    (zDG (k := t.toNat) (fun i _ e => le e) (by omega) (by rw [ex, et]; exact h3) (by rw [ex, et]; unfold addB; rw [h2]; simp))
  rw [Bool.or_true]
  refine ⟨hbs, le h.start, (fun e => by cases e), fun _ => ?_⟩
  cases b with
  | false =>
   have e1 := (h.no rfl).1
   rw [e1] at hg ⊢
   exact hg
  | true => exact Nat.lt_trans hg (h.yes rfl)
theorem TriedB.next {G : Gram} {n : Nat} {C : Int -> Bool} {F B0 B : Int -> Int -> Bool} {j k : Nat} {b : Bool} (h : TriedB G n C F B0 j k B b) (hj : j < G.rules.length) (hk : ¬ k < G.rules[j].2.length) : TriedB G n C F B0 (j + 1) 0 B b := by
 refine ⟨h.snd, h.start, fun e => ?_, h.yes⟩
 obtain ⟨e1, e2, e3⟩ := h.no e
 refine ⟨e1, fun i hi hl l => ?_, fun _ l hl => absurd hl (by omega)⟩
 by_cases he : i = j
 ·subst he
  by_cases hlk : l < k
  ·exact e3 hi l hlk
  ·exact fun hl2 => absurd hl2 (by omega)
 ·exact e2 i hi (by omega) l
theorem TriedB.all {G : Gram} {n : Nat} {C : Int -> Bool} {F B0 B : Int -> Int -> Bool} {j k : Nat} (h : TriedB G n C F B0 j k B false) (hJ : Just G C F) (hj : ¬ j < G.rules.length) : ∀ x t, B x t = true ↔ Fol G x t := by
 obtain ⟨e1, e2, _⟩ := h.no rfl
 refine zMP hJ h.snd h.start fun r hr => ?_
 obtain ⟨i, hi, rfl⟩ := List.getElem_of_mem hr
 rw [e1]
 exact zNs fun l => e2 i hi (by omega) l
def zBl (G : Gram) : Int -> Int -> Bool := fun x t => decide (x = G.start /\ t = 0)
theorem zRN (G : Gram) : BSnd G (zBl G) /\ zBl G G.start 0 = true := by
 refine ⟨⟨fun x t h => ?_⟩, by simp [zBl]⟩
 unfold zBl at h
 rw [decide_eq_true_iff] at h
 obtain ⟨rfl, rfl⟩ := h
 exact .start
end Fi
namespace Fi
open Gr (Gram)
open Bt (Upto has orr gains els zHP)
structure TriedE (G : Gram) (n : Nat) (C0 : Int -> Bool) (j : Nat) (C : Int -> Bool) (b : Bool) : Prop where
 snd : ∀ x, C x = true -> Can G x
 no : b = false -> C = C0 /\ ∀ i (h : i < G.rules.length), i < j -> allC C0 G.rules[i].2 = true -> C0 G.rules[i].1 = true
 yes : b = true -> zCm C n < zCm C0 n
theorem zHy {G : Gram} {n : Nat} {C : Int -> Bool} (h : ∀ x, C x = true -> Can G x) : TriedE G n C 0 C false := ⟨h, fun _ => ⟨rfl, fun i _ hi => absurd hi (by omega)⟩, fun h => by cases h⟩
theorem TriedE.step {G : Gram} {n : Nat} {C0 C : Int -> Bool} {j : Nat} {b c : Bool} (h : TriedE G n C0 j C b) (hl : zJn G n) (hj : j < G.rules.length) (hc : c = true ↔ allC C G.rules[j].2 = true /\ C G.rules[j].1 = false) :
  TriedE G n C0 (j + 1) (addC C G.rules[j]) (b || c) := by
 have hm := List.getElem_mem hj
 have hs : ∀ x, addC C G.rules[j] x = true -> Can G x := fun x k => by
  unfold addC at k
  rw [Bool.or_eq_true, Bool.and_eq_true, decide_eq_true_iff] at k
  rcases k with k | ⟨e, k⟩
  ·exact h.snd x k
  ·subst e
   exact .mk _ hm fun z hz => h.snd z (zBn.1 k z hz)
 cases c with
 | false =>
  have hg : allC C G.rules[j].2 = true -> C G.rules[j].1 = true := fun k => by
   cases e : C G.rules[j].1 with
   | true => rfl
   | false => have := hc.2 ⟨k, e⟩; cases this
  rw [zEo hg, Bool.or_false]
  refine ⟨h.snd, fun e => ?_, h.yes⟩
  obtain ⟨e1, e3⟩ := h.no e
  refine ⟨e1, fun i hi hl => ?_⟩
  by_cases he : i = j
  ·subst he
   rw [← e1]
   exact hg
  ·exact e3 i hi (by omega)
 | true =>
  obtain ⟨h2, h3⟩ := hc.1 rfl
  obtain ⟨l0, l1⟩ := hl _ hm
  have e : ((G.rules[j].1.toNat : Nat) : Int) = G.rules[j].1 := by omega
  have hg := zDG (P := C) (Q := addC C G.rules[j]) (n := n) (k := G.rules[j].1.toNat) (fun i _ k => zHg k) (by omega) (by rw [e]; exact h3) (by rw [e]; exact zIb h2)
  rw [Bool.or_true]
  refine ⟨hs, (fun e => by cases e), fun _ => ?_⟩
  cases b with
  | false =>
   have e1 := (h.no rfl).1
   rw [e1] at hg ⊢
   exact hg
  | true => exact Nat.lt_trans hg (h.yes rfl)
theorem TriedE.all {G : Gram} {n : Nat} {C0 C : Int -> Bool} {j : Nat} (h : TriedE G n C0 j C false) (hj : ¬ j < G.rules.length) : C = canB G := by
 obtain ⟨e1, e3⟩ := h.no rfl
 have hc : ∀ x, Can G x -> C x = true := fun x k => by
  induction k with
  | mk r hr _ ih =>
   obtain ⟨i, hi, rfl⟩ := List.getElem_of_mem hr
   rw [e1] at ih ⊢
   exact e3 i hi (by omega) (zBn.2 fun z hz => ih z hz)
 funext x
 rw [Bool.eq_iff_iff, zAj]
 exact ⟨h.snd x, hc x⟩
structure TriedG (G : Gram) (n : Nat) (F0 : Int -> Int -> Bool) (j : Nat) (F : Int -> Int -> Bool) (b : Bool) : Prop where
 snd : Snd G (canB G) F
 leaf : Leaf G F
 no : b = false -> F = F0 /\ ∀ i (h : i < G.rules.length), i < j -> ∀ t, zAO (canB G) F0 G.rules[i].2 t = true -> F0 G.rules[i].1 t = true
 yes : b = true -> zAr F (G.terms.length + 1) n < zAr F0 (G.terms.length + 1) n
theorem zHw {G : Gram} {n : Nat} {F : Int -> Int -> Bool} (h : Snd G (canB G) F) (hl : Leaf G F) : TriedG G n F 0 F false := ⟨h, hl, fun _ => ⟨rfl, fun i _ hi => absurd hi (by omega)⟩, fun h => by cases h⟩
theorem TriedG.step {G : Gram} {n : Nat} {F0 F : Int -> Int -> Bool} {j : Nat} {b c : Bool} (h : TriedG G n F0 j F b) (hl : zJn G n) (hj : j < G.rules.length) (hc : c = true ↔ ∃ t, zAO (canB G) F G.rules[j].2 t = true /\ F G.rules[j].1 t = false) :
  TriedG G n F0 (j + 1) (addF (canB G) F G.rules[j]) (b || c) := by
 have hm := List.getElem_mem hj
 have hs := h.snd.addF hm
 have hlf : Leaf G (addF (canB G) F G.rules[j]) := fun x hx => zCy (h.leaf x hx)
 cases c with
 | false =>
  have hg : ∀ t, zAO (canB G) F G.rules[j].2 t = true -> F G.rules[j].1 t = true := fun t k => by
   cases e : F G.rules[j].1 t with
   | true => rfl
   | false => have := hc.2 ⟨t, k, e⟩; cases this
  rw [zHS hg, Bool.or_false]
  refine ⟨h.snd, h.leaf, fun e => ?_, h.yes⟩
  obtain ⟨e1, e3⟩ := h.no e
  refine ⟨e1, fun i hi hl => ?_⟩
  by_cases he : i = j
  ·subst he
   rw [← e1]
   exact hg
  ·exact e3 i hi (by omega)
 | true =>
  obtain ⟨t, h2, h3⟩ := hc.1 rfl
  obtain ⟨t0, t1⟩ := zBA (h.snd.line h2)
  obtain ⟨l0, l1⟩ := hl _ hm
  have et : ((t.toNat : Nat) : Int) = t := by omega
  have e : ((G.rules[j].1.toNat : Nat) : Int) = G.rules[j].1 := by omega
  have hg := zGQ (F := F) (H := addF (canB G) F G.rules[j]) (m := G.terms.length + 1) (n := n) (k := G.rules[j].1.toNat) (fun x t _ _ k => zCy k) (by omega)
   (zDG (k := t.toNat) (fun i _ k => zCy k) (by omega) (by rw [e, et]; exact h3) (by rw [e, et]; exact zI8 h2))
  rw [Bool.or_true]
  refine ⟨hs, hlf, (fun e => by cases e), fun _ => ?_⟩
  cases b with
  | false =>
   have e1 := (h.no rfl).1
   rw [e1] at hg ⊢
   exact hg
  | true => exact Nat.lt_trans hg (h.yes rfl)
theorem TriedG.all {G : Gram} {n : Nat} {F0 F : Int -> Int -> Bool} {j : Nat} (h : TriedG G n F0 j F false) (hj : ¬ j < G.rules.length) : F = fstB G := by
 obtain ⟨e1, e3⟩ := h.no rfl
 have hJ : Just G (canB G) F := zL3 h.snd h.leaf fun r hr => by
  obtain ⟨i, hi, rfl⟩ := List.getElem_of_mem hr
  refine ⟨fun k => zAj.2 (.mk _ hr fun z hz => zAj.1 (zBn.1 k z hz)), ?_⟩
  rw [e1]
  exact e3 i hi (by omega)
 exact hJ.eq.2
theorem zP7 {G : Gram} {B : Int -> Int -> Bool} (h : ∀ x t, B x t = true ↔ Fol G x t) : B = folB G := by
 funext x t
 rw [Bool.eq_iff_iff, h, zGL]
theorem zK1 (G : Gram) : ∀ x, zCM x = true -> Can G x := fun x h => by cases h
theorem zTs (G : Gram) : Snd G (canB G) (zBO G) := ⟨fun x h => zAj.1 h, (snd0 G).fst⟩
def zBQ (C : Int -> Bool) : List Int -> Nat
 | [] => 0
 | y :: l => if C y = true then zBQ C l + 1 else 1
theorem zNz (C : Int -> Bool) (l : List Int) : zBQ C l <= l.length := by
 induction l with
 | nil => exact Nat.le_refl _
 | cons y l ih =>
  unfold zBQ
  rw [List.length_cons]
  split <;> omega
theorem zEQ {C : Int -> Bool} : ∀ {l : List Int} {i : Nat} (h : i < l.length), (∀ k (hk : k < l.length), k < i -> C l[k] = true) -> C l[i] = false -> zBQ C l = i + 1 /\ allC C l = false
 | [], i, h, _, _ => absurd h (by simp)
 | y :: l, 0, _, _, hc => by
  have hy : C y = false := hc
  unfold zBQ
  rw [hy]
  exact ⟨rfl, by unfold allC; rw [List.all_cons, hy]; rfl⟩
 | y :: l, i + 1, h, hb, hc => by
  have hy : C y = true := hb 0 (by simp) (by omega)
  obtain ⟨e1, e2⟩ := zEQ (C := C) (l := l) (i := i) (by simpa using h) (fun k hk hki => hb (k + 1) (by simpa using hk) (by omega)) hc
  unfold zBQ
  rw [hy, e1]
  refine ⟨rfl, ?_⟩
  unfold allC at e2 ⊢
  rw [List.all_cons, hy, e2]
  rfl
theorem zEM {C : Int -> Bool} : ∀ {l : List Int}, (∀ k (hk : k < l.length), C l[k] = true) -> zBQ C l = l.length /\ allC C l = true
 | [], _ => ⟨rfl, rfl⟩
 | y :: l, hb => by
  have hy : C y = true := hb 0 (by simp)
  obtain ⟨e1, e2⟩ := zEM (C := C) (l := l) (fun k hk => hb (k + 1) (by simpa using hk))
  unfold zBQ
  rw [hy, e1]
  refine ⟨rfl, ?_⟩
  unfold allC at e2 ⊢
  rw [List.all_cons, hy, e2]
  rfl
theorem zBf (C : Int -> Bool) (F : Int -> Int -> Bool) (t : Int) : ∀ l : List Int, ((l.take (zBQ C l)).any fun y => F y t) = zAO C F l t
 | [] => rfl
 | y :: l => by
  have ih := zBf C F t l
  unfold zBQ zAO
  cases hy : C y with
  | true => simp only [if_pos, List.take_succ_cons, List.any_cons, ih, Bool.true_and]
  | false => simp
def rw' (P : Int -> Bool) : Nat -> Bool := fun i => P (i : Int)
def Rng (P : Int -> Bool) (n : Nat) : Prop := ∀ x, P x = true -> 0 <= x /\ x < (n : Int)
theorem zTG {P : Int -> Bool} {n : Nat} (h : Rng P n) (x : Int) : has (rw' P) x = P x := by
 unfold has rw'
 by_cases h0 : 0 <= x
 ·rw [decide_eq_true h0, show ((x.toNat : Nat) : Int) = x from by omega]
  rfl
 ·rw [decide_eq_false h0]
  cases e : P x with
  | false => rfl
  | true => exact absurd (h x e).1 h0
theorem zRo {P : Int -> Bool} {n : Nat} (h : Rng P n) (hn : n <= 4096) : Upto (rw' P) n := ⟨hn, fun i hi => by
 unfold rw'
 cases e : P (i : Int) with
 | false => rfl
 | true => have := (h _ e).2; omega⟩
theorem zS2 {P : Int -> Bool} {n : Nat} (h : Rng P n) (hn : n <= 4096) : (els (rw' P)).map (fun i : Nat => (i : Int)) = lst P n := by
 rw [zHP (zRo h hn)]
 rfl
def jn (B : Nat -> Bool) (F : Int -> Int -> Bool) (X : List Int) : Nat -> Bool := fun i => B i || X.any fun y => F y (i : Int)
theorem zQM (B : Nat -> Bool) (F : Int -> Int -> Bool) : jn B F [] = B := by
 funext i
 simp [jn]
theorem zRQ {B : Nat -> Bool} {F : Int -> Int -> Bool} {n : Nat} (X : List Int) {y : Int} (h : Rng (F y) n) : orr (jn B F X) n (rw' (F y)) = jn B F (X ++ [y]) := by
 funext i
 unfold orr jn rw'
 rw [List.any_append]
 cases e : F y (i : Int) with
 | false => simp [e]
 | true =>
  have := (h _ e).2
  have h2 : i < n := by omega
  simp [e, h2]
theorem zRI {B : Nat -> Bool} {F : Int -> Int -> Bool} (X : List Int) {y : Int} (h : B = rw' (F y)) : jn B F X = jn B F (X ++ [y]) := by
 funext i
 unfold jn
 rw [List.any_append, h]
 unfold rw'
 cases e : F y (i : Int) <;> simp [e]
theorem zRb {B : Nat -> Bool} {F : Int -> Int -> Bool} (X : List Int) {y : Int} (h : ∀ t, F y t = false) : jn B F X = jn B F (X ++ [y]) := by
 funext i
 unfold jn
 rw [List.any_append]
 simp [h]
def Gn (B : Nat -> Bool) (F : Int -> Int -> Bool) (X : List Int) (b : Bool) : Prop := b = true ↔ ∃ i : Nat, (∃ y ∈ X, F y (i : Int) = true) /\ B i = false
theorem zSR (B : Nat -> Bool) (F : Int -> Int -> Bool) : Gn B F [] false := by
 unfold Gn
 constructor
 ·intro h; cases h
 ·rintro ⟨_, ⟨_, h, _⟩, _⟩
  cases h
theorem zRz {B : Nat -> Bool} {F : Int -> Int -> Bool} {n : Nat} {X : List Int} {y : Int} {b : Bool} (h : Rng (F y) n) (hb : Gn B F X b) : Gn B F (X ++ [y]) (b || gains (jn B F X) n (rw' (F y))) := by
 unfold Gn at hb ⊢
 rw [Bool.or_eq_true, hb]
 constructor
 ·rintro (⟨i, ⟨z, hz, h1⟩, h2⟩ | hg)
  ·exact ⟨i, ⟨z, List.mem_append_left _ hz, h1⟩, h2⟩
  ·unfold gains at hg
   rw [List.any_eq_true] at hg
   obtain ⟨i, hi, h1⟩ := hg
   rw [Bool.and_eq_true] at h1
   refine ⟨i, ⟨y, by simp, h1.1⟩, ?_⟩
   have h2 := h1.2
   unfold jn at h2
   cases e : B i with
   | false => rfl
   | true => rw [e] at h2; simp at h2
 ·rintro ⟨i, ⟨z, hz, h1⟩, h2⟩
  rcases List.mem_append.1 hz with hz | hz
  ·exact .inl ⟨i, ⟨z, hz, h1⟩, h2⟩
  ·rw [List.mem_singleton] at hz
   subst hz
   by_cases e : ∃ y ∈ X, F y (i : Int) = true
   ·exact .inl ⟨i, e, h2⟩
   ·refine .inr (Bt.zL6 (i := i) (by have := (h _ h1).2; omega) ?_ h1)
    unfold jn
    rw [h2, Bool.false_or, List.any_eq_false]
    exact fun y hy k => e ⟨y, hy, k⟩
theorem zR9 {B : Nat -> Bool} {F : Int -> Int -> Bool} {X : List Int} {y : Int} {b : Bool} (h : ∀ i : Nat, F y (i : Int) = true -> B i = true) (hb : Gn B F X b) : Gn B F (X ++ [y]) b := by
 unfold Gn at hb ⊢
 rw [hb]
 constructor
 ·rintro ⟨i, ⟨z, hz, h1⟩, h2⟩
  exact ⟨i, ⟨z, List.mem_append_left _ hz, h1⟩, h2⟩
 ·rintro ⟨i, ⟨z, hz, h1⟩, h2⟩
  rcases List.mem_append.1 hz with hz | hz
  ·exact ⟨i, ⟨z, hz, h1⟩, h2⟩
  ·rw [List.mem_singleton] at hz
   subst hz
   rw [h i h1] at h2
   cases h2
