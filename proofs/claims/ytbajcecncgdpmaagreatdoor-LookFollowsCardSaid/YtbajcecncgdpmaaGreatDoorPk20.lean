/- A part of the proof. -/
import Derived.Test.YtbajcecncgdpmaaGreatDoorPk19
import Derived.Test.YtbajcecncgdpmaaGreatDoorPk15
set_option maxHeartbeats 2000000
set_option linter.unusedVariables false
namespace Go.Proofs.YtbajcecncgdpmaaGreatDoor
namespace Fi
open Gr (Gram nonB zAg)
def zIn (G : Gram) (n : Nat) : Prop := ∀ r ∈ G.rules, 0 <= r.1 /\ r.1 < (n : Int)
def zCX (C : Int -> Bool) (F : Int -> Int -> Bool) (m n : Nat) : Nat := zCU C n + zBc F m n
def grows (C : Int -> Bool) (F : Int -> Int -> Bool) (r : Int × List Int) : Prop := (∃ t, zAP C F r.2 t = true /\ F r.1 t = false) \/ (allC C r.2 = true /\ C r.1 = false)
theorem zHl {C : Int -> Bool} {F : Int -> Int -> Bool} {r : Int × List Int} (h : ¬ grows C F r) : Shut C F r := by
 constructor
 ·intro k
  cases e : C r.1 with
  | true => rfl
  | false => exact absurd (.inr ⟨k, e⟩) h
 ·intro t k
  cases e : F r.1 t with
  | true => rfl
  | false => exact absurd (.inl ⟨t, k, e⟩) h
theorem zG2 {C : Int -> Bool} {r : Int × List Int} {x : Int} (h : C x = true) : addC C r x = true := by unfold addC; rw [h]; rfl
theorem zCc {C : Int -> Bool} {F : Int -> Int -> Bool} {r : Int × List Int} {x t : Int} (h : F x t = true) : addF C F r x t = true := by unfold addF; rw [h]; rfl
theorem zHz {C : Int -> Bool} {r : Int × List Int} (h : allC C r.2 = true) : addC C r r.1 = true := by unfold addC; rw [h]; simp
theorem zH0 {C : Int -> Bool} {F : Int -> Int -> Bool} {r : Int × List Int} {t : Int} (h : zAP C F r.2 t = true) : addF C F r r.1 t = true := by unfold addF; rw [h]; simp
theorem zI8 {G : Gram} {C : Int -> Bool} {F : Int -> Int -> Bool} {n : Nat} (hs : Snd G C F) (hl : zIn G n) {r : Int × List Int} (hr : r ∈ G.rules) (h : grows C F r) :
  zCX (addC C r) (addF C F r) (G.terms.length + 1) n < zCX C F (G.terms.length + 1) n := by
 obtain ⟨h0, h1⟩ := hl r hr
 have e : ((r.1.toNat : Nat) : Int) = r.1 := by omega
 have m1 := zDf (P := C) (Q := addC C r) (n := n) fun i _ k => zG2 k
 have m2 := zIO (F := F) (H := addF C F r) (m := G.terms.length + 1) (n := n) fun x t _ _ k => zCc k
 unfold zCX
 rcases h with ⟨t, h2, h3⟩ | ⟨h2, h3⟩
 ·obtain ⟨t0, t1⟩ := zBH (hs.line h2)
  have et : ((t.toNat : Nat) : Int) = t := by omega
  have := zFh (F := F) (H := addF C F r) (m := G.terms.length + 1) (n := n) (k := r.1.toNat) (fun x t _ _ k => zCc k) (by omega)
   (zCy (k := t.toNat) (fun i _ k => zCc k) (by omega) (by rw [e, et]; exact h3) (by rw [e, et]; exact zH0 h2))
  omega
 ·have := zCy (P := C) (Q := addC C r) (n := n) (k := r.1.toNat) (fun i _ k => zG2 k) (by omega) (by rw [e]; exact h3) (by rw [e]; exact zHz h2)
  omega
structure TriedF (G : Gram) (n : Nat) (C0 : Int -> Bool) (F0 : Int -> Int -> Bool) (j : Nat) (C : Int -> Bool) (F : Int -> Int -> Bool) (b : Bool) : Prop where
 snd : Snd G C F
 leaf : Leaf G F
 no : b = false -> (C = C0 /\ F = F0) /\ ∀ i (h : i < G.rules.length), i < j -> Shut C0 F0 G.rules[i]
 yes : b = true -> zCX C F (G.terms.length + 1) n < zCX C0 F0 (G.terms.length + 1) n
theorem zQq {G : Gram} {n : Nat} {C : Int -> Bool} {F : Int -> Int -> Bool} (h : Snd G C F) (hl : Leaf G F) : TriedF G n C F 0 C F false := ⟨h, hl, fun _ => ⟨⟨rfl, rfl⟩, fun i _ hi => absurd hi (by omega)⟩, fun h => by cases h⟩
theorem TriedF.step {G : Gram} {n : Nat} {C0 C : Int -> Bool} {F0 F : Int -> Int -> Bool} {j : Nat} {b c : Bool} (h : TriedF G n C0 F0 j C F b) (hl : zIn G n) (hj : j < G.rules.length) (hc : c = true ↔ grows C F G.rules[j]) :
  TriedF G n C0 F0 (j + 1) (addC C G.rules[j]) (addF C F G.rules[j]) (b || c) := by
 have hm := List.getElem_mem hj
 have hs1 : Snd G C (Fi.addF C F G.rules[j]) := h.snd.addF hm
 have hs : Snd G (addC C G.rules[j]) (Fi.addF C F G.rules[j]) := ⟨(h.snd.addC hm).can, hs1.fst⟩
 have hlf : Leaf G (addF C F G.rules[j]) := fun x hx => zCc (h.leaf x hx)
 cases c with
 | false =>
  have hg : Shut C F G.rules[j] := zHl fun k => by have := hc.2 k; cases this
  rw [zDl hg.can, zF1 hg.fst, Bool.or_false]
  refine ⟨h.snd, h.leaf, fun e => ?_, h.yes⟩
  obtain ⟨⟨e1, e2⟩, e3⟩ := h.no e
  refine ⟨⟨e1, e2⟩, fun i hi hl => ?_⟩
  by_cases he : i = j
  ·subst he
   rw [← e1, ← e2]
   exact hg
  ·exact e3 i hi (by omega)
 | true =>
  have hg := zI8 h.snd hl hm (hc.1 rfl)
  rw [Bool.or_true]
  refine ⟨hs, hlf, (fun e => by cases e), fun _ => ?_⟩
  cases b with
  | false =>
   obtain ⟨⟨e1, e2⟩, _⟩ := h.no rfl
   rw [e1, e2] at hg ⊢
   exact hg
  | true => exact Nat.lt_trans hg (h.yes rfl)
theorem TriedF.all {G : Gram} {n : Nat} {C0 C : Int -> Bool} {F0 F : Int -> Int -> Bool} {j : Nat} (h : TriedF G n C0 F0 j C F false) (hj : ¬ j < G.rules.length) : Just G C F := by
 obtain ⟨⟨e1, e2⟩, e3⟩ := h.no rfl
 refine zLB h.snd h.leaf fun r hr => ?_
 obtain ⟨i, hi, rfl⟩ := List.getElem_of_mem hr
 rw [e1, e2]
 exact e3 i hi (by omega)
def zCJ : Int -> Bool := fun _ => false
def zBC (G : Gram) : Int -> Int -> Bool := fun x t => decide (x = t /\ 0 <= x /\ x <= (G.terms.length : Int))
theorem snd0 (G : Gram) : Snd G zCJ (zBC G) := by
 refine ⟨(fun x h => by cases h), fun x t h => ?_⟩
 unfold zBC at h
 rw [decide_eq_true_iff] at h
 obtain ⟨rfl, h1, h2⟩ := h
 exact .leaf (by rw [zAg]; omega)
theorem zRd (G : Gram) : Leaf G (zBC G) := fun x hx => by
 unfold zBC
 rw [decide_eq_true_iff]
 rw [zAg] at hx
 omega
def behP (C : Int -> Bool) (F B : Int -> Int -> Bool) (r : Int × List Int) (k : Nat) (t : Int) : Bool := zAP C F (r.2.drop (k + 1)) t || (allC C (r.2.drop (k + 1)) && B r.1 t)
def addB (C : Int -> Bool) (F B : Int -> Int -> Bool) (r : Int × List Int) (k : Nat) (x : Int) : Int -> Int -> Bool := fun y t => B y t || (decide (y = x) && behP C F B r k t)
def zPI (G : Gram) (C : Int -> Bool) (F B : Int -> Int -> Bool) (r : Int × List Int) (k : Nat) : Prop := ∀ hk : k < r.2.length, nonB G r.2[k] = true -> ∀ t, behP C F B r k t = true -> B r.2[k] t = true
theorem zMw {G : Gram} {C : Int -> Bool} {F B : Int -> Int -> Bool} {r : Int × List Int} (h : ∀ k, zPI G C F B r k) : zQ1 G C F B r := fun pre x post e hn => by
 have hl : pre.length < r.2.length := by rw [e, List.length_append, List.length_cons]; omega
 have hx : r.2[pre.length] = x := by
  have : r.2[pre.length]? = some x := by rw [e]; simp
  rw [List.getElem?_eq_getElem hl] at this
  injection this
 have hd : r.2.drop (pre.length + 1) = post := by
  rw [e, ← List.drop_drop, List.drop_left]
  rfl
 have hp := h pre.length hl (by rw [hx]; exact hn)
 rw [hx] at hp
 unfold behP at hp
 rw [hd] at hp
 exact ⟨fun t ht => hp t (by rw [ht]; rfl), fun ha t ht => hp t (by rw [ha, ht]; simp)⟩
theorem zKE {G : Gram} {C : Int -> Bool} {F B : Int -> Int -> Bool} (j : Just G C F) (hb : BSnd G B) {r : Int × List Int} (hr : r ∈ G.rules) {k : Nat} (hk : k < r.2.length) (hn : nonB G r.2[k] = true) {t : Int} (h : behP C F B r k t = true) : Fol G r.2[k] t := by
 have e : r.2 = r.2.take k ++ r.2[k] :: r.2.drop (k + 1) := by
  rw [← List.drop_eq_getElem_cons hk, List.take_append_drop]
 unfold behP at h
 rw [Bool.or_eq_true, Bool.and_eq_true] at h
 rcases h with h | ⟨h1, h2⟩
 ·exact .next hr e hn ((j.line _ _).1 h)
 ·exact .last hr e hn ((j.all _).1 h1) (hb.fol _ _ h2)
structure TriedB (G : Gram) (n : Nat) (C : Int -> Bool) (F B0 : Int -> Int -> Bool) (j k : Nat) (B : Int -> Int -> Bool) (b : Bool) : Prop where
 snd : BSnd G B
 start : B G.start 0 = true
 no : b = false -> B = B0 /\ (∀ i (h : i < G.rules.length), i < j -> ∀ l, zPI G C F B0 G.rules[i] l) /\ ∀ h : j < G.rules.length, ∀ l, l < k -> zPI G C F B0 G.rules[j] l
 yes : b = true -> zBc B (G.terms.length + 1) n < zBc B0 (G.terms.length + 1) n
theorem zEN {G : Gram} {n : Nat} {C : Int -> Bool} {F B : Int -> Int -> Bool} (h : BSnd G B) (h0 : B G.start 0 = true) : TriedB G n C F B 0 0 B false :=
 ⟨h, h0, fun _ => ⟨rfl, (fun i _ hi => absurd hi (by omega)), fun _ l hl => absurd hl (by omega)⟩, fun h => by cases h⟩
theorem TriedB.skip {G : Gram} {n : Nat} {C : Int -> Bool} {F B0 B : Int -> Int -> Bool} {j k : Nat} {b : Bool} (h : TriedB G n C F B0 j k B b) (hj : j < G.rules.length) (hs : ∀ hk : k < G.rules[j].2.length, nonB G G.rules[j].2[k] = false) : TriedB G n C F B0 j (k + 1) B b := by
 refine ⟨h.snd, h.start, fun e => ?_, h.yes⟩
 obtain ⟨e1, e2, e3⟩ := h.no e
 refine ⟨e1, e2, fun hj l hl => ?_⟩
 by_cases he : l = k
 ·subst he
  exact fun hk hn => by rw [hs hk] at hn; cases hn
 ·exact e3 hj l (by omega)
theorem TriedB.step {G : Gram} {n : Nat} {C : Int -> Bool} {F B0 B : Int -> Int -> Bool} {j k : Nat} {b c : Bool} (h : TriedB G n C F B0 j k B b) (hJ : Just G C F) (hj : j < G.rules.length) (hk : k < G.rules[j].2.length) (hn : nonB G G.rules[j].2[k] = true)
  (h0 : 0 <= G.rules[j].2[k]) (h1 : G.rules[j].2[k] < (n : Int)) (hc : c = true ↔ ∃ t, behP C F B G.rules[j] k t = true /\ B G.rules[j].2[k] t = false) :
  TriedB G n C F B0 j (k + 1) (addB C F B G.rules[j] k G.rules[j].2[k]) (b || c) := by
 have hm := List.getElem_mem hj
 have hbs : BSnd G (addB C F B G.rules[j] k G.rules[j].2[k]) := h.snd.put fun t ht => zKE hJ h.snd hm hk hn ht
 have le : ∀ {x t : Int}, B x t = true -> addB C F B G.rules[j] k G.rules[j].2[k] x t = true := fun {x t} e => by unfold addB; rw [e]; rfl
 cases c with
 | false =>
  have hsh : ∀ t, behP C F B G.rules[j] k t = true -> B G.rules[j].2[k] t = true := fun t ht => by
   cases e : B G.rules[j].2[k] t with
   | true => rfl
   | false => have := hc.2 ⟨t, ht, e⟩; cases this
  have same : addB C F B G.rules[j] k G.rules[j].2[k] = B := by
   funext x t
   unfold addB
   by_cases e : x = G.rules[j].2[k]
   ·subst e
    cases ha : behP C F B G.rules[j] k t with
    | false => simp
    | true => simp [hsh t ha]
   ·simp [e]
  rw [same, Bool.or_false]
  refine ⟨h.snd, h.start, fun e => ?_, h.yes⟩
  obtain ⟨e1, e2, e3⟩ := h.no e
  refine ⟨e1, e2, fun hj' l hl => ?_⟩
  by_cases he : l = k
  ·subst he
   rw [← e1]
   exact fun _ _ t ht => hsh t ht
  ·exact e3 hj' l (by omega)
 | true =>
  obtain ⟨t, h2, h3⟩ := hc.1 rfl
  obtain ⟨t0, t1⟩ := zDw (zKE hJ h.snd hm hk hn h2)
  have et : ((t.toNat : Nat) : Int) = t := by omega
  have ex : ((G.rules[j].2[k].toNat : Nat) : Int) = G.rules[j].2[k] := by omega
  have hg : zBc (addB C F B G.rules[j] k G.rules[j].2[k]) (G.terms.length + 1) n < zBc B (G.terms.length + 1) n :=
   zFh (k := G.rules[j].2[k].toNat) (fun x t _ _ e => le e) (by omega)
    (zCy (k := t.toNat) (fun i _ e => le e) (by omega) (by rw [ex, et]; exact h3) (by rw [ex, et]; unfold addB; rw [h2]; simp))
  rw [Bool.or_true]
  refine ⟨hbs, le h.start, (fun e => by cases e), fun _ => ?_⟩
  cases b with
  | false =>
   have e1 := (h.no rfl).1
   rw [e1] at hg ⊢
   exact hg
  | true => exact Nat.lt_trans hg (h.yes rfl)
theorem TriedB.next {G : Gram} {n : Nat} {C : Int -> Bool} {F B0 B : Int -> Int -> Bool} {j k : Nat} {b : Bool} (h : TriedB G n C F B0 j k B b) (hj : j < G.rules.length) (hk : ¬ k < G.rules[j].2.length) : TriedB G n C F B0 (j + 1) 0 B b := by
 refine ⟨h.snd, h.start, fun e => ?_, h.yes⟩
 obtain ⟨e1, e2, e3⟩ := h.no e
 refine ⟨e1, fun i hi hl l => ?_, fun _ l hl => absurd hl (by omega)⟩
 by_cases he : i = j
 ·subst he
  by_cases hlk : l < k
  ·exact e3 hi l hlk
  ·exact fun hl2 => absurd hl2 (by omega)
 ·exact e2 i hi (by omega) l
theorem TriedB.all {G : Gram} {n : Nat} {C : Int -> Bool} {F B0 B : Int -> Int -> Bool} {j k : Nat} (h : TriedB G n C F B0 j k B false) (hJ : Just G C F) (hj : ¬ j < G.rules.length) : ∀ x t, B x t = true ↔ Fol G x t := by
 obtain ⟨e1, e2, _⟩ := h.no rfl
 refine zKG hJ h.snd h.start fun r hr => ?_
 obtain ⟨i, hi, rfl⟩ := List.getElem_of_mem hr
 rw [e1]
 exact zMw fun l => e2 i hi (by omega) l
def zBW (G : Gram) : Int -> Int -> Bool := fun x t => decide (x = G.start /\ t = 0)
theorem zPW (G : Gram) : BSnd G (zBW G) /\ zBW G G.start 0 = true := by
 refine ⟨⟨fun x t h => ?_⟩, by simp [zBW]⟩
 unfold zBW at h
 rw [decide_eq_true_iff] at h
 obtain ⟨rfl, rfl⟩ := h
 exact .start
end Fi
namespace Fi
open Gr (Gram)
open Bt (Upto has orr gains els zGP)
structure TriedE (G : Gram) (n : Nat) (C0 : Int -> Bool) (j : Nat) (C : Int -> Bool) (b : Bool) : Prop where
 snd : ∀ x, C x = true -> Can G x
 no : b = false -> C = C0 /\ ∀ i (h : i < G.rules.length), i < j -> allC C0 G.rules[i].2 = true -> C0 G.rules[i].1 = true
 yes : b = true -> zCU C n < zCU C0 n
theorem zHq {G : Gram} {n : Nat} {C : Int -> Bool} (h : ∀ x, C x = true -> Can G x) : TriedE G n C 0 C false := ⟨h, fun _ => ⟨rfl, fun i _ hi => absurd hi (by omega)⟩, fun h => by cases h⟩
theorem TriedE.step {G : Gram} {n : Nat} {C0 C : Int -> Bool} {j : Nat} {b c : Bool} (h : TriedE G n C0 j C b) (hl : zIn G n) (hj : j < G.rules.length) (hc : c = true ↔ allC C G.rules[j].2 = true /\ C G.rules[j].1 = false) :
  TriedE G n C0 (j + 1) (addC C G.rules[j]) (b || c) := by
 have hm := List.getElem_mem hj
 have hs : ∀ x, addC C G.rules[j] x = true -> Can G x := fun x k => by
  unfold addC at k
  rw [Bool.or_eq_true, Bool.and_eq_true, decide_eq_true_iff] at k
  rcases k with k | ⟨e, k⟩
  ·exact h.snd x k
  ·subst e
   exact .mk _ hm fun z hz => h.snd z (zBX.1 k z hz)
 cases c with
 | false =>
  have hg : allC C G.rules[j].2 = true -> C G.rules[j].1 = true := fun k => by
   cases e : C G.rules[j].1 with
   | true => rfl
   | false => have := hc.2 ⟨k, e⟩; cases this
  rw [zDl hg, Bool.or_false]
  refine ⟨h.snd, fun e => ?_, h.yes⟩
  obtain ⟨e1, e3⟩ := h.no e
  refine ⟨e1, fun i hi hl => ?_⟩
  by_cases he : i = j
  ·subst he
   rw [← e1]
   exact hg
  ·exact e3 i hi (by omega)
 | true =>
  obtain ⟨h2, h3⟩ := hc.1 rfl
  obtain ⟨l0, l1⟩ := hl _ hm
  have e : ((G.rules[j].1.toNat : Nat) : Int) = G.rules[j].1 := by omega
  have hg := zCy (P := C) (Q := addC C G.rules[j]) (n := n) (k := G.rules[j].1.toNat) (fun i _ k => zG2 k) (by omega) (by rw [e]; exact h3) (by rw [e]; exact zHz h2)
  rw [Bool.or_true]
  refine ⟨hs, (fun e => by cases e), fun _ => ?_⟩
  cases b with
  | false =>
   have e1 := (h.no rfl).1
   rw [e1] at hg ⊢
   exact hg
  | true => exact Nat.lt_trans hg (h.yes rfl)
theorem TriedE.all {G : Gram} {n : Nat} {C0 C : Int -> Bool} {j : Nat} (h : TriedE G n C0 j C false) (hj : ¬ j < G.rules.length) : C = canB G := by
 obtain ⟨e1, e3⟩ := h.no rfl
 have hc : ∀ x, Can G x -> C x = true := fun x k => by
  induction k with
  | mk r hr _ ih =>
   obtain ⟨i, hi, rfl⟩ := List.getElem_of_mem hr
   rw [e1] at ih ⊢
   exact e3 i hi (by omega) (zBX.2 fun z hz => ih z hz)
 funext x
 rw [Bool.eq_iff_iff, zAn]
 exact ⟨h.snd x, hc x⟩
structure TriedG (G : Gram) (n : Nat) (F0 : Int -> Int -> Bool) (j : Nat) (F : Int -> Int -> Bool) (b : Bool) : Prop where
 snd : Snd G (canB G) F
 leaf : Leaf G F
 no : b = false -> F = F0 /\ ∀ i (h : i < G.rules.length), i < j -> ∀ t, zAP (canB G) F0 G.rules[i].2 t = true -> F0 G.rules[i].1 t = true
 yes : b = true -> zBc F (G.terms.length + 1) n < zBc F0 (G.terms.length + 1) n
theorem zHr {G : Gram} {n : Nat} {F : Int -> Int -> Bool} (h : Snd G (canB G) F) (hl : Leaf G F) : TriedG G n F 0 F false := ⟨h, hl, fun _ => ⟨rfl, fun i _ hi => absurd hi (by omega)⟩, fun h => by cases h⟩
theorem TriedG.step {G : Gram} {n : Nat} {F0 F : Int -> Int -> Bool} {j : Nat} {b c : Bool} (h : TriedG G n F0 j F b) (hl : zIn G n) (hj : j < G.rules.length) (hc : c = true ↔ ∃ t, zAP (canB G) F G.rules[j].2 t = true /\ F G.rules[j].1 t = false) :
  TriedG G n F0 (j + 1) (addF (canB G) F G.rules[j]) (b || c) := by
 have hm := List.getElem_mem hj
 have hs := h.snd.addF hm
 have hlf : Leaf G (addF (canB G) F G.rules[j]) := fun x hx => zCc (h.leaf x hx)
 cases c with
 | false =>
  have hg : ∀ t, zAP (canB G) F G.rules[j].2 t = true -> F G.rules[j].1 t = true := fun t k => by
   cases e : F G.rules[j].1 t with
   | true => rfl
   | false => have := hc.2 ⟨t, k, e⟩; cases this
  rw [zF1 hg, Bool.or_false]
  refine ⟨h.snd, h.leaf, fun e => ?_, h.yes⟩
  obtain ⟨e1, e3⟩ := h.no e
  refine ⟨e1, fun i hi hl => ?_⟩
  by_cases he : i = j
  ·subst he
   rw [← e1]
   exact hg
  ·exact e3 i hi (by omega)
 | true =>
  obtain ⟨t, h2, h3⟩ := hc.1 rfl
  obtain ⟨t0, t1⟩ := zBH (h.snd.line h2)
  obtain ⟨l0, l1⟩ := hl _ hm
  have et : ((t.toNat : Nat) : Int) = t := by omega
  have e : ((G.rules[j].1.toNat : Nat) : Int) = G.rules[j].1 := by omega
  have hg := zFh (F := F) (H := addF (canB G) F G.rules[j]) (m := G.terms.length + 1) (n := n) (k := G.rules[j].1.toNat) (fun x t _ _ k => zCc k) (by omega)
   (zCy (k := t.toNat) (fun i _ k => zCc k) (by omega) (by rw [e, et]; exact h3) (by rw [e, et]; exact zH0 h2))
  rw [Bool.or_true]
  refine ⟨hs, hlf, (fun e => by cases e), fun _ => ?_⟩
  cases b with
  | false =>
   have e1 := (h.no rfl).1
   rw [e1] at hg ⊢
   exact hg
  | true => exact Nat.lt_trans hg (h.yes rfl)
theorem TriedG.all {G : Gram} {n : Nat} {F0 F : Int -> Int -> Bool} {j : Nat} (h : TriedG G n F0 j F false) (hj : ¬ j < G.rules.length) : F = fstB G := by
 obtain ⟨e1, e3⟩ := h.no rfl
 have hJ : Just G (canB G) F := zLB h.snd h.leaf fun r hr => by
  obtain ⟨i, hi, rfl⟩ := List.getElem_of_mem hr
  refine ⟨fun k => zAn.2 (.mk _ hr fun z hz => zAn.1 (zBX.1 k z hz)), ?_⟩
  rw [e1]
  exact e3 i hi (by omega)
 exact hJ.eq.2
theorem zO4 {G : Gram} {B : Int -> Int -> Bool} (h : ∀ x t, B x t = true ↔ Fol G x t) : B = folB G := by
 funext x t
 rw [Bool.eq_iff_iff, h, zCt]
theorem zMS (G : Gram) : ∀ x, zCJ x = true -> Can G x := fun x h => by cases h
theorem zSq (G : Gram) : Snd G (canB G) (zBC G) := ⟨fun x h => zAn.1 h, (snd0 G).fst⟩
def zA9 (C : Int -> Bool) : List Int -> Nat
 | [] => 0
 | y :: l => if C y = true then zA9 C l + 1 else 1
theorem zNM (C : Int -> Bool) (l : List Int) : zA9 C l <= l.length := by
 induction l with
 | nil => exact Nat.le_refl _
 | cons y l ih =>
  unfold zA9
  rw [List.length_cons]
  split <;> omega
theorem zD0 {C : Int -> Bool} : ∀ {l : List Int} {i : Nat} (h : i < l.length), (∀ k (hk : k < l.length), k < i -> C l[k] = true) -> C l[i] = false -> zA9 C l = i + 1 /\ allC C l = false
 | [], i, h, _, _ => absurd h (by simp)
 | y :: l, 0, _, _, hc => by
  have hy : C y = false := hc
  unfold zA9
  rw [hy]
  exact ⟨rfl, by unfold allC; rw [List.all_cons, hy]; rfl⟩
 | y :: l, i + 1, h, hb, hc => by
  have hy : C y = true := hb 0 (by simp) (by omega)
  obtain ⟨e1, e2⟩ := zD0 (C := C) (l := l) (i := i) (by simpa using h) (fun k hk hki => hb (k + 1) (by simpa using hk) (by omega)) hc
  unfold zA9
  rw [hy, e1]
  refine ⟨rfl, ?_⟩
  unfold allC at e2 ⊢
  rw [List.all_cons, hy, e2]
  rfl
theorem zDz {C : Int -> Bool} : ∀ {l : List Int}, (∀ k (hk : k < l.length), C l[k] = true) -> zA9 C l = l.length /\ allC C l = true
 | [], _ => ⟨rfl, rfl⟩
 | y :: l, hb => by
  have hy : C y = true := hb 0 (by simp)
  obtain ⟨e1, e2⟩ := zDz (C := C) (l := l) (fun k hk => hb (k + 1) (by simpa using hk))
  unfold zA9
  rw [hy, e1]
  refine ⟨rfl, ?_⟩
  unfold allC at e2 ⊢
  rw [List.all_cons, hy, e2]
  rfl
theorem zBP (C : Int -> Bool) (F : Int -> Int -> Bool) (t : Int) : ∀ l : List Int, ((l.take (zA9 C l)).any fun y => F y t) = zAP C F l t
 | [] => rfl
 | y :: l => by
  have ih := zBP C F t l
  unfold zA9 zAP
  cases hy : C y with
  | true => simp only [if_pos, List.take_succ_cons, List.any_cons, ih, Bool.true_and]
  | false => simp
def rw' (P : Int -> Bool) : Nat -> Bool := fun i => P (i : Int)
def Rng (P : Int -> Bool) (n : Nat) : Prop := ∀ x, P x = true -> 0 <= x /\ x < (n : Int)
theorem zRU {P : Int -> Bool} {n : Nat} (h : Rng P n) (x : Int) : has (rw' P) x = P x := by
 unfold has rw'
 by_cases h0 : 0 <= x
 ·rw [decide_eq_true h0, show ((x.toNat : Nat) : Int) = x from by omega]
  rfl
 ·rw [decide_eq_false h0]
  cases e : P x with
  | false => rfl
  | true => exact absurd (h x e).1 h0
theorem zQv {P : Int -> Bool} {n : Nat} (h : Rng P n) (hn : n <= 4096) : Upto (rw' P) n := ⟨hn, fun i hi => by
 unfold rw'
 cases e : P (i : Int) with
 | false => rfl
 | true => have := (h _ e).2; omega⟩
theorem zRI {P : Int -> Bool} {n : Nat} (h : Rng P n) (hn : n <= 4096) : (els (rw' P)).map (fun i : Nat => (i : Int)) = lst P n := by
 rw [zGP (zQv h hn)]
 rfl
def jn (B : Nat -> Bool) (F : Int -> Int -> Bool) (X : List Int) : Nat -> Bool := fun i => B i || X.any fun y => F y (i : Int)
theorem zO7 (B : Nat -> Bool) (F : Int -> Int -> Bool) : jn B F [] = B := by
 funext i
 simp [jn]
theorem zP7 {B : Nat -> Bool} {F : Int -> Int -> Bool} {n : Nat} (X : List Int) {y : Int} (h : Rng (F y) n) : orr (jn B F X) n (rw' (F y)) = jn B F (X ++ [y]) := by
 funext i
 unfold orr jn rw'
 rw [List.any_append]
 cases e : F y (i : Int) with
 | false => simp [e]
 | true =>
  have := (h _ e).2
  have h2 : i < n := by omega
  simp [e, h2]
theorem zP6 {B : Nat -> Bool} {F : Int -> Int -> Bool} (X : List Int) {y : Int} (h : B = rw' (F y)) : jn B F X = jn B F (X ++ [y]) := by
 funext i
 unfold jn
 rw [List.any_append, h]
 unfold rw'
 cases e : F y (i : Int) <;> simp [e]
theorem zP5 {B : Nat -> Bool} {F : Int -> Int -> Bool} (X : List Int) {y : Int} (h : ∀ t, F y t = false) : jn B F X = jn B F (X ++ [y]) := by
 funext i
 unfold jn
 rw [List.any_append]
 simp [h]
def Gn (B : Nat -> Bool) (F : Int -> Int -> Bool) (X : List Int) (b : Bool) : Prop := b = true ↔ ∃ i : Nat, (∃ y ∈ X, F y (i : Int) = true) /\ B i = false
theorem zRR (B : Nat -> Bool) (F : Int -> Int -> Bool) : Gn B F [] false := by
 unfold Gn
 constructor
 ·intro h; cases h
 ·rintro ⟨_, ⟨_, h, _⟩, _⟩
  cases h
theorem zPv {B : Nat -> Bool} {F : Int -> Int -> Bool} {n : Nat} {X : List Int} {y : Int} {b : Bool} (h : Rng (F y) n) (hb : Gn B F X b) : Gn B F (X ++ [y]) (b || gains (jn B F X) n (rw' (F y))) := by
 unfold Gn at hb ⊢
 rw [Bool.or_eq_true, hb]
 constructor
 ·rintro (⟨i, ⟨z, hz, h1⟩, h2⟩ | hg)
  ·exact ⟨i, ⟨z, List.mem_append_left _ hz, h1⟩, h2⟩
  ·unfold gains at hg
   rw [List.any_eq_true] at hg
   obtain ⟨i, hi, h1⟩ := hg
   rw [Bool.and_eq_true] at h1
   refine ⟨i, ⟨y, by simp, h1.1⟩, ?_⟩
   have h2 := h1.2
   unfold jn at h2
   cases e : B i with
   | false => rfl
   | true => rw [e] at h2; simp at h2
 ·rintro ⟨i, ⟨z, hz, h1⟩, h2⟩
  rcases List.mem_append.1 hz with hz | hz
  ·exact .inl ⟨i, ⟨z, hz, h1⟩, h2⟩
  ·rw [List.mem_singleton] at hz
   subst hz
   by_cases e : ∃ y ∈ X, F y (i : Int) = true
   ·exact .inl ⟨i, e, h2⟩
   ·refine .inr (Bt.zKj (i := i) (by have := (h _ h1).2; omega) ?_ h1)
    unfold jn
    rw [h2, Bool.false_or, List.any_eq_false]
    exact fun y hy k => e ⟨y, hy, k⟩
theorem zPu {B : Nat -> Bool} {F : Int -> Int -> Bool} {X : List Int} {y : Int} {b : Bool} (h : ∀ i : Nat, F y (i : Int) = true -> B i = true) (hb : Gn B F X b) : Gn B F (X ++ [y]) b := by
 unfold Gn at hb ⊢
 rw [hb]
 constructor
 ·rintro ⟨i, ⟨z, hz, h1⟩, h2⟩
  exact ⟨i, ⟨z, List.mem_append_left _ hz, h1⟩, h2⟩
 ·rintro ⟨i, ⟨z, hz, h1⟩, h2⟩
  rcases List.mem_append.1 hz with hz | hz
  ·exact ⟨i, ⟨z, hz, h1⟩, h2⟩
  ·rw [List.mem_singleton] at hz
   subst hz
   rw [h i h1] at h2
   cases h2
end Fi
namespace Bt
open Go.RowKit
def orK (B : Nat -> Bool) (n : Nat) (C : Nat -> Bool) (k : Nat) : Nat -> Bool := fun j => B j || (C j && decide (j < n) && decide (j < 64 * k))
def gk (B : Nat -> Bool) (n : Nat) (C : Nat -> Bool) (k : Nat) : Bool := (List.range n).any fun i => decide (i < 64 * k) && (C i && !B i)
def more (B : Nat -> Bool) (n : Nat) (C : Nat -> Bool) : Nat -> Bool := fun i => (C i && under n i) && !B i
theorem zOC (B C : Nat -> Bool) (n : Nat) : orK B n C 0 = B := by funext j; simp [orK]
theorem zHH (B C : Nat -> Bool) (n : Nat) : gk B n C 0 = false := by simp [gk]
theorem zOB (B C : Nat -> Bool) (n k : Nat) : wd (orK B n C k) k = wd B k :=
 zDA fun j _ => by
  have : ¬ 64 * k + j < 64 * k := by omega
  simp only [orK, this, decide_false, Bool.and_false, Bool.or_false]
theorem zLq (B C : Nat -> Bool) (n k i : Nat) (h : i ≠ k) : wd (orK B n C (k + 1)) i = wd (orK B n C k) i :=
 zDA fun j _ => by
  have : decide (64 * i + j < 64 * (k + 1)) = decide (64 * i + j < 64 * k) := by simp; omega
  simp only [orK, this]
theorem zN9 (B C : Nat -> Bool) (n k : Nat) : wd B k ||| wd (more B n C) k = wd (orK B n C (k + 1)) k := by
 rw [zR3]
 refine zDA fun j hj => ?_
 have : 64 * k + j < 64 * (k + 1) := by omega
 simp only [orK, more, under, this, decide_true, Bool.and_true]
 cases B (64 * k + j) <;> simp
theorem zN8 {B C : Nat -> Bool} {n k : Nat} (h : wd (more B n C) k = 0) : orK B n C (k + 1) = orK B n C k := by
 funext i
 by_cases hi : 64 * k <= i /\ i < 64 * (k + 1)
 ·have hz := zCK.1 h (i - 64 * k) (by omega)
  rw [show 64 * k + (i - 64 * k) = i from by omega] at hz
  simp only [more, under] at hz
  simp only [orK]
  revert hz
  cases B i <;> cases C i <;> by_cases hn : i < n <;> simp [hn]
 ·have : decide (i < 64 * (k + 1)) = decide (i < 64 * k) := by simp; omega
  simp only [orK, this]
theorem zFT {B C : Nat -> Bool} {n k : Nat} (h : wd (more B n C) k = 0) : gk B n C (k + 1) = gk B n C k := by
 unfold gk
 rw [Bool.eq_iff_iff, List.any_eq_true, List.any_eq_true]
 constructor
 ·rintro ⟨i, hi, hb⟩
  refine ⟨i, hi, ?_⟩
  simp only [Bool.and_eq_true, decide_eq_true_eq] at hb ⊢
  refine ⟨?_, hb.2⟩
  refine Classical.byContradiction fun hn => ?_
  have hz := zCK.1 h (i - 64 * k) (by omega)
  rw [show 64 * k + (i - 64 * k) = i from by omega] at hz
  have := List.mem_range.1 hi
  simp [more, under, hb.2.1, this] at hz
  simp [hz] at hb
 ·rintro ⟨i, hi, hb⟩
  refine ⟨i, hi, ?_⟩
  simp only [Bool.and_eq_true, decide_eq_true_eq] at hb ⊢
  exact ⟨by omega, hb.2⟩
theorem zPt {B C : Nat -> Bool} {n k : Nat} (h : wd (more B n C) k ≠ 0) : gk B n C (k + 1) = true := by
 obtain ⟨j, hj, hb⟩ := zR2 h
 simp only [more, under, Bool.and_eq_true, decide_eq_true_eq] at hb
 unfold gk
 rw [List.any_eq_true]
 refine ⟨64 * k + j, List.mem_range.2 hb.1.2, ?_⟩
 simp only [Bool.and_eq_true, decide_eq_true_eq]
 exact ⟨by omega, hb.1.1, hb.2⟩
theorem zQP (B C : Nat -> Bool) (n : Nat) : orK B n C (sz n) = orr B n C := by
 funext i
 simp only [orK, orr]
 by_cases hi : i < n
 ·have : i < 64 * sz n := by unfold sz; omega
  simp [hi, this]
 ·simp [hi]
theorem zRP (B C : Nat -> Bool) (n : Nat) : gk B n C (sz n) = gains B n C := by
 unfold gk gains
 rw [Bool.eq_iff_iff, List.any_eq_true, List.any_eq_true]
 constructor
 ·rintro ⟨i, hi, hb⟩
  simp only [Bool.and_eq_true, decide_eq_true_eq] at hb
  exact ⟨i, hi, by simpa using hb.2⟩
 ·rintro ⟨i, hi, hb⟩
  have := List.mem_range.1 hi
  refine ⟨i, hi, ?_⟩
  simp only [Bool.and_eq_true, decide_eq_true_eq] at hb ⊢
  exact ⟨by unfold sz; omega, hb⟩
theorem zOA {B : Nat -> Bool} {n : Nat} (h : Upto B n) (C : Nat -> Bool) (k : Nat) : Upto (orK B n C k) n :=
 ⟨h.1, fun j hj => by
  have : ¬ j < n := by omega
  simp [orK, h.2 j hj, this]⟩
inductive OtherV (d : Nat) : Value -> Nat -> (Nat -> Bool) -> World -> Prop
 | nil (w : World) : OtherV d (.pointer none) 0 (fun _ => false) w
 | at_ {p2 d2 m : Nat} {C : Nat -> Bool} {w : World} (h : SetAt p2 d2 m C w) (hp : p2 ≠ d) (hd : d2 ≠ d) : OtherV d (.pointer (some ⟨p2, 0, none⟩)) m C w
theorem OtherV.set {d : Nat} {u : Value} {m : Nat} {C : Nat -> Bool} {w : World} (h : OtherV d u m C w) : SetV u m C w := by
 cases h with
 | nil => exact .nil _
 | at_ h _ _ => exact .at_ h
theorem OtherV.keeps {d : Nat} {u : Value} {m : Nat} {C : Nat -> Bool} {w w' : World} (h : OtherV d u m C w) (k : Keeps d w w') : OtherV d u m C w' := by
 cases h with
 | nil => exact .nil _
 | at_ h hp hd => exact .at_ (h.keeps k hp hd) hp hd
theorem zF4 (n k : Nat) (h : 64 * k < n) : ∃ X : Nat, Op.shift BinOp.shl IntKind.u64 1 IntKind.u64 ((n : Int) - (k : Int) * 64) = pure (.int .u64 (X : Int)) /\ IntKind.u64.wrap ((X : Int) - 1) = (wd (under n) k : Int) := by
 refine ⟨2 ^ (n - 64 * k) % 18446744073709551616, ?_, ?_⟩
 ·rw [shift_shl_any _ _ _ _ (by omega), show ((n : Int) - (k : Int) * 64).toNat = n - 64 * k from by omega]
  congr 2
  rw [IntKind.wrap_u64, Int.one_mul]
  by_cases hb : n - 64 * k <= 64
  ·rw [show min (n - 64 * k) IntKind.u64.bits = n - 64 * k from by simp [IntKind.bits]; omega]
   have e : ((2 : Int) ^ (n - 64 * k)) = ((2 ^ (n - 64 * k) : Nat) : Int) := by simp
   rw [e]; rfl
  ·rw [show min (n - 64 * k) IntKind.u64.bits = 64 from by simp [IntKind.bits]; omega]
   have hd : 2 ^ (n - 64 * k) % 2 ^ 64 = 0 := Nat.mod_eq_zero_of_dvd (Nat.pow_dvd_pow 2 (by omega))
   have hd2 : 2 ^ (n - 64 * k) % 18446744073709551616 = 0 := hd
   rw [hd2]; rfl
 ·rw [← zJo n k h]
  generalize 2 ^ (n - 64 * k) = p
  rw [IntKind.wrap_u64]
  omega
theorem zDm {p d n : Nat} {B : Nat -> Bool} (w : World) (h : SetAt p d n B w) (k : Nat) (hk : k < sz n) :
  Calls Tryz.prog 123 #[.pointer (some ⟨p, 0, none⟩), .int .i64 k] w fun e w' => e = .returned (.int .u64 (wd (under n) k)) /\ w = w' := by
 have h0 := h.room
 have hn := h.upto.1
 have hlt : 64 * k < n := by unfold sz at hk; omega
 have hs : sz n <= 64 := zFt h.upto.1
 clear h
 obtain ⟨X, e1, e2⟩ := zF4 n k hlt
 go_enter Tryz.func123, Tryz.ntmps123
 go_wp2
 go_ret
 exact ⟨rfl, rfl⟩
theorem zPD {u : Value} (w : World) :
  Calls Tryz.prog 92 #[.pointer none, u] w fun e w' => e = .returned (.bool false) /\ w = w' := by
 have hS := zCQ w (.nil w)
 rw [show sz 0 = 0 from rfl] at hS
 have HS := zSt hS
 clear hS
 go_enter Tryz.func92, Tryz.ntmps92
 go_wp2_with (go_at_call 121; refine HS.out.mono ?_; rintro e w' ⟨rfl, rfl⟩)
 go_loop [5, 10] (fun c i => c = .bool false /\ i = .int .i64 0) (fun _ _ => 0)
 case atStart => exact ⟨rfl, rfl⟩
 case round =>
  obtain ⟨rfl, rfl⟩ := hrel
  go_wp2
  go_ret
  exact ⟨rfl, rfl⟩
def zQ4 (p d n : Nat) (B : Nat -> Bool) (u : Value) (m : Nat) (C : Nat -> Bool) (w : World) (k : Nat) (wr : World) : Prop :=
 SetAt p d n (orK B n C k) wr /\ OtherV d u m C wr /\ Keeps d w wr
theorem zGA (B C : Nat -> Bool) (n k : Nat) : bits BinOp.andNot IntKind.u64 (bits BinOp.and IntKind.u64 (wd C k : Int) (wd (under n) k : Int)) (wd B k : Int) = (wd (more B n C) k : Int) := by
 have h1 := zB0 B k
 rw [bits_and_u64_nat _ _ (zB0 _ _) (zB0 _ _)]
 have h2 : wd C k &&& wd (under n) k < 18446744073709551616 := Nat.lt_of_le_of_lt Nat.and_le_left (zB0 C k)
 rw [u64_andNot _ _ (by omega) (by omega) (by omega) (by omega), Int.toNat_natCast, Int.toNat_natCast]
 exact congrArg _ (zLY B C n k)
theorem bits_join (B C : Nat -> Bool) (n k : Nat) : bits BinOp.or IntKind.u64 (wd B k : Int) (wd (more B n C) k : Int) = (wd (orK B n C (k + 1)) k : Int) := by
 rw [bits_or_u64_nat _ _ (zB0 _ _) (zB0 _ _), zN9]
theorem zGn {p d n m : Nat} {B C : Nat -> Bool} {u : Value} (w : World) (h : SetAt p d n B w) (g : OtherV d u m C w) :
  Calls Tryz.prog 92 #[.pointer (some ⟨p, 0, none⟩), u] w (Wrote (gains B n C) p d n (orr B n C) w) := by
 have HS := zSt (zCQ w (.at_ h))
 have hs : sz n <= 64 := zFt h.upto.1
 have HU0 := zSt h.upto
 have H0 : Hid (zQ4 p d n B u m C w 0 w) := ⟨by rw [zOC]; exact h, g, .refl _ _⟩
 clear h g
 go_enter Tryz.func92, Tryz.ntmps92
 go_wp2_with (go_at_call 121; refine HS.out.mono ?_; rintro e w' ⟨rfl, rfl⟩)
 go_loopw [5, 10] (fun c i wr => ∃ k : Nat, k <= sz n /\ i = .int .i64 k /\ c = .bool (gk B n C k) /\ zQ4 p d n B u m C w k wr) (fun _ i _ => sz n - (intOf i).toNat)
 case atStart => exact ⟨0, Nat.zero_le _, rfl, by rw [zHH], H0.out⟩
 case round =>
  obtain ⟨k, hk, rfl, rfl, hi⟩ := hrel
  have HI := zSt hi
  clear hi
  by_cases hlt : k < sz n
  ·have HW := zSt (fun q => flip (zDj (wr.drewN q) (HI.out.2.1.set.drew q) k))
   have HA := zSt (fun q => flip (zDm (wr.drewN q) (HI.out.1.drewN q) k hlt))
   have c0 := HI.out.1.words
   have c1 := HI.out.1.holds k hlt
   have c2 := HI.out.1.free k hlt
   rw [zOB] at c1
   have hE := zGA B C n k
   by_cases hz : wd (more B n C) k = 0
   ·have H2 := zSt (zN8 hz)
    have H3 := zSt (zFT hz)
    rw [hz] at hE
    clear hz
    go_wp2_with fail
    go_quiet (first | (go_at_call 122; exact Calls.quiet_of_same (HW.out _)) | (go_at_call 123; exact Calls.quiet_of_same (HA.out _)))
    go_wp2
    go_roundw
    case rel => exact ⟨k + 1, by omega, by go_num, by rw [H3.out], ⟨by rw [H2.out]; exact HI.out.1.drewN _, HI.out.2.1.keeps ((Keeps.refl _ _).drewN _), HI.out.2.2.drewN _⟩⟩
    case measure => simp [intOf]; omega
   ·have H3 := zSt (zPt hz)
    have hne : ((wd (more B n C) k : Int) != 0) = true := by rw [bne_iff_ne]; omega
    have hJ := bits_join B C n k
    clear hz
    generalize wd (more B n C) k = z at *
    go_wp2_with fail
    go_quiet (first | (go_at_call 122; exact Calls.quiet_of_same (HW.out _)) | (go_at_call 123; exact Calls.quiet_of_same (HA.out _)))
    have HS2 := zSt ((HI.out.1.drewN nq).store hlt (B' := orK B n C (k + 1)) (zOA HU0.out C (k + 1)) (fun i hi => zLq B C n k i hi))
    have HK2 := zSt ((Keeps.refl d wr).drewN nq |>.setCell k (.int .u64 (wd (orK B n C (k + 1)) k)))
    go_wp2
    go_roundw
    case rel => exact ⟨k + 1, by omega, by go_num, by rw [H3.out], ⟨HS2.out, HI.out.2.1.keeps HK2.out, HI.out.2.2.trans HK2.out⟩⟩
    case measure => simp [intOf]; omega
  ·have he : k = sz n := by omega
   subst he
   have H2 := zSt (zQP B C n)
   have H3 := zSt (zRP B C n)
   go_wp2
   go_ret
   exact ⟨by rw [← H3.out]; rfl, by rw [← H2.out]; exact HI.out.1, HI.out.2.2⟩
end Bt
namespace Lk
open Go.RowKit Go.Maps
open Gr (Gram zAB checkN top ivs)
open Im
open Au
open Fi (zAP allC canB fstB)
open Bt (SetAt)
open Rw (Bk)
structure Fk where
 aS : Option Addr
 cS : Nat
 bR : Nat
 cR : Nat
 bB : Nat
 cB : Nat
 bT : Nat
 cT : Nat
 tP : Nat -> Nat -> Nat
 tD : Nat -> Nat -> Nat
 p : Nat
 mb : Nat
noncomputable def zMU (G : Gram) (k d : Nat) : Nat -> Bool := fun u => decide (u < G.terms.length + 1) && zAP (canB G) (fstB G) ((zAB G (k : Int)).2.drop (d + 1)) (u : Int)
noncomputable def zQl (G : Gram) (k d : Nat) : Bool := allC (canB G) ((zAB G (k : Int)).2.drop (d + 1))
def nivs (l : List Nat) : List Value := l.map fun (k : Nat) => .int .i64 (k : Int)
theorem zDh (l : List Nat) : (nivs l).length = l.length := by simp [nivs]
structure FixAt (K : Fk) (G : Gram) (q : Whole) (w : World) : Prop where
 sts : StaA K.aS (states q) w
 rules : ∀ k : Nat, k <= G.rules.length -> ∃ a c, w.cell? ⟨K.bR, k * 2, none⟩ = some (.int .i64 (zAB G (k : Int)).1) /\ w.cell? ⟨K.bR, k * 2 + 1, none⟩ = some (.slice a (zAB G (k : Int)).2.length c) /\ Sep.Reads a (ivs (zAB G (k : Int)).2) w
 lefts : ∀ s : Nat, s <= top G -> ∃ a c, w.cell? ⟨K.bB, s, none⟩ = some (.slice a (byL G (s : Int)).length c) /\ Sep.Reads a (nivs (byL G (s : Int))) w
 tails : ∀ k : Nat, k <= G.rules.length -> ∃ a c, w.cell? ⟨K.bT, k, none⟩ = some (.slice a (zAB G (k : Int)).2.length c) /\ ∀ d, d < (zAB G (k : Int)).2.length -> ∃ b, a = some ⟨b, 0, none⟩ /\ w.cell? ⟨b, d * 2, none⟩ = some (.pointer (some ⟨K.tP k d, 0, none⟩)) /\ w.cell? ⟨b, d * 2 + 1, none⟩ = some (.bool (zQl G k d)) /\ SetAt (K.tP k d) (K.tD k d) (G.terms.length + 1) (zMU G k d) w
def PM (K : Fk) : Nat -> Prop := fun b => b = K.p \/ b = K.mb
structure Fix (W : World) (K : Fk) (G : Gram) (q : Whole) : Prop where
 ok : checkN G = 0
 done : Done G q
 small : Small (states q)
 len : q.1.length <= 2000
 at_ : ∀ w, Sep.Fr (PM K) W w -> FixAt K G q w
 plt : K.p < W.heap.size
 mlt : K.mb < W.heap.size
 pm : K.p ≠ K.mb
inductive Lb : Type
 | no : Lb
 | box : Lb
 | map : Lb
 | row : Lb
 | sP : Nat -> Lb
 | sE : Nat -> Lb
 | way : Nat -> Lb
 | que : Lb
def yc (y : Way) : List Value := [y.v, .bool y.e, .int .i64 (y.to : Int)]
theorem zES (y : Way) : (yc y).length = 3 := rfl
def cc (N : Nt) (k : Nat) : List Value := [.pointer (some ⟨N.D k, 0, none⟩), N.wv k, .bool (N.Wt k)]
theorem zCp (N : Nt) (k : Nat) : (cc N k).length = 3 := rfl
def cells (N : Nt) : List Value := (List.range N.pls.length).flatMap (cc N)
def YOk (K : Fk) (G : Gram) (y : Way) : Prop := (y.v = .pointer none /\ y.f = fun _ => false) \/ ∃ k d : Nat, k <= G.rules.length /\ d < (zAB G (k : Int)).2.length /\ y.v = .pointer (some ⟨K.tP k d, 0, none⟩) /\ y.f = zMU G k d
def nb (K : Fk) (G : Gram) (n : Nat) (cv qv : Value) : Array Value := #[.slice K.aS n K.cS, .int .i64 (G.terms.length : Int), .slice (some ⟨K.bR, 0, none⟩) (G.rules.length + 1) K.cR, .slice (some ⟨K.bB, 0, none⟩) (top G + 1) K.cB, .slice (some ⟨K.bT, 0, none⟩) (G.rules.length + 1) K.cT, cv, .map (some K.mb), qv]
abbrev NMap (b n : Nat) (X : Pl -> Option Int) (w : World) : Prop := PMap Tryz.prog 124 3 b n X w
structure NP (W : World) (K : Fk) (G : Gram) (q : Whole) (N : Nt) (lab : Nat -> Lb) (cv qv : Value) (w : World) : Prop where
 fr : Sep.Fr (PM K) W w
 box : Bk K.p (nb K G (states q).length cv qv) 73 w
 row : w.ownsRow W.heap.size 122 3 cv N.pls.length (cells N)
 ways : ∀ k, k < N.pls.length -> w.ownsRow W.heap.size 117 3 (N.wv k) (N.Ys k).length ((N.Ys k).flatMap yc)
 yok : ∀ k, k < N.pls.length -> ∀ y ∈ N.Ys k, YOk K G y
 sets : ∀ k, k < N.pls.length -> SetAt (N.D k) (N.E k) (G.terms.length + 1) (N.S k) w
 map : NMap K.mb N.pls.length (numX N.pls) w
 queue : w.ownsRow W.heap.size 3 1 qv N.qs.length (nivs N.qs)
 lp : lab K.p = .box
 lm : lab K.mb = .map
 lr : ∀ g, cv.ownBlock = some g -> lab g = .row
 lw : ∀ k, k < N.pls.length -> ∀ g, (N.wv k).ownBlock = some g -> lab g = .way k
 lP : ∀ k, k < N.pls.length -> lab (N.D k) = .sP k
 lE : ∀ k, k < N.pls.length -> lab (N.E k) = .sE k
 lq : ∀ g, qv.ownBlock = some g -> lab g = .que
 low : ∀ b, lab b ≠ .no -> b = K.p \/ b = K.mb \/ W.heap.size <= b
 inn : ∀ b, lab b ≠ .no -> b < w.heap.size
section
variable {W : World} {K : Fk} {G : Gram} {q : Whole} {N : Nt} {lab : Nat -> Lb} {cv qv : Value} {w w' : World} {ch : Lb -> Prop}
abbrev Ch (ch : Lb -> Prop) (lab : Nat -> Lb) (w w' : World) : Prop := Sep.Fr (fun b => ch (lab b)) w w'
theorem NP.lab_lt (h : NP W K G q N lab cv qv w) {b : Nat} {L : Lb} (e : lab b = L) (hn : L ≠ .no) : b < w.heap.size := h.inn b (e ▸ hn)
theorem NP.keep (h : NP W K G q N lab cv qv w) (f : Ch ch lab w w') {b : Nat} {L : Lb} (e : lab b = L) (hn : L ≠ .no) (hc : ¬ ch L) : w'.heap[b]? = w.heap[b]? := f.block b (h.lab_lt e hn) (by rw [e]; exact hc)
theorem NP.fr' (h : NP W K G q N lab cv qv w) (f : Ch ch lab w w') (hc : ¬ ch .no) : Sep.Fr (PM K) W w' :=
 ⟨f.os.trans h.fr.os, f.tape.trans h.fr.tape, f.output.trans h.fr.output, Nat.le_trans h.fr.size f.size, fun b hb hp => by
  have hl : lab b = .no := by
   cases e : lab b with
   | no => rfl
   | _ =>
    exfalso
    rcases h.low b (by rw [e]; intro h; cases h) with r | r | r
    ·exact hp (.inl r)
    ·exact hp (.inr r)
    ·omega
  rw [f.block b (Nat.lt_of_lt_of_le hb h.fr.size) (by rw [hl]; exact hc)]
  exact h.fr.block b hb hp⟩
theorem NP.box' (h : NP W K G q N lab cv qv w) (f : Ch ch lab w w') (hc : ¬ ch .box) : Bk K.p (nb K G (states q).length cv qv) 73 w' := (h.keep f h.lp (by intro h; cases h) hc).trans h.box
theorem NP.row' (h : NP W K G q N lab cv qv w) (f : Ch ch lab w w') (hc : ¬ ch .row) : w'.ownsRow W.heap.size 122 3 cv N.pls.length (cells N) := Sep.zAE h.row fun g hg => h.keep f (h.lr g hg) (by intro h; cases h) hc
theorem NP.ways' (h : NP W K G q N lab cv qv w) (f : Ch ch lab w w') {k : Nat} (hk : k < N.pls.length) (hc : ¬ ch (.way k)) : w'.ownsRow W.heap.size 117 3 (N.wv k) (N.Ys k).length ((N.Ys k).flatMap yc) := Sep.zAE (h.ways k hk) fun g hg => h.keep f (h.lw k hk g hg) (by intro h; cases h) hc
theorem NP.sets' (h : NP W K G q N lab cv qv w) (f : Ch ch lab w w') {k : Nat} (hk : k < N.pls.length) (hP : ¬ ch (.sP k)) (hE : ¬ ch (.sE k)) : SetAt (N.D k) (N.E k) (G.terms.length + 1) (N.S k) w' := (h.sets k hk).keep f.size (h.keep f (h.lP k hk) (by intro h; cases h) hP) (h.keep f (h.lE k hk) (by intro h; cases h) hE)
theorem NP.map' (h : NP W K G q N lab cv qv w) (f : Ch ch lab w w') (hc : ¬ ch .map) : NMap K.mb N.pls.length (numX N.pls) w' := h.map.keep (h.keep f h.lm (by intro h; cases h) hc)
theorem NP.queue' (h : NP W K G q N lab cv qv w) (f : Ch ch lab w w') (hc : ¬ ch .que) : w'.ownsRow W.heap.size 3 1 qv N.qs.length (nivs N.qs) := Sep.zAE h.queue fun g hg => h.keep f (h.lq g hg) (by intro h; cases h) hc
theorem NP.went (h : NP W K G q N lab cv qv w) (hb : Below w.heap.size w w') : NP W K G q N lab cv qv w' := by
 have f : Ch (fun _ => False) lab w w' := .of_below hb
 exact ⟨h.fr' f id, h.box' f id, h.row' f id, fun k hk => h.ways' f hk id, h.yok, fun k hk => h.sets' f hk id id, h.map' f id, h.queue' f id, h.lp, h.lm, h.lr, h.lw, h.lP, h.lE, h.lq, h.low, fun b hn => Nat.lt_of_lt_of_le (h.inn b hn) hb.size⟩
def lab1 (lab : Nat -> Lb) (g : Nat) (L : Lb) : Nat -> Lb := fun b => if b = g then L else lab b
theorem zCL (lab : Nat -> Lb) (g : Nat) (L : Lb) : lab1 lab g L g = L := if_pos rfl
theorem zAi {lab : Nat -> Lb} {g b : Nat} {L : Lb} (h : b ≠ g) : lab1 lab g L b = lab b := if_neg h
theorem NP.eight (h : NP W K G q N lab cv qv w) : w.cell? ⟨K.p, 0, none⟩ = some (.slice K.aS (states q).length K.cS) /\ w.cell? ⟨K.p, 1, none⟩ = some (.int .i64 (G.terms.length : Int)) /\ w.cell? ⟨K.p, 2, none⟩ = some (.slice (some ⟨K.bR, 0, none⟩) (G.rules.length + 1) K.cR) /\ w.cell? ⟨K.p, 3, none⟩ = some (.slice (some ⟨K.bB, 0, none⟩) (top G + 1) K.cB) /\ w.cell? ⟨K.p, 4, none⟩ = some (.slice (some ⟨K.bT, 0, none⟩) (G.rules.length + 1) K.cT) /\ w.cell? ⟨K.p, 5, none⟩ = some cv /\ w.cell? ⟨K.p, 6, none⟩ = some (.map (some K.mb)) /\ w.cell? ⟨K.p, 7, none⟩ = some qv :=
 ⟨h.box.cell rfl, h.box.cell rfl, h.box.cell rfl, h.box.cell rfl, h.box.cell rfl, h.box.cell rfl, h.box.cell rfl, h.box.cell rfl⟩
theorem zC9 {α : Type} (f : α -> List Value) (hf : ∀ x, (f x).length = 3) : ∀ (L : List α) (j : Nat) (hj : j < L.length) (i : Nat) (hi : i < 3), (L.flatMap f)[j * 3 + i]? = (f L[j])[i]?
 | t :: T, 0, hj, i, hi => by
  rw [List.flatMap_cons, List.getElem?_append_left (by rw [hf]; omega)]
  simp
 | t :: T, j + 1, hj, i, hi => by
  rw [List.flatMap_cons, List.getElem?_append_right (by rw [hf]; omega), hf, show (j + 1) * 3 + i - 3 = j * 3 + i by omega, zC9 f hf T j (by simpa using hj) i hi]
  simp
theorem zGS {α : Type} (f : α -> List Value) (hf : ∀ x, (f x).length = 3) (L : List α) : (L.flatMap f).length = L.length * 3 := by
 induction L with
 | nil => rfl
 | cons a L ih => rw [List.flatMap_cons, List.length_append, hf, ih, List.length_cons]; omega
theorem zB6 (N : Nt) {k : Nat} (hk : k < N.pls.length) (i : Nat) (hi : i < 3) : (cells N)[k * 3 + i]? = (cc N k)[i]? := by
 unfold cells
 rw [zC9 (cc N) (zCp N) _ k (by simpa using hk) i hi, List.getElem_range]
theorem NP.cell (h : NP W K G q N lab cv qv w) {k : Nat} (hk : k < N.pls.length) : ∃ g c, cv = .slice (some ⟨g, 0, none⟩) N.pls.length c /\ lab g = .row /\ W.heap.size <= g /\ w.cell? ⟨g, k * 3, none⟩ = some (.pointer (some ⟨N.D k, 0, none⟩)) /\ w.cell? ⟨g, k * 3 + 1, none⟩ = some (N.wv k) /\ w.cell? ⟨g, k * 3 + 2, none⟩ = some (.bool (N.Wt k)) /\ ∀ j, w.frozen? ⟨g, j, none⟩ = false := by
 have hc := h.row
 rcases h.row.2 with ⟨_, h0⟩ | ⟨g, cap, cur, e, hbs, hg, _⟩
 ·omega
 ·have rd := World.ownsRow.cells h.row (g := g) (by rw [e]; rfl)
  refine ⟨g, cap, e, h.lr g (by rw [e]; rfl), hbs, ?_, ?_, ?_, fun j => by simp [World.frozen?, hg]⟩
  ·have := rd (k * 3 + 0) _ (by rw [zB6 N hk 0 (by omega)]; rfl)
   rw [WideShapes.add_plain] at this
   simpa using this
  ·have := rd (k * 3 + 1) _ (by rw [zB6 N hk 1 (by omega)]; rfl)
   rw [WideShapes.add_plain] at this
   simpa using this
  ·have := rd (k * 3 + 2) _ (by rw [zB6 N hk 2 (by omega)]; rfl)
   rw [WideShapes.add_plain] at this
   simpa using this
theorem zGH {N M : Nt} (hp : M.pls.length = N.pls.length) {k i : Nat} (hk : k < N.pls.length) (hi : i < 3) {u : Value} (ho : ∀ a, a ≠ k -> cc M a = cc N a) (he : cc M k = (cc N k).set i u) : (cells N).set (k * 3 + i) u = cells M := by
 apply List.ext_getElem?
 intro j
 have hl : (cells N).length = N.pls.length * 3 := by unfold cells; rw [zGS _ (zCp N), List.length_range]
 by_cases hj : j < N.pls.length * 3
 ·have ha : j / 3 < N.pls.length := by omega
  have e2 := zB6 M (k := j / 3) (by omega) (j % 3) (by omega)
  have e1 := zB6 N (k := j / 3) ha (j % 3) (by omega)
  rw [show j / 3 * 3 + j % 3 = j by omega] at e1 e2
  rw [e2, List.getElem?_set]
  by_cases ek : j / 3 = k
  ·rw [ek, he, List.getElem?_set]
   by_cases ei : i = j % 3
   ·rw [if_pos (by omega), if_pos ei, if_pos (by omega), if_pos (by rw [zCp]; omega)]
   ·rw [if_neg (by omega), if_neg ei, e1, ek]
  ·rw [if_neg (by omega), e1, ho _ ek]
 ·rw [List.getElem?_eq_none (by rw [List.length_set]; omega), List.getElem?_eq_none]
  unfold cells
  rw [zGS _ (zCp M), List.length_range]
  omega
theorem NP.way (h : NP W K G q N lab cv qv w) {k : Nat} (hk : k < N.pls.length) {j : Nat} (hj : j < (N.Ys k).length) : ∃ g c, N.wv k = .slice (some ⟨g, 0, none⟩) (N.Ys k).length c /\ lab g = .way k /\ w.cell? ⟨g, j * 3, none⟩ = some (N.Ys k)[j].v /\ w.cell? ⟨g, j * 3 + 1, none⟩ = some (.bool (N.Ys k)[j].e) /\ w.cell? ⟨g, j * 3 + 2, none⟩ = some (.int .i64 ((N.Ys k)[j].to : Int)) := by
 have hr := h.ways k hk
 rcases hr.2 with ⟨_, h0⟩ | ⟨g, cap, cur, e, hbs, hg, _⟩
 ·omega
 ·have rd := World.ownsRow.cells hr (g := g) (by rw [e]; rfl)
  refine ⟨g, cap, e, h.lw k hk g (by rw [e]; rfl), ?_, ?_, ?_⟩
  ·have := rd (j * 3 + 0) _ (by rw [zC9 yc zES _ j hj 0 (by omega)]; rfl)
   rw [WideShapes.add_plain] at this
   simpa using this
  ·have := rd (j * 3 + 1) _ (by rw [zC9 yc zES _ j hj 1 (by omega)]; rfl)
   rw [WideShapes.add_plain] at this
   simpa using this
  ·have := rd (j * 3 + 2) _ (by rw [zC9 yc zES _ j hj 2 (by omega)]; rfl)
   rw [WideShapes.add_plain] at this
   simpa using this
theorem NP.look (h : NP W K G q N lab cv qv w) (k : Kp Tryz.prog 124) (hz : ∀ w : World, (zeroValue 3).run Tryz.prog w = .ok (.int .i64 0) w) {x : Pl} (hx : P64 x) :
  (Instr.lookup 68 (.map (some K.mb)) (pv x) true).run Tryz.prog w = .ok (.tuple #[.int .i64 ((numX N.pls x).getD 0), .bool (numX N.pls x).isSome]) w :=
 h.map.look k Tryz.underlying68 Tryz.underlying3 (hz w) hx
end
