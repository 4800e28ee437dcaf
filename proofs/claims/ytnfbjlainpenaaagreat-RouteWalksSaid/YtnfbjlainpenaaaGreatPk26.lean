/- A part of the proof. -/
import Derived.Test.YtnfbjlainpenaaaGreatPk25
set_option linter.unusedVariables false
namespace Go.Proofs.YtnfbjlainpenaaaGreat
namespace Au
open Gr (Gram)
open Im
theorem zMM (G : Gram) : Srt (allI G) := by
 unfold Srt allI
 rw [List.pairwise_flatMap]
 refine ⟨fun r _ => ?_, ?_⟩
 ·rw [List.pairwise_map]
  refine List.pairwise_lt_range.imp fun {a b} h => ?_
  refine .inr ⟨rfl, ?_⟩
  dsimp only
  omega
 ·refine List.pairwise_lt_range.imp fun {a b} h => ?_
  intro x hx y hy
  obtain ⟨_, _, rfl⟩ := List.mem_map.1 hx
  obtain ⟨_, _, rfl⟩ := List.mem_map.1 hy
  refine .inl ?_
  dsimp only
  omega
open Classical in
noncomputable def zKZ (G : Gram) (P : Itm -> Prop) : List Itm := (allI G).filter fun x => decide (P x)
open Classical in
theorem zIL {G : Gram} {P : Itm -> Prop} (h : ∀ x, P x -> zAC G x = true) : Is (zKZ G P) P := by
 refine ⟨(zMM G).sublist List.filter_sublist, fun x => ?_⟩
 unfold zKZ
 rw [List.mem_filter]
 exact ⟨fun q => of_decide_eq_true q.2, fun q => ⟨zCn (h x q), decide_eq_true q⟩⟩
noncomputable def clL (G : Gram) (L : List Itm) : List Itm := zKZ G (Clo G L)
noncomputable def stL (G : Gram) (L : List Itm) (s : Int) : List Itm := zKZ G (zEO G L s)
theorem zEf (G : Gram) (L : List Itm) : Is (clL G L) (Clo G L) := zIL fun x => zA0
theorem zD5 (G : Gram) (L : List Itm) (s : Int) : Is (stL G L s) (zEO G L s) := zIL fun x h => (zBm h).1
abbrev Half := List (List Itm) × List (Int × Int)
noncomputable def oneS (G : Gram) (c : List Itm) (s : Nat) (p : Half) : Half :=
 if stL G c s = [] then p else (if stL G c s ∈ p.1 then p.1 else p.1 ++ [stL G c s], p.2 ++ [((s : Int), ((p.1 ++ [stL G c s]).idxOf (stL G c s) : Int))])
noncomputable def zAP (G : Gram) (c : List Itm) : Nat -> Half -> Half
 | 0, p => p
 | n + 1, p => oneS G c (n + 1) (zAP G c n p)
theorem zAx (G : Gram) (c : List Itm) (n : Nat) (p : Half) : zAP G c (n + 1) p = oneS G c (n + 1) (zAP G c n p) := rfl
theorem zCs {G : Gram} {c : List Itm} {s : Nat} {p : Half} (h : stL G c s = []) : oneS G c s p = p := if_pos h
theorem zGJ {G : Gram} {c : List Itm} {s : Nat} {p : Half} (h : stL G c s ≠ []) (k : stL G c s ∈ p.1) : oneS G c s p = (p.1, p.2 ++ [((s : Int), (p.1.idxOf (stL G c s) : Int))]) := by
 unfold oneS
 rw [if_neg h, if_pos k, List.idxOf_append, if_pos k]
theorem zGI {G : Gram} {c : List Itm} {s : Nat} {p : Half} (h : stL G c s ≠ []) (k : stL G c s ∉ p.1) : oneS G c s p = (p.1 ++ [stL G c s], p.2 ++ [((s : Int), (p.1.length : Int))]) := by
 unfold oneS
 rw [if_neg h, if_neg k, List.idxOf_append, if_neg k]
 simp
abbrev Whole := List (List Itm) × List (List (Int × Int))
noncomputable def rnd (G : Gram) (top : Nat) (q : Whole) : Whole :=
 match q.1[q.2.length]? with
 | none => q
 | some L => ((zAP G (clL G L) top (q.1, [])).1, q.2 ++ [(zAP G (clL G L) top (q.1, [])).2])
noncomputable def runs (G : Gram) (top : Nat) : Nat -> Whole
 | 0 => ([[((G.rules.length : Int), 0)]], [])
 | n + 1 => rnd G top (runs G top n)
theorem zEu {G : Gram} {top : Nat} {q : Whole} (h : q.2.length < q.1.length) : rnd G top q = ((zAP G (clL G q.1[q.2.length]) top (q.1, [])).1, q.2 ++ [(zAP G (clL G q.1[q.2.length]) top (q.1, [])).2]) := by
 unfold rnd
 rw [List.getElem?_eq_getElem h]
noncomputable def zAO (G : Gram) (ks : List (List Itm)) (c : List Itm) (n : Nat) : List (Int × Int) :=
 (List.range n).filterMap fun i => if stL G c ((i + 1 : Nat) : Int) = [] then none else some (((i + 1 : Nat) : Int), (ks.idxOf (stL G c ((i + 1 : Nat) : Int)) : Int))
theorem zAe (G : Gram) (ks : List (List Itm)) (c : List Itm) (n : Nat) : zAO G ks c (n + 1) = zAO G ks c n ++ (if stL G c ((n + 1 : Nat) : Int) = [] then [] else [(((n + 1 : Nat) : Int), (ks.idxOf (stL G c ((n + 1 : Nat) : Int)) : Int))]) := by
 unfold zAO
 rw [List.range_succ, List.filterMap_append]
 congr 1
 by_cases h : stL G c ((n + 1 : Nat) : Int) = []
 ·simp only [List.filterMap_cons, List.filterMap_nil, if_pos h]
 ·simp only [List.filterMap_cons, List.filterMap_nil, if_neg h]
theorem zC1 {G : Gram} {ks : List (List Itm)} {c : List Itm} {n : Nat} (more : List (List Itm)) (h : ∀ i, i < n -> stL G c ((i + 1 : Nat) : Int) ≠ [] -> stL G c ((i + 1 : Nat) : Int) ∈ ks) : zAO G (ks ++ more) c n = zAO G ks c n := by
 induction n with
 | zero => rfl
 | succ n ih =>
  rw [zAe, zAe, ih fun i hi => h i (by omega)]
  by_cases k : stL G c ((n + 1 : Nat) : Int) = []
  ·rw [if_pos k, if_pos k]
  ·rw [if_neg k, if_neg k, List.idxOf_append, if_pos (h n (by omega) k)]
structure HalfOk (G : Gram) (c : List Itm) (ks : List (List Itm)) (n : Nat) (p : Half) : Prop where
 front : ∃ more, p.1 = ks ++ more /\ ∀ k ∈ more, ∃ i, i < n /\ k = stL G c ((i + 1 : Nat) : Int) /\ k ≠ []
 nodup : p.1.Nodup
 here : ∀ i, i < n -> stL G c ((i + 1 : Nat) : Int) ≠ [] -> stL G c ((i + 1 : Nat) : Int) ∈ p.1
 trans : p.2 = zAO G p.1 c n
theorem HalfOk.start {G : Gram} {c : List Itm} {ks : List (List Itm)} (h : ks.Nodup) : HalfOk G c ks 0 (ks, []) :=
 ⟨⟨[], by simp, fun k hk => by cases hk⟩, h, fun i hi => by omega, rfl⟩
theorem HalfOk.next {G : Gram} {c : List Itm} {ks : List (List Itm)} {n : Nat} {p : Half} (h : HalfOk G c ks n p) : HalfOk G c ks (n + 1) (oneS G c (n + 1) p) := by
 obtain ⟨more, e, hm⟩ := h.front
 by_cases h0 : stL G c ((n + 1 : Nat) : Int) = []
 ·rw [zCs h0]
  refine ⟨⟨more, e, fun k hk => ?_⟩, h.nodup, fun i hi hn => ?_, ?_⟩
  ·obtain ⟨i, h1, h2⟩ := hm k hk
   exact ⟨i, by omega, h2⟩
  ·by_cases q : i = n
   ·subst q
    exact absurd h0 hn
   ·exact h.here i (by omega) hn
  ·rw [zAe, if_pos h0, List.append_nil]
   exact h.trans
 ·by_cases h1 : stL G c ((n + 1 : Nat) : Int) ∈ p.1
  ·rw [zGJ h0 h1]
   refine ⟨⟨more, e, fun k hk => ?_⟩, h.nodup, fun i hi hn => ?_, ?_⟩
   ·obtain ⟨i, h1, h2⟩ := hm k hk
    exact ⟨i, by omega, h2⟩
   ·by_cases q : i = n
    ·subst q
     exact h1
    ·exact h.here i (by omega) hn
   ·rw [zAe, if_neg h0, ← h.trans]
  ·rw [zGI h0 h1]
   refine ⟨⟨more ++ [stL G c ((n + 1 : Nat) : Int)], by dsimp only; rw [e, List.append_assoc], fun k hk => ?_⟩, ?_, fun i hi hn => ?_, ?_⟩
   ·rcases List.mem_append.1 hk with hk | hk
    ·obtain ⟨i, h1, h2⟩ := hm k hk
     exact ⟨i, by omega, h2⟩
    ·rw [List.mem_singleton] at hk
     exact ⟨n, by omega, hk, by rw [hk]; exact h0⟩
   ·dsimp only
    rw [List.nodup_append]
    refine ⟨h.nodup, by simp, fun x hx y hy q => ?_⟩
    rw [List.mem_singleton] at hy
    subst hy
    subst q
    exact h1 hx
   ·by_cases q : i = n
    ·subst q
     exact List.mem_append.2 (.inr (List.mem_singleton.2 rfl))
    ·exact List.mem_append.2 (.inl (h.here i (by omega) hn))
   ·dsimp only
    rw [zAe, if_neg h0, zC1 _ h.here, ← h.trans, List.idxOf_append, if_neg h1]
    simp
theorem zB0 {G : Gram} {c : List Itm} {ks : List (List Itm)} (h : ks.Nodup) : ∀ n, HalfOk G c ks n (zAP G c n (ks, []))
 | 0 => .start h
 | n + 1 => (zB0 h n).next
end Au
namespace Au
open Gr (Gram)
open Im
def zAE (ks : List (List Itm)) (i : Nat) : List Itm := ks.getD i []
theorem zAd {ks more : List (List Itm)} {i : Nat} (h : i < ks.length) : zAE (ks ++ more) i = zAE ks i := by
 unfold zAE
 rw [List.getD_eq_getElem?_getD, List.getD_eq_getElem?_getD, List.getElem?_append_left h]
theorem zAV {ks : List (List Itm)} {i : Nat} (h : i < ks.length) : zAE ks i = ks[i] := by
 unfold zAE
 rw [List.getD_eq_getElem?_getD, List.getElem?_eq_getElem h]
 rfl
theorem zBH {ks : List (List Itm)} {i : Nat} (h : i < ks.length) : zAE ks i ∈ ks := by
 rw [zAV h]
 exact List.getElem_mem h
theorem zLB {ks : List (List Itm)} {k : List Itm} (h : k ∈ ks) : ks.idxOf k < ks.length /\ zAE ks (ks.idxOf k) = k := by
 have h1 := List.idxOf_lt_length_of_mem h
 refine ⟨h1, ?_⟩
 rw [zAV h1]
 exact List.getElem_idxOf h1
structure WholeOk (G : Gram) (top : Nat) (q : Whole) : Prop where
 le : q.2.length <= q.1.length
 pos : 0 < q.1.length
 nodup : q.1.Nodup
 zero : zAE q.1 0 = [((G.rules.length : Int), 0)]
 good : ∀ k ∈ q.1, k ≠ [] /\ Srt k /\ ∀ x ∈ k, zAC G x = true
 trans : ∀ i, i < q.2.length -> q.2.getD i [] = zAO G q.1 (clL G (zAE q.1 i)) top
 here : ∀ i, i < q.2.length -> ∀ s, s < top -> stL G (clL G (zAE q.1 i)) ((s + 1 : Nat) : Int) ≠ [] -> stL G (clL G (zAE q.1 i)) ((s + 1 : Nat) : Int) ∈ q.1
 early : ∀ t, 0 < t -> t < q.1.length -> ∃ i s, i < t /\ i < q.2.length /\ s < top /\ zAE q.1 t = stL G (clL G (zAE q.1 i)) ((s + 1 : Nat) : Int)
theorem WholeOk.start (G : Gram) (top : Nat) : WholeOk G top (runs G top 0) := by
 refine ⟨by simp [runs], by simp [runs], by simp [runs], rfl, fun k hk => ?_, fun i hi => by simp [runs] at hi, fun i hi => by simp [runs] at hi, fun t h1 h2 => ?_⟩
 ·simp only [runs, List.mem_singleton] at hk
  subst hk
  refine ⟨by simp, zCO _, fun x hx => ?_⟩
  rw [List.mem_singleton] at hx
  subst hx
  exact zBl (Nat.le_refl _)
 ·simp only [runs, List.length_cons, List.length_nil] at h2
  omega
theorem WholeOk.next {G : Gram} {top : Nat} {q : Whole} (h : WholeOk G top q) : WholeOk G top (rnd G top q) := by
 by_cases hq : q.2.length < q.1.length
 ·rw [zEu hq, ← zAV hq]
  have H := zB0 (G := G) (c := clL G (zAE q.1 q.2.length)) h.nodup top
  generalize zAP G (clL G (zAE q.1 q.2.length)) top (q.1, []) = p at H
  obtain ⟨more, e, hm⟩ := H.front
  have hl : q.1.length <= p.1.length := by rw [e, List.length_append]; omega
  refine ⟨by dsimp only; rw [List.length_append]; simp; omega, by have := h.pos; dsimp only; omega, H.nodup, ?_, fun k hk => ?_, fun i hi => ?_, fun i hi s hs hn => ?_, fun t h1 h2 => ?_⟩
  ·dsimp only
   rw [e, zAd h.pos]
   exact h.zero
  ·dsimp only at hk
   rw [e] at hk
   rcases List.mem_append.1 hk with hk | hk
   ·exact h.good k hk
   ·obtain ⟨i, _, h1, h2⟩ := hm k hk
    have hs := zD5 G (clL G (zAE q.1 q.2.length)) ((i + 1 : Nat) : Int)
    rw [← h1] at hs
    exact ⟨h2, hs.1, fun x hx => (zBm ((hs.2 x).1 hx)).1⟩
  ·dsimp only at hi ⊢
   rw [List.length_append, List.length_singleton] at hi
   by_cases k : i < q.2.length
   ·rw [List.getD_eq_getElem?_getD, List.getElem?_append_left k, ← List.getD_eq_getElem?_getD, h.trans i k, e, zAd (by omega), zC1 more fun s hs hn => h.here i k s hs hn]
   ·obtain rfl : i = q.2.length := by omega
    rw [List.getD_eq_getElem?_getD, List.getElem?_append_right (Nat.le_refl _)]
    simp only [Nat.sub_self, List.getElem?_cons_zero, Option.getD_some]
    rw [H.trans, show zAE p.1 q.2.length = zAE q.1 q.2.length from by rw [e, zAd hq]]
  ·dsimp only at hi hn ⊢
   rw [List.length_append, List.length_singleton] at hi
   have hi' : i < q.1.length := by omega
   rw [show zAE p.1 i = zAE q.1 i from by rw [e, zAd hi']] at hn ⊢
   by_cases k : i < q.2.length
   ·rw [e]
    exact List.mem_append.2 (.inl (h.here i k s hs hn))
   ·obtain rfl : i = q.2.length := by omega
    exact H.here s hs hn
  ·dsimp only at h2 ⊢
   by_cases k : t < q.1.length
   ·obtain ⟨i, s, a1, a2, a3, a4⟩ := h.early t h1 k
    refine ⟨i, s, a1, by rw [List.length_append]; omega, a3, ?_⟩
    rw [e, zAd k, zAd (by omega)]
    exact a4
   ·have hmem : zAE p.1 t ∈ more := by
     rw [zAV h2]
     simp only [e, List.getElem_append_right (Nat.le_of_not_lt k)]
     exact List.getElem_mem _
    obtain ⟨s, a1, a2, _⟩ := hm _ hmem
    refine ⟨q.2.length, s, by omega, by rw [List.length_append]; simp, a1, ?_⟩
    rw [a2, e, zAd hq]
 ·unfold rnd
  rw [List.getElem?_eq_none (by omega)]
  exact h
theorem zCN (G : Gram) (top : Nat) : ∀ n, WholeOk G top (runs G top n)
 | 0 => .start G top
 | n + 1 => (zCN G top n).next
theorem zMD {G : Gram} {top : Nat} {q : Whole} (h : q.2.length < q.1.length) : (rnd G top q).2.length = q.2.length + 1 := by
 rw [zEu h]
 simp
theorem zGR {G : Gram} {top : Nat} : ∀ {n : Nat}, (∀ m, m < n -> (runs G top m).2.length < (runs G top m).1.length) -> (runs G top n).2.length = n
 | 0, _ => rfl
 | n + 1, h => by
  show (rnd G top (runs G top n)).2.length = n + 1
  rw [zMD (h n (by omega)), zGR fun m hm => h m (by omega)]
theorem zAr {G : Gram} {ks : List (List Itm)} {c : List Itm} {n : Nat} {s t : Int} : (s, t) ∈ zAO G ks c n ↔ ∃ i, i < n /\ s = ((i + 1 : Nat) : Int) /\ stL G c s ≠ [] /\ t = (ks.idxOf (stL G c s) : Int) := by
 unfold zAO
 rw [List.mem_filterMap]
 constructor
 ·rintro ⟨i, hi, h⟩
  split at h
  ·cases h
  ·rename_i hn
   injection h with h
   injection h with h1 h2
   subst h1
   exact ⟨i, List.mem_range.1 hi, rfl, hn, h2.symm⟩
 ·rintro ⟨i, hi, rfl, hn, rfl⟩
  exact ⟨i, List.mem_range.2 hi, if_neg hn⟩
def leads (tr : List (Int × Int)) (s : Int) : Int := ((tr.find? fun x => decide (x.1 = s)).map (·.2)).getD (-1)
theorem zFN {G : Gram} {ks : List (List Itm)} {c : List Itm} {n i : Nat} (hi : i < n) (hn : stL G c ((i + 1 : Nat) : Int) ≠ []) : leads (zAO G ks c n) ((i + 1 : Nat) : Int) = (ks.idxOf (stL G c ((i + 1 : Nat) : Int)) : Int) := by
 unfold leads
 have key : ∀ x ∈ zAO G ks c n, decide (x.1 = ((i + 1 : Nat) : Int)) = true -> x.2 = (ks.idxOf (stL G c ((i + 1 : Nat) : Int)) : Int) := by
  rintro ⟨s, t⟩ hx hd
  obtain ⟨j, hj, h1, h2, h3⟩ := zAr.1 hx
  have hd' : s = ((i + 1 : Nat) : Int) := of_decide_eq_true hd
  dsimp only
  rw [← hd']
  exact h3
 have hm : ((((i + 1 : Nat) : Int), (ks.idxOf (stL G c ((i + 1 : Nat) : Int)) : Int)) : Int × Int) ∈ zAO G ks c n := zAr.2 ⟨i, hi, rfl, hn, rfl⟩
 cases hf : (zAO G ks c n).find? fun x => decide (x.1 = ((i + 1 : Nat) : Int)) with
 | none =>
  have := List.find?_eq_none.1 hf _ hm
  simp at this
 | some x => exact key x (List.mem_of_find?_eq_some hf) (List.find?_some (p := fun x : Int × Int => decide (x.1 = ((i + 1 : Nat) : Int))) hf)
