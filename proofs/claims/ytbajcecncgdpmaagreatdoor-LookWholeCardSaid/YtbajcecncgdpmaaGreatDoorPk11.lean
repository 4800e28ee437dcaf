/- A part of the proof. -/
import Derived.Test.YtbajcecncgdpmaaGreatDoorPk10
set_option linter.unusedVariables false
namespace Go.Proofs.YtbajcecncgdpmaaGreatDoor
namespace Im
open Gr (Gram checkN zAT zBA zAw zAM ofN zAp zAb zAU)
theorem zDd {G : Gram} (h : zBA G = false) : G.rules.length <= 300 /\ ∀ r ∈ G.rules, r.2.length <= 8 := by
 unfold zBA at h
 simp only [Bool.or_eq_false_iff, decide_eq_false_iff_not, List.any_eq_false, decide_eq_true_eq] at h
 exact ⟨by omega, fun r hr => by have := h.2 r hr; omega⟩
theorem zBl {G : Gram} (h : checkN G = 0) {r : Nat} (hr : r <= G.rules.length) : rlen G (r : Int) <= 8 := by
 have hm := zDd (zAT h).1
 unfold rlen
 by_cases e : r = G.rules.length
 ·subst e
  rw [(zAU G).2]
  simp
 ·have hr' : r < G.rules.length := by omega
  rw [(zAb hr').2]
  exact hm.2 _ (List.getElem_mem hr')
theorem zAe {G : Gram} (h : checkN G = 0) : (allI G).length <= 2709 := by
 have h1 := zPQ (G := G) (B := 8) fun r hr => zBl h hr
 have h2 := (zDd (zAT h).1).1
 have h3 : (G.rules.length + 1) * (8 + 1) <= 301 * 9 := Nat.mul_le_mul (by omega) (by omega)
 omega
theorem zCk {G : Gram} (h : checkN G = 0) {x : Itm} (hx : zAG G x = true) : 0 <= x.1 /\ x.1 <= 300 /\ 0 <= x.2 /\ x.2 <= 8 := by
 obtain ⟨⟨h1, h2⟩, h3, h4⟩ := zAK.1 hx
 have hm := (zDd (zAT h).1).1
 obtain ⟨r, hr⟩ := Int.eq_ofNat_of_zero_le h1
 have := zBl h (r := r) (by omega)
 rw [hr] at h4
 omega
theorem zIl {n : Int} (h : -1000 <= n) (k : n <= 1000) : (Lit.int .i64 n).wf = true := by
 simp only [Lit.wf, IntKind.min, IntKind.max, IntKind.signed, IntKind.bits, Bool.and_eq_true, decide_eq_true_eq, if_true]
 omega
theorem zCD {G : Gram} (h : checkN G = 0) {x : Itm} (hx : zAG G x = true) : W64 x := by
 have := zCk h hx
 exact ⟨zIl (by omega) (by omega), zIl (by omega) (by omega)⟩
theorem zLF {G : Gram} (h : checkN G = 0) : ofN G 0 = [] := by
 rw [List.eq_nil_iff_forall_not_mem]
 intro r hr
 obtain ⟨h1, h2⟩ := zAp.1 hr
 have := zAM.1 (zAw (zAT h).2.2.2.1 h1)
 omega
theorem zNd {G : Gram} (h : checkN G = 0) {x : Itm} (hx : ¬ behB G x = true) : ofN G (behV G x) = [] := by
 unfold behV
 rw [if_neg hx]
 exact zLF h
theorem zKO {G : Gram} {x y z : Itm} (h : Clo G [x] y) (k : Clo G [y] z) : Clo G [x] z := by
 induction k with
 | of h1 h2 =>
  rw [List.mem_singleton] at h1
  subst h1
  exact h
 | next _ h2 h3 ih => exact .next ih h2 h3
theorem zH5 {G : Gram} {x : Itm} (h : zAG G x = true) : Clo G [x] x := .of (List.mem_singleton.2 rfl) h
theorem zPZ {G : Gram} {x : Itm} (h : zAG G x = true) {r : Nat} (hr : r ∈ ofN G (behV G x)) (hv : checkN G = 0) : Clo G [x] ((r : Int), 0) := by
 by_cases hb : behB G x = true
 ·exact .next (zH5 h) hb hr
 ·rw [zNd hv hb] at hr
  cases hr
structure Sprd (G : Gram) (X : Itm -> Prop) (x : Itm) (Y : Itm -> Prop) : Prop where
 old : ∀ y, X y -> Y y
 own : Y x
 new : ∀ y, Y y -> X y \/ Clo G [x] y
 shut : ∀ y, Y y -> ¬ X y -> ∀ r ∈ ofN G (behV G y), Y ((r : Int), 0)
theorem Sprd.none {G : Gram} {X Y : Itm -> Prop} {x : Itm} (h : X x) (e : ∀ y, Y y ↔ X y \/ y = x) : Sprd G X x Y := by
 have e' : ∀ y, Y y ↔ X y := fun y => (e y).trans ⟨fun k => k.elim id fun k => k ▸ h, .inl⟩
 exact ⟨fun y hy => (e' y).2 hy, (e' x).2 h, fun y hy => .inl ((e' y).1 hy), fun y hy hn => absurd ((e' y).1 hy) hn⟩
structure Part (G : Gram) (X : Itm -> Prop) (x : Itm) (K : List Nat) (j : Nat) (Z : Itm -> Prop) : Prop where
 old : ∀ y, X y -> Z y
 own : Z x
 new : ∀ y, Z y -> X y \/ Clo G [x] y
 kids : ∀ i (h : i < K.length), i < j -> Z ((K[i] : Int), 0)
 shut : ∀ y, Z y -> ¬ X y -> y ≠ x -> ∀ r ∈ ofN G (behV G y), Z ((r : Int), 0)
theorem Part.start {G : Gram} {X Z : Itm -> Prop} {x : Itm} {K : List Nat} (hr : zAG G x = true) (e : ∀ y, Z y ↔ X y \/ y = x) : Part G X x K 0 Z :=
 ⟨fun y hy => (e y).2 (.inl hy), (e x).2 (.inr rfl), fun y hy => ((e y).1 hy).imp id fun k => by rw [k]; exact zH5 hr, fun i _ hi => by omega, fun y hy hn hne => absurd ((e y).1 hy) fun k => k.elim hn hne⟩
theorem Part.step {G : Gram} {X Z Y : Itm -> Prop} {x : Itm} {j : Nat} (hv : checkN G = 0) (hr : zAG G x = true) (p : Part G X x (ofN G (behV G x)) j Z) (hj : j < (ofN G (behV G x)).length) (s : Sprd G Z (((ofN G (behV G x))[j] : Int), 0) Y) : Part G X x (ofN G (behV G x)) (j + 1) Y := by
 refine ⟨fun y hy => s.old y (p.old y hy), s.old x p.own, fun y hy => ?_, fun i hi hij => ?_, fun y hy hn hne r hk => ?_⟩
 ·rcases s.new y hy with k | k
  ·exact p.new y k
  ·exact .inr (zKO (zPZ hr (List.getElem_mem hj) hv) k)
 ·by_cases e : i = j
  ·subst e
   exact s.own
  ·exact s.old _ (p.kids i hi (by omega))
 ·rcases Classical.em (Z y) with k | k
  ·exact s.old _ (p.shut y k hn hne r hk)
  ·exact s.shut y hy k r hk
theorem Part.done {G : Gram} {X Z : Itm -> Prop} {x : Itm} (p : Part G X x (ofN G (behV G x)) (ofN G (behV G x)).length Z) : Sprd G X x Z := by
 refine ⟨p.old, p.own, p.new, fun y hy hn r hk => ?_⟩
 by_cases e : y = x
 ·subst e
  obtain ⟨i, hi, e⟩ := List.getElem_of_mem hk
  rw [← e]
  exact p.kids i hi hi
 ·exact p.shut y hy hn e r hk
theorem Part.right {G : Gram} {X Z : Itm -> Prop} {x : Itm} {K : List Nat} {j : Nat} (p : Part G X x K j Z) (h : ∀ y, X y -> zAG G y = true) (y : Itm) (hy : Z y) : zAG G y = true := (p.new y hy).elim (h y) zAS
structure Way (G : Gram) (L : List Itm) (Lf Z : Itm -> Prop) : Prop where
 sub : ∀ y, Z y -> Clo G L y
 met : ∀ y, y ∈ L -> zAG G y = true -> ¬ Lf y -> Z y
 shut : ∀ y, Z y -> ∀ r ∈ ofN G (behV G y), Z ((r : Int), 0)
theorem Way.start {G : Gram} {L : List Itm} {X Z : Itm -> Prop} (hX : ∀ y, y ∈ L -> zAG G y = true -> X y) (hz : ∀ y, ¬ Z y) : Way G L X Z :=
 ⟨fun y hy => absurd hy (hz y), fun y h1 h2 h3 => absurd (hX y h1 h2) h3, fun y hy => absurd hy (hz y)⟩
theorem Way.step {G : Gram} {L : List Itm} {Lf Z Y : Itm -> Prop} {x : Itm} (p : Way G L Lf Z) (hx : x ∈ L) (hr : zAG G x = true) (s : Sprd G Z x Y) : Way G L (fun y => Lf y /\ y ≠ x) Y := by
 refine ⟨fun y hy => ?_, fun y h1 h2 h3 => ?_, fun y hy r hk => ?_⟩
 ·rcases s.new y hy with k | k
  ·exact p.sub y k
  ·exact zM1 (fun z hz => by rw [List.mem_singleton] at hz; rw [hz]; exact hx) k
 ·by_cases e : y = x
  ·rw [e]
   exact s.own
  ·exact s.old y (p.met y h1 h2 fun k => h3 ⟨k, e⟩)
 ·rcases Classical.em (Z y) with k | k
  ·exact s.old _ (p.shut y k r hk)
  ·exact s.shut y hy k r hk
theorem Way.done {G : Gram} {L : List Itm} {Lf Z : Itm -> Prop} (p : Way G L Lf Z) (h : ∀ y, y ∈ L -> zAG G y = true -> ¬ Lf y) (y : Itm) : Z y ↔ Clo G L y := by
 refine ⟨p.sub y, fun k => ?_⟩
 induction k with
 | of h1 h2 => exact p.met _ h1 h2 (h _ h1 h2)
 | next _ h2 h3 ih => exact p.shut _ ih _ h3
theorem Way.right {G : Gram} {L : List Itm} {Lf Z : Itm -> Prop} (p : Way G L Lf Z) (y : Itm) (hy : Z y) : zAG G y = true := zAS (p.sub y hy)
end Im
namespace Au
open Gr (Gram)
open Im
theorem zQi (G : Gram) : Srt (allI G) := by
 unfold Srt allI
 rw [List.pairwise_flatMap]
 refine ⟨fun r _ => ?_, ?_⟩
 ·rw [List.pairwise_map]
  refine List.pairwise_lt_range.imp fun {a b} h => ?_
  refine .inr ⟨rfl, ?_⟩
  dsimp only
  omega
 ·refine List.pairwise_lt_range.imp fun {a b} h => ?_
  intro x hx y hy
  obtain ⟨_, _, rfl⟩ := List.mem_map.1 hx
  obtain ⟨_, _, rfl⟩ := List.mem_map.1 hy
  refine .inl ?_
  dsimp only
  omega
open Classical in
noncomputable def zOF (G : Gram) (P : Itm -> Prop) : List Itm := (allI G).filter fun x => decide (P x)
open Classical in
theorem zK6 {G : Gram} {P : Itm -> Prop} (h : ∀ x, P x -> zAG G x = true) : Is (zOF G P) P := by
 refine ⟨(zQi G).sublist List.filter_sublist, fun x => ?_⟩
 unfold zOF
 rw [List.mem_filter]
 exact ⟨fun q => of_decide_eq_true q.2, fun q => ⟨zBu (h x q), decide_eq_true q⟩⟩
noncomputable def clL (G : Gram) (L : List Itm) : List Itm := zOF G (Clo G L)
noncomputable def stL (G : Gram) (L : List Itm) (s : Int) : List Itm := zOF G (zJ4 G L s)
theorem zEY (G : Gram) (L : List Itm) : Is (clL G L) (Clo G L) := zK6 fun x => zAS
theorem zD2 (G : Gram) (L : List Itm) (s : Int) : Is (stL G L s) (zJ4 G L s) := zK6 fun x h => (zCR h).1
abbrev Half := List (List Itm) × List (Int × Int)
noncomputable def oneS (G : Gram) (c : List Itm) (s : Nat) (p : Half) : Half :=
 if stL G c s = [] then p else (if stL G c s ∈ p.1 then p.1 else p.1 ++ [stL G c s], p.2 ++ [((s : Int), ((p.1 ++ [stL G c s]).idxOf (stL G c s) : Int))])
noncomputable def zCV (G : Gram) (c : List Itm) : Nat -> Half -> Half
 | 0, p => p
 | n + 1, p => oneS G c (n + 1) (zCV G c n p)
theorem zBj (G : Gram) (c : List Itm) (n : Nat) (p : Half) : zCV G c (n + 1) p = oneS G c (n + 1) (zCV G c n p) := rfl
theorem zGk {G : Gram} {c : List Itm} {s : Nat} {p : Half} (h : stL G c s = []) : oneS G c s p = p := if_pos h
theorem zN5 {G : Gram} {c : List Itm} {s : Nat} {p : Half} (h : stL G c s ≠ []) (k : stL G c s ∈ p.1) : oneS G c s p = (p.1, p.2 ++ [((s : Int), (p.1.idxOf (stL G c s) : Int))]) := by
 unfold oneS
 rw [if_neg h, if_pos k, List.idxOf_append, if_pos k]
theorem zN4 {G : Gram} {c : List Itm} {s : Nat} {p : Half} (h : stL G c s ≠ []) (k : stL G c s ∉ p.1) : oneS G c s p = (p.1 ++ [stL G c s], p.2 ++ [((s : Int), (p.1.length : Int))]) := by
 unfold oneS
 rw [if_neg h, if_neg k, List.idxOf_append, if_neg k]
 simp
abbrev Whole := List (List Itm) × List (List (Int × Int))
noncomputable def rnd (G : Gram) (top : Nat) (q : Whole) : Whole :=
 match q.1[q.2.length]? with
 | none => q
 | some L => ((zCV G (clL G L) top (q.1, [])).1, q.2 ++ [(zCV G (clL G L) top (q.1, [])).2])
noncomputable def runs (G : Gram) (top : Nat) : Nat -> Whole
 | 0 => ([[((G.rules.length : Int), 0)]], [])
 | n + 1 => rnd G top (runs G top n)
theorem zIZ {G : Gram} {top : Nat} {q : Whole} (h : q.2.length < q.1.length) : rnd G top q = ((zCV G (clL G q.1[q.2.length]) top (q.1, [])).1, q.2 ++ [(zCV G (clL G q.1[q.2.length]) top (q.1, [])).2]) := by
 unfold rnd
 rw [List.getElem?_eq_getElem h]
noncomputable def zAm (G : Gram) (ks : List (List Itm)) (c : List Itm) (n : Nat) : List (Int × Int) :=
 (List.range n).filterMap fun i => if stL G c ((i + 1 : Nat) : Int) = [] then none else some (((i + 1 : Nat) : Int), (ks.idxOf (stL G c ((i + 1 : Nat) : Int)) : Int))
theorem zAr (G : Gram) (ks : List (List Itm)) (c : List Itm) (n : Nat) : zAm G ks c (n + 1) = zAm G ks c n ++ (if stL G c ((n + 1 : Nat) : Int) = [] then [] else [(((n + 1 : Nat) : Int), (ks.idxOf (stL G c ((n + 1 : Nat) : Int)) : Int))]) := by
 unfold zAm
 rw [List.range_succ, List.filterMap_append]
 congr 1
 by_cases h : stL G c ((n + 1 : Nat) : Int) = []
 ·simp only [List.filterMap_cons, List.filterMap_nil, if_pos h]
 ·simp only [List.filterMap_cons, List.filterMap_nil, if_neg h]
theorem zEL {G : Gram} {ks : List (List Itm)} {c : List Itm} {n : Nat} (more : List (List Itm)) (h : ∀ i, i < n -> stL G c ((i + 1 : Nat) : Int) ≠ [] -> stL G c ((i + 1 : Nat) : Int) ∈ ks) : zAm G (ks ++ more) c n = zAm G ks c n := by
 induction n with
 | zero => rfl
 | succ n ih =>
  rw [zAr, zAr, ih fun i hi => h i (by omega)]
  by_cases k : stL G c ((n + 1 : Nat) : Int) = []
  ·rw [if_pos k, if_pos k]
  ·rw [if_neg k, if_neg k, List.idxOf_append, if_pos (h n (by omega) k)]
structure HalfOk (G : Gram) (c : List Itm) (ks : List (List Itm)) (n : Nat) (p : Half) : Prop where
 front : ∃ more, p.1 = ks ++ more /\ ∀ k ∈ more, ∃ i, i < n /\ k = stL G c ((i + 1 : Nat) : Int) /\ k ≠ []
 nodup : p.1.Nodup
 here : ∀ i, i < n -> stL G c ((i + 1 : Nat) : Int) ≠ [] -> stL G c ((i + 1 : Nat) : Int) ∈ p.1
 trans : p.2 = zAm G p.1 c n
theorem HalfOk.start {G : Gram} {c : List Itm} {ks : List (List Itm)} (h : ks.Nodup) : HalfOk G c ks 0 (ks, []) :=
 ⟨⟨[], by simp, fun k hk => by cases hk⟩, h, fun i hi => by omega, rfl⟩
theorem HalfOk.next {G : Gram} {c : List Itm} {ks : List (List Itm)} {n : Nat} {p : Half} (h : HalfOk G c ks n p) : HalfOk G c ks (n + 1) (oneS G c (n + 1) p) := by
 obtain ⟨more, e, hm⟩ := h.front
 by_cases h0 : stL G c ((n + 1 : Nat) : Int) = []
 ·rw [zGk h0]
  refine ⟨⟨more, e, fun k hk => ?_⟩, h.nodup, fun i hi hn => ?_, ?_⟩
  ·obtain ⟨i, h1, h2⟩ := hm k hk
   exact ⟨i, by omega, h2⟩
  ·by_cases q : i = n
   ·subst q
    exact absurd h0 hn
   ·exact h.here i (by omega) hn
  ·rw [zAr, if_pos h0, List.append_nil]
   exact h.trans
 ·by_cases h1 : stL G c ((n + 1 : Nat) : Int) ∈ p.1
  ·rw [zN5 h0 h1]
   refine ⟨⟨more, e, fun k hk => ?_⟩, h.nodup, fun i hi hn => ?_, ?_⟩
   ·obtain ⟨i, h1, h2⟩ := hm k hk
    exact ⟨i, by omega, h2⟩
   ·by_cases q : i = n
    ·subst q
     exact h1
    ·exact h.here i (by omega) hn
   ·rw [zAr, if_neg h0, ← h.trans]
  ·rw [zN4 h0 h1]
   refine ⟨⟨more ++ [stL G c ((n + 1 : Nat) : Int)], by dsimp only; rw [e, List.append_assoc], fun k hk => ?_⟩, ?_, fun i hi hn => ?_, ?_⟩
   ·rcases List.mem_append.1 hk with hk | hk
    ·obtain ⟨i, h1, h2⟩ := hm k hk
     exact ⟨i, by omega, h2⟩
    ·rw [List.mem_singleton] at hk
     exact ⟨n, by omega, hk, by rw [hk]; exact h0⟩
   ·dsimp only
    rw [List.nodup_append]
    refine ⟨h.nodup, by simp, fun x hx y hy q => ?_⟩
    rw [List.mem_singleton] at hy
    subst hy
    subst q
    exact h1 hx
   ·by_cases q : i = n
    ·subst q
     exact List.mem_append.2 (.inr (List.mem_singleton.2 rfl))
    ·exact List.mem_append.2 (.inl (h.here i (by omega) hn))
   ·dsimp only
    rw [zAr, if_neg h0, zEL _ h.here, ← h.trans, List.idxOf_append, if_neg h1]
    simp
theorem zFV {G : Gram} {c : List Itm} {ks : List (List Itm)} (h : ks.Nodup) : ∀ n, HalfOk G c ks n (zCV G c n (ks, []))
 | 0 => .start h
 | n + 1 => (zFV h n).next
end Au
namespace Au
open Gr (Gram)
open Im
def zAF (ks : List (List Itm)) (i : Nat) : List Itm := ks.getD i []
theorem zAq {ks more : List (List Itm)} {i : Nat} (h : i < ks.length) : zAF (ks ++ more) i = zAF ks i := by
 unfold zAF
 rw [List.getD_eq_getElem?_getD, List.getD_eq_getElem?_getD, List.getElem?_append_left h]
theorem zA8 {ks : List (List Itm)} {i : Nat} (h : i < ks.length) : zAF ks i = ks[i] := by
 unfold zAF
 rw [List.getD_eq_getElem?_getD, List.getElem?_eq_getElem h]
 rfl
theorem zAf {ks : List (List Itm)} {i : Nat} (h : i < ks.length) : zAF ks i ∈ ks := by
 rw [zA8 h]
 exact List.getElem_mem h
theorem zO6 {ks : List (List Itm)} {k : List Itm} (h : k ∈ ks) : ks.idxOf k < ks.length /\ zAF ks (ks.idxOf k) = k := by
 have h1 := List.idxOf_lt_length_of_mem h
 refine ⟨h1, ?_⟩
 rw [zA8 h1]
 exact List.getElem_idxOf h1
structure WholeOk (G : Gram) (top : Nat) (q : Whole) : Prop where
 le : q.2.length <= q.1.length
 pos : 0 < q.1.length
 nodup : q.1.Nodup
 zero : zAF q.1 0 = [((G.rules.length : Int), 0)]
 good : ∀ k ∈ q.1, k ≠ [] /\ Srt k /\ ∀ x ∈ k, zAG G x = true
 trans : ∀ i, i < q.2.length -> q.2.getD i [] = zAm G q.1 (clL G (zAF q.1 i)) top
 here : ∀ i, i < q.2.length -> ∀ s, s < top -> stL G (clL G (zAF q.1 i)) ((s + 1 : Nat) : Int) ≠ [] -> stL G (clL G (zAF q.1 i)) ((s + 1 : Nat) : Int) ∈ q.1
 early : ∀ t, 0 < t -> t < q.1.length -> ∃ i s, i < t /\ i < q.2.length /\ s < top /\ zAF q.1 t = stL G (clL G (zAF q.1 i)) ((s + 1 : Nat) : Int)
theorem WholeOk.start (G : Gram) (top : Nat) : WholeOk G top (runs G top 0) := by
 refine ⟨by simp [runs], by simp [runs], by simp [runs], rfl, fun k hk => ?_, fun i hi => by simp [runs] at hi, fun i hi => by simp [runs] at hi, fun t h1 h2 => ?_⟩
 ·simp only [runs, List.mem_singleton] at hk
  subst hk
  refine ⟨by simp, zEJ _, fun x hx => ?_⟩
  rw [List.mem_singleton] at hx
  subst hx
  exact zAv (Nat.le_refl _)
 ·simp only [runs, List.length_cons, List.length_nil] at h2
  omega
theorem WholeOk.next {G : Gram} {top : Nat} {q : Whole} (h : WholeOk G top q) : WholeOk G top (rnd G top q) := by
 by_cases hq : q.2.length < q.1.length
 ·rw [zIZ hq, ← zA8 hq]
  have H := zFV (G := G) (c := clL G (zAF q.1 q.2.length)) h.nodup top
  generalize zCV G (clL G (zAF q.1 q.2.length)) top (q.1, []) = p at H
  obtain ⟨more, e, hm⟩ := H.front
  have hl : q.1.length <= p.1.length := by rw [e, List.length_append]; omega
  refine ⟨by dsimp only; rw [List.length_append]; simp; omega, by have := h.pos; dsimp only; omega, H.nodup, ?_, fun k hk => ?_, fun i hi => ?_, fun i hi s hs hn => ?_, fun t h1 h2 => ?_⟩
  ·dsimp only
   rw [e, zAq h.pos]
   exact h.zero
  ·dsimp only at hk
   rw [e] at hk
   rcases List.mem_append.1 hk with hk | hk
   ·exact h.good k hk
   ·obtain ⟨i, _, h1, h2⟩ := hm k hk
    have hs := zD2 G (clL G (zAF q.1 q.2.length)) ((i + 1 : Nat) : Int)
    rw [← h1] at hs
    exact ⟨h2, hs.1, fun x hx => (zCR ((hs.2 x).1 hx)).1⟩
  ·dsimp only at hi ⊢
   rw [List.length_append, List.length_singleton] at hi
   by_cases k : i < q.2.length
   ·rw [List.getD_eq_getElem?_getD, List.getElem?_append_left k, ← List.getD_eq_getElem?_getD, h.trans i k, e, zAq (by omega), zEL more fun s hs hn => h.here i k s hs hn]
   ·obtain rfl : i = q.2.length := by omega
    rw [List.getD_eq_getElem?_getD, List.getElem?_append_right (Nat.le_refl _)]
    simp only [Nat.sub_self, List.getElem?_cons_zero, Option.getD_some]
    rw [H.trans, show zAF p.1 q.2.length = zAF q.1 q.2.length from by rw [e, zAq hq]]
  ·dsimp only at hi hn ⊢
   rw [List.length_append, List.length_singleton] at hi
   have hi' : i < q.1.length := by omega
   rw [show zAF p.1 i = zAF q.1 i from by rw [e, zAq hi']] at hn ⊢
   by_cases k : i < q.2.length
   ·rw [e]
    exact List.mem_append.2 (.inl (h.here i k s hs hn))
   ·obtain rfl : i = q.2.length := by omega
    exact H.here s hs hn
  ·dsimp only at h2 ⊢
   by_cases k : t < q.1.length
   ·obtain ⟨i, s, a1, a2, a3, a4⟩ := h.early t h1 k
    refine ⟨i, s, a1, by rw [List.length_append]; omega, a3, ?_⟩
    rw [e, zAq k, zAq (by omega)]
    exact a4
   ·have hmem : zAF p.1 t ∈ more := by
     rw [zA8 h2]
     simp only [e, List.getElem_append_right (Nat.le_of_not_lt k)]
     exact List.getElem_mem _
    obtain ⟨s, a1, a2, _⟩ := hm _ hmem
    refine ⟨q.2.length, s, by omega, by rw [List.length_append]; simp, a1, ?_⟩
    rw [a2, e, zAq hq]
 ·unfold rnd
  rw [List.getElem?_eq_none (by omega)]
  exact h
theorem zEH (G : Gram) (top : Nat) : ∀ n, WholeOk G top (runs G top n)
 | 0 => .start G top
 | n + 1 => (zEH G top n).next
theorem zQb {G : Gram} {top : Nat} {q : Whole} (h : q.2.length < q.1.length) : (rnd G top q).2.length = q.2.length + 1 := by
 rw [zIZ h]
 simp
theorem zIe {G : Gram} {top : Nat} : ∀ {n : Nat}, (∀ m, m < n -> (runs G top m).2.length < (runs G top m).1.length) -> (runs G top n).2.length = n
 | 0, _ => rfl
 | n + 1, h => by
  show (rnd G top (runs G top n)).2.length = n + 1
  rw [zQb (h n (by omega)), zIe fun m hm => h m (by omega)]
theorem zAj {G : Gram} {ks : List (List Itm)} {c : List Itm} {n : Nat} {s t : Int} : (s, t) ∈ zAm G ks c n ↔ ∃ i, i < n /\ s = ((i + 1 : Nat) : Int) /\ stL G c s ≠ [] /\ t = (ks.idxOf (stL G c s) : Int) := by
 unfold zAm
 rw [List.mem_filterMap]
 constructor
 ·rintro ⟨i, hi, h⟩
  split at h
  ·cases h
  ·rename_i hn
   injection h with h
   injection h with h1 h2
   subst h1
   exact ⟨i, List.mem_range.1 hi, rfl, hn, h2.symm⟩
 ·rintro ⟨i, hi, rfl, hn, rfl⟩
  exact ⟨i, List.mem_range.2 hi, if_neg hn⟩
def leads (tr : List (Int × Int)) (s : Int) : Int := ((tr.find? fun x => decide (x.1 = s)).map (·.2)).getD (-1)
theorem zD6 {G : Gram} {ks : List (List Itm)} {c : List Itm} {n i : Nat} (hi : i < n) (hn : stL G c ((i + 1 : Nat) : Int) ≠ []) : leads (zAm G ks c n) ((i + 1 : Nat) : Int) = (ks.idxOf (stL G c ((i + 1 : Nat) : Int)) : Int) := by
 unfold leads
 have key : ∀ x ∈ zAm G ks c n, decide (x.1 = ((i + 1 : Nat) : Int)) = true -> x.2 = (ks.idxOf (stL G c ((i + 1 : Nat) : Int)) : Int) := by
  rintro ⟨s, t⟩ hx hd
  obtain ⟨j, hj, h1, h2, h3⟩ := zAj.1 hx
  have hd' : s = ((i + 1 : Nat) : Int) := of_decide_eq_true hd
  dsimp only
  rw [← hd']
  exact h3
 have hm : ((((i + 1 : Nat) : Int), (ks.idxOf (stL G c ((i + 1 : Nat) : Int)) : Int)) : Int × Int) ∈ zAm G ks c n := zAj.2 ⟨i, hi, rfl, hn, rfl⟩
 cases hf : (zAm G ks c n).find? fun x => decide (x.1 = ((i + 1 : Nat) : Int)) with
 | none =>
  have := List.find?_eq_none.1 hf _ hm
  simp at this
 | some x => exact key x (List.mem_of_find?_eq_some hf) (List.find?_some (p := fun x : Int × Int => decide (x.1 = ((i + 1 : Nat) : Int))) hf)
end Au
namespace Au
open Gr (Gram checkN zAT zAB zAN top zAW zAb zAU zAM)
open Im
def Stop (q : Whole) : Prop := 2000 < q.1.length \/ q.2.length = q.1.length
def zDQ (G : Gram) (n : Nat) : Prop := Stop (runs G (top G) n) /\ ∀ m, m < n -> ¬ Stop (runs G (top G) m)
theorem zDQ.uniq {G : Gram} {n m : Nat} (h : zDQ G n) (k : zDQ G m) : n = m := by
 rcases Nat.lt_trichotomy n m with q | q | q
 ·exact absurd h.1 (k.2 n q)
 ·exact q
 ·exact absurd k.1 (h.2 m q)
theorem zAy {G : Gram} (hv : checkN G = 0) {r : Int} (hr : zAN G r = true) {d : Nat} (hd : d < (zAB G r).2.length) : 1 <= (zAB G r).2[d] /\ (zAB G r).2[d] <= (top G : Int) := by
 have hk := (zAT hv).2.2.2.1
 have hb : 0 <= r /\ r <= (G.rules.length : Int) := by
  unfold zAN at hr
  exact of_decide_eq_true hr
 obtain ⟨i, rfl⟩ := Int.eq_ofNat_of_zero_le hb.1
 simp only [zAW, Bool.and_eq_true, List.all_eq_true, decide_eq_true_eq] at hk
 by_cases e : i = G.rules.length
 ·subst e
  have h2 := (zAU G).2
  have h3 := zAM.1 hk.1
  have e1 : (zAB G ((G.rules.length : Nat) : Int)).2 = [G.start] := by rw [h2]
  have e0 : (zAB G ((G.rules.length : Nat) : Int)).2[d] = G.start := by
   have : d = 0 := by rw [e1] at hd; simp at hd; omega
   subst this
   simp only [e1, List.getElem_cons_zero]
  rw [e0]
  unfold top
  omega
 ·have hi : i < G.rules.length := by omega
  have h2 := (zAb hi).2
  have hm := (hk.2 _ (List.getElem_mem hi)).2
  have hin : (zAB G (i : Int)).2[d] ∈ (zAB G (i : Int)).2 := List.getElem_mem hd
  have e1 : (zAB G (i : Int)).2 = (G.rules[i]).2 := by rw [h2]
  rw [← e1] at hm
  exact hm _ hin
theorem zBL {G : Gram} {r : Int} {d : Nat} (hr : zAN G r = true) (hd : d < (zAB G r).2.length) : behB G (r, (d : Int)) = true /\ behV G (r, (d : Int)) = (zAB G r).2[d] := by
 have hb : behB G (r, (d : Int)) = true := by
  rw [zAa]
  refine ⟨?_, by unfold rlen; dsimp only; omega⟩
  unfold zAG rlen
  rw [hr, Bool.true_and, decide_eq_true_iff]
  dsimp only
  omega
 refine ⟨hb, ?_⟩
 unfold behV
 rw [if_pos hb]
 simp [hd]
def zHC (G : Gram) (s : Int) (x : Itm) : Prop := zAN G x.1 = true /\ 1 <= x.2 /\ x.2 <= (rlen G x.1 : Int) /\ (zAB G x.1).2.getD (x.2 - 1).toNat 0 = s
theorem zHo {G : Gram} {L : List Itm} {s : Int} {x : Itm} (h : zJ4 G L s x) : zHC G s x := by
 obtain ⟨y, _, h1, h2, rfl⟩ := h
 obtain ⟨h3, h4⟩ := zAa.1 h1
 obtain ⟨h5, h6⟩ := zAK.1 h3
 refine ⟨?_, by dsimp only; omega, by dsimp only; omega, ?_⟩
 ·unfold zAN
  exact decide_eq_true h5
 ·unfold behV at h2
  rw [if_pos h1] at h2
  dsimp only
  rw [show (y.2 + 1 - 1).toNat = y.2.toNat from by congr 1; omega]
  exact h2
structure Done (G : Gram) (q : Whole) : Prop where
 ok : WholeOk G (top G) q
 all : q.2.length = q.1.length
theorem Done.to {G : Gram} {q : Whole} (h : Done G q) {k : Nat} (hk : k < q.1.length) {s t : Int} (hm : (s, t) ∈ q.2.getD k []) : ∃ n : Nat, t = (n : Int) /\ n < q.1.length /\ zAF q.1 n = stL G (clL G (zAF q.1 k)) s := by
 have hl : k < q.2.length := by rw [h.all]; exact hk
 rw [h.ok.trans k hl] at hm
 obtain ⟨i, hi, rfl, hn, rfl⟩ := zAj.1 hm
 have := zO6 (h.ok.here k hl i hi hn)
 exact ⟨_, rfl, this.1, this.2⟩
theorem Done.enters {G : Gram} {q : Whole} (h : Done G q) {k : Nat} (hk : k < q.1.length) {s t : Int} (hm : (s, t) ∈ q.2.getD k []) : ∃ n : Nat, t = (n : Int) /\ n < q.1.length /\ ∀ x ∈ zAF q.1 n, zHC G s x := by
 obtain ⟨n, h1, h2, h3⟩ := h.to hk hm
 refine ⟨n, h1, h2, fun x hx => ?_⟩
 rw [h3] at hx
 exact zHo (((zD2 _ _ _).2 x).1 hx)
theorem Done.early {G : Gram} {q : Whole} (h : Done G q) {t : Nat} (h0 : 0 < t) (ht : t < q.1.length) : ∃ k s, k < t /\ (s, (t : Int)) ∈ q.2.getD k [] := by
 obtain ⟨k, i, h1, h2, h3, h4⟩ := h.ok.early t h0 ht
 refine ⟨k, ((i + 1 : Nat) : Int), h1, ?_⟩
 rw [h.ok.trans k h2]
 refine zAj.2 ⟨i, h3, rfl, ?_, ?_⟩
 ·rw [← h4]
  exact (h.ok.good _ (zAf ht)).1
 ·rw [← h4, zA8 ht]
  congr 1
  exact (h.ok.nodup.idxOf_getElem t ht).symm
theorem Done.some {G : Gram} {q : Whole} (h : Done G q) {t : Nat} (ht : t < q.1.length) : zAF q.1 t ≠ [] := (h.ok.good _ (zAf ht)).1
def zKn (n : Nat) (ts : List (List (Int × Int))) (i s : Int) : Int := if 0 <= i /\ i < (n : Int) then leads (ts.getD i.toNat []) s else -1
def zDW (n : Nat) (ts : List (List (Int × Int))) (i : Int) : List Int -> Int
 | [] => if 0 <= i /\ i < (n : Int) then i else -1
 | s :: way => if 0 <= i /\ i < (n : Int) then zDW n ts (zKn n ts i s) way else -1
theorem walk_nil {n : Nat} {ts : List (List (Int × Int))} {i : Nat} (h : i < n) : zDW n ts (i : Int) [] = (i : Int) := by
 unfold zDW
 rw [if_pos ⟨by omega, by omega⟩]
theorem zMd {n : Nat} {ts : List (List (Int × Int))} {i : Nat} (h : i < n) (s : Int) (way : List Int) : zDW n ts (i : Int) (s :: way) = zDW n ts (leads (ts.getD i []) s) way := by
 show (if 0 <= (i : Int) /\ (i : Int) < (n : Int) then zDW n ts (zKn n ts i s) way else -1) = _
 rw [if_pos ⟨by omega, by omega⟩]
 unfold zKn
 rw [if_pos ⟨by omega, by omega⟩, Int.toNat_natCast]
theorem Done.one {G : Gram} {q : Whole} (h : Done G q) (hv : checkN G = 0) {i : Nat} (hi : i < q.1.length) {r : Int} {d : Nat} (hr : zAN G r = true) (hd : d < (zAB G r).2.length) (hx : (r, (d : Int)) ∈ clL G (zAF q.1 i)) :
  ∃ j : Nat, j < q.1.length /\ leads (q.2.getD i []) (zAB G r).2[d] = (j : Int) /\ (r, ((d + 1 : Nat) : Int)) ∈ zAF q.1 j := by
 obtain ⟨b1, b2⟩ := zBL hr hd
 obtain ⟨s1, s2⟩ := zAy hv hr hd
 have hl : i < q.2.length := by rw [h.all]; exact hi
 obtain ⟨m, hm⟩ := Int.eq_ofNat_of_zero_le (show 0 <= (zAB G r).2[d] - 1 by omega)
 have hs : (zAB G r).2[d] = ((m + 1 : Nat) : Int) := by omega
 have hmt : m < top G := by omega
 have hst : (r, ((d + 1 : Nat) : Int)) ∈ stL G (clL G (zAF q.1 i)) ((m + 1 : Nat) : Int) := ((zD2 _ _ _).2 _).2 ⟨(r, (d : Int)), hx, b1, by rw [b2, hs], by simp⟩
 have hn : stL G (clL G (zAF q.1 i)) ((m + 1 : Nat) : Int) ≠ [] := fun e => by rw [e] at hst; cases hst
 have hin := zO6 (h.ok.here i hl m hmt hn)
 refine ⟨_, hin.1, ?_, by rw [hin.2]; exact hst⟩
 rw [hs, h.ok.trans i hl, zD6 hmt hn]
theorem Done.way {G : Gram} {q : Whole} (h : Done G q) (hv : checkN G = 0) {r : Int} (hr : zAN G r = true) : ∀ (m d : Nat) (i : Nat), d + m = (zAB G r).2.length -> i < q.1.length -> (r, (d : Int)) ∈ clL G (zAF q.1 i) -> (0 < m \/ (r, (d : Int)) ∈ zAF q.1 i) ->
  ∃ j : Nat, j < q.1.length /\ zDW q.1.length q.2 (i : Int) ((zAB G r).2.drop d) = (j : Int) /\ (r, ((zAB G r).2.length : Int)) ∈ zAF q.1 j
 | 0, d, i, e, hi, _, hx => by
  have hx' : (r, (d : Int)) ∈ zAF q.1 i := by
   rcases hx with q | q
   ·omega
   ·exact q
  have hd : d = (zAB G r).2.length := by omega
  refine ⟨i, hi, ?_, by rw [← hd]; exact hx'⟩
  rw [hd, List.drop_length, walk_nil hi]
 | m + 1, d, i, e, hi, hx, _ => by
  have hd : d < (zAB G r).2.length := by omega
  obtain ⟨j, h1, h2, h3⟩ := h.one hv hi hr hd hx
  have hcl : (r, ((d + 1 : Nat) : Int)) ∈ clL G (zAF q.1 j) := ((zEY _ _).2 _).2 (.of h3 ((h.ok.good _ (zAf h1)).2.2 _ h3))
  obtain ⟨k, k1, k2, k3⟩ := Done.way h hv hr m (d + 1) j (by omega) h1 hcl (.inr h3)
  refine ⟨k, k1, ?_, k3⟩
  rw [List.drop_eq_getElem_cons hd, zMd hi, h2]
  exact k2
theorem Done.spells {G : Gram} {q : Whole} (h : Done G q) (hv : checkN G = 0) {i : Nat} (hi : i < q.1.length) {r : Int} (hr : zAN G r = true) (h0 : (zAB G r).2.length ≠ 0) (hx : (r, 0) ∈ clL G (zAF q.1 i)) :
  ∃ j : Nat, j < q.1.length /\ zDW q.1.length q.2 (i : Int) (zAB G r).2 = (j : Int) /\ (r, ((zAB G r).2.length : Int)) ∈ zAF q.1 j :=
 h.way hv hr _ 0 i (Nat.zero_add _) hi hx (.inl (by omega))
def states (q : Whole) : List (List Itm × List (Int × Int)) := q.1.zip q.2
theorem zBJ {q : Whole} (h : q.2.length = q.1.length) : (states q).length = q.1.length := by
 unfold states
 rw [List.length_zip, h, Nat.min_self]
theorem zCF {q : Whole} (h : q.2.length = q.1.length) {i : Nat} (hi : i < q.1.length) : (states q)[i]? = some (zAF q.1 i, q.2.getD i []) := by
 unfold states
 rw [List.getElem?_zip_eq_some]
 have hi2 : i < q.2.length := by omega
 refine ⟨?_, ?_⟩
 ·rw [List.getElem?_eq_getElem hi, zA8 hi]
 ·rw [List.getElem?_eq_getElem hi2, List.getD_eq_getElem?_getD, List.getElem?_eq_getElem hi2]
  rfl
theorem zDQ.done {G : Gram} {n : Nat} (h : zDQ G n) (k : ¬ 2000 < (runs G (top G) n).1.length) : Done G (runs G (top G) n) :=
 ⟨zEH G (top G) n, h.1.resolve_left k⟩
inductive Built (G : Gram) : Int -> List (List Itm × List (Int × Int)) -> Prop
 | bad : checkN G ≠ 0 -> Built G (checkN G) []
 | many {n : Nat} : checkN G = 0 -> zDQ G n -> 2000 < (runs G (top G) n).1.length -> Built G 7 []
 | all {n : Nat} : checkN G = 0 -> zDQ G n -> ¬ 2000 < (runs G (top G) n).1.length -> Built G 0 (states (runs G (top G) n))
theorem Built.uniq {G : Gram} {e f : Int} {X Y : List (List Itm × List (Int × Int))} (h : Built G e X) (k : Built G f Y) : e = f /\ X = Y := by
 cases h with
 | bad h1 =>
  cases k with
  | bad _ => exact ⟨rfl, rfl⟩
  | many k1 _ _ => exact absurd k1 h1
  | all k1 _ _ => exact absurd k1 h1
 | many h1 h2 h3 =>
  cases k with
  | bad k1 => exact absurd h1 k1
  | many _ _ _ => exact ⟨rfl, rfl⟩
  | all _ k2 k3 =>
   rw [h2.uniq k2] at h3
   exact absurd h3 k3
 | all h1 h2 h3 =>
  cases k with
  | bad k1 => exact absurd h1 k1
  | many _ k2 k3 =>
   rw [h2.uniq k2] at h3
   exact absurd k3 h3
  | all _ k2 _ =>
   rw [h2.uniq k2]
   exact ⟨rfl, rfl⟩
def zGz (G : Gram) (n : Nat) : Prop := ∀ m, m < n -> ¬ Stop (runs G (top G) m)
theorem zI7 (G : Gram) : zGz G 0 := fun m h => absurd h (Nat.not_lt_zero m)
theorem zGz.next {G : Gram} {n : Nat} (h : zGz G n) (k : ¬ Stop (runs G (top G) n)) : zGz G (n + 1) := fun m hm => by
 by_cases e : m = n
 ·rw [e]
  exact k
 ·exact h m (by omega)
theorem zGz.stop {G : Gram} {n : Nat} (h : zGz G n) (k : Stop (runs G (top G) n)) : zDQ G n := ⟨k, h⟩
theorem zGz.len {G : Gram} {n : Nat} (h : zGz G n) : (runs G (top G) n).2.length = n := zIe fun m hm => by
 have h1 := h m hm
 have h2 := (zEH G (top G) m).le
 unfold Stop at h1
 omega
