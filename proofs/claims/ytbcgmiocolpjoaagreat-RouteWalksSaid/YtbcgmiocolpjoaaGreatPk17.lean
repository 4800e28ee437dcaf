/- A part of the proof. -/
import Derived.Test.YtbcgmiocolpjoaaGreatPk16
set_option linter.unusedVariables false
namespace Go.Proofs.YtbcgmiocolpjoaaGreat
namespace Im
open Gr (Gram checkN zAk zA7 zCL zAY ofN zDJ zBp zBP)
theorem zCN {G : Gram} (h : zA7 G = false) : G.rules.length <= 300 /\ ∀ r ∈ G.rules, r.2.length <= 8 := by
 unfold zA7 at h
 simp only [Bool.or_eq_false_iff, decide_eq_false_iff_not, List.any_eq_false, decide_eq_true_eq] at h
 exact ⟨by omega, fun r hr => by have := h.2 r hr; omega⟩
theorem zEJ {G : Gram} (h : checkN G = 0) {r : Nat} (hr : r <= G.rules.length) : rlen G (r : Int) <= 8 := by
 have hm := zCN (zAk h).1
 unfold rlen
 by_cases e : r = G.rules.length
 ·subst e
  rw [(zBP G).2]
  simp
 ·have hr' : r < G.rules.length := by omega
  rw [(zBp hr').2]
  exact hm.2 _ (List.getElem_mem hr')
theorem zAZ {G : Gram} (h : checkN G = 0) : (allI G).length <= 2709 := by
 have h1 := zMl (G := G) (B := 8) fun r hr => zEJ h hr
 have h2 := (zCN (zAk h).1).1
 have h3 : (G.rules.length + 1) * (8 + 1) <= 301 * 9 := Nat.mul_le_mul (by omega) (by omega)
 omega
theorem zBd {G : Gram} (h : checkN G = 0) {x : Itm} (hx : zAD G x = true) : 0 <= x.1 /\ x.1 <= 300 /\ 0 <= x.2 /\ x.2 <= 8 := by
 obtain ⟨⟨h1, h2⟩, h3, h4⟩ := zAc.1 hx
 have hm := (zCN (zAk h).1).1
 obtain ⟨r, hr⟩ := Int.eq_ofNat_of_zero_le h1
 have := zEJ h (r := r) (by omega)
 rw [hr] at h4
 omega
theorem zHY {n : Int} (h : -1000 <= n) (k : n <= 1000) : (Lit.int .i64 n).wf = true := by
 simp only [Lit.wf, IntKind.min, IntKind.max, IntKind.signed, IntKind.bits, Bool.and_eq_true, decide_eq_true_eq, if_true]
 omega
theorem zBo {G : Gram} (h : checkN G = 0) {x : Itm} (hx : zAD G x = true) : W64 x := by
 have := zBd h hx
 exact ⟨zHY (by omega) (by omega), zHY (by omega) (by omega)⟩
theorem zJW {G : Gram} (h : checkN G = 0) : ofN G 0 = [] := by
 rw [List.eq_nil_iff_forall_not_mem]
 intro r hr
 obtain ⟨h1, h2⟩ := zDJ.1 hr
 have := zAY.1 (zCL (zAk h).2.2.2.1 h1)
 omega
theorem zLQ {G : Gram} (h : checkN G = 0) {x : Itm} (hx : ¬ behB G x = true) : ofN G (behV G x) = [] := by
 unfold behV
 rw [if_neg hx]
 exact zJW h
theorem zIo {G : Gram} {x y z : Itm} (h : Clo G [x] y) (k : Clo G [y] z) : Clo G [x] z := by
 induction k with
 | of h1 h2 =>
  rw [List.mem_singleton] at h1
  subst h1
  exact h
 | next _ h2 h3 ih => exact .next ih h2 h3
theorem zGj {G : Gram} {x : Itm} (h : zAD G x = true) : Clo G [x] x := .of (List.mem_singleton.2 rfl) h
theorem zMu {G : Gram} {x : Itm} (h : zAD G x = true) {r : Nat} (hr : r ∈ ofN G (behV G x)) (hv : checkN G = 0) : Clo G [x] ((r : Int), 0) := by
 by_cases hb : behB G x = true
 ·exact .next (zGj h) hb hr
 ·rw [zLQ hv hb] at hr
  cases hr
structure Sprd (G : Gram) (X : Itm -> Prop) (x : Itm) (Y : Itm -> Prop) : Prop where
 old : ∀ y, X y -> Y y
 own : Y x
 new : ∀ y, Y y -> X y \/ Clo G [x] y
 shut : ∀ y, Y y -> ¬ X y -> ∀ r ∈ ofN G (behV G y), Y ((r : Int), 0)
theorem Sprd.none {G : Gram} {X Y : Itm -> Prop} {x : Itm} (h : X x) (e : ∀ y, Y y ↔ X y \/ y = x) : Sprd G X x Y := by
 have e' : ∀ y, Y y ↔ X y := fun y => (e y).trans ⟨fun k => k.elim id fun k => k ▸ h, .inl⟩
 exact ⟨fun y hy => (e' y).2 hy, (e' x).2 h, fun y hy => .inl ((e' y).1 hy), fun y hy hn => absurd ((e' y).1 hy) hn⟩
structure Part (G : Gram) (X : Itm -> Prop) (x : Itm) (K : List Nat) (j : Nat) (Z : Itm -> Prop) : Prop where
 old : ∀ y, X y -> Z y
 own : Z x
 new : ∀ y, Z y -> X y \/ Clo G [x] y
 kids : ∀ i (h : i < K.length), i < j -> Z ((K[i] : Int), 0)
 shut : ∀ y, Z y -> ¬ X y -> y ≠ x -> ∀ r ∈ ofN G (behV G y), Z ((r : Int), 0)
theorem Part.start {G : Gram} {X Z : Itm -> Prop} {x : Itm} {K : List Nat} (hr : zAD G x = true) (e : ∀ y, Z y ↔ X y \/ y = x) : Part G X x K 0 Z :=
 ⟨fun y hy => (e y).2 (.inl hy), (e x).2 (.inr rfl), fun y hy => ((e y).1 hy).imp id fun k => by rw [k]; exact zGj hr, fun i _ hi => by omega, fun y hy hn hne => absurd ((e y).1 hy) fun k => k.elim hn hne⟩
theorem Part.step {G : Gram} {X Z Y : Itm -> Prop} {x : Itm} {j : Nat} (hv : checkN G = 0) (hr : zAD G x = true) (p : Part G X x (ofN G (behV G x)) j Z) (hj : j < (ofN G (behV G x)).length) (s : Sprd G Z (((ofN G (behV G x))[j] : Int), 0) Y) : Part G X x (ofN G (behV G x)) (j + 1) Y := by
 refine ⟨fun y hy => s.old y (p.old y hy), s.old x p.own, fun y hy => ?_, fun i hi hij => ?_, fun y hy hn hne r hk => ?_⟩
 ·rcases s.new y hy with k | k
  ·exact p.new y k
  ·exact .inr (zIo (zMu hr (List.getElem_mem hj) hv) k)
 ·by_cases e : i = j
  ·subst e
   exact s.own
  ·exact s.old _ (p.kids i hi (by omega))
 ·rcases Classical.em (Z y) with k | k
  ·exact s.old _ (p.shut y k hn hne r hk)
  ·exact s.shut y hy k r hk
theorem Part.done {G : Gram} {X Z : Itm -> Prop} {x : Itm} (p : Part G X x (ofN G (behV G x)) (ofN G (behV G x)).length Z) : Sprd G X x Z := by
 refine ⟨p.old, p.own, p.new, fun y hy hn r hk => ?_⟩
 by_cases e : y = x
 ·subst e
  obtain ⟨i, hi, e⟩ := List.getElem_of_mem hk
  rw [← e]
  exact p.kids i hi hi
 ·exact p.shut y hy hn e r hk
theorem Part.right {G : Gram} {X Z : Itm -> Prop} {x : Itm} {K : List Nat} {j : Nat} (p : Part G X x K j Z) (h : ∀ y, X y -> zAD G y = true) (y : Itm) (hy : Z y) : zAD G y = true := (p.new y hy).elim (h y) zBD
structure Way (G : Gram) (L : List Itm) (Lf Z : Itm -> Prop) : Prop where
 sub : ∀ y, Z y -> Clo G L y
 met : ∀ y, y ∈ L -> zAD G y = true -> ¬ Lf y -> Z y
 shut : ∀ y, Z y -> ∀ r ∈ ofN G (behV G y), Z ((r : Int), 0)
theorem Way.start {G : Gram} {L : List Itm} {X Z : Itm -> Prop} (hX : ∀ y, y ∈ L -> zAD G y = true -> X y) (hz : ∀ y, ¬ Z y) : Way G L X Z :=
 ⟨fun y hy => absurd hy (hz y), fun y h1 h2 h3 => absurd (hX y h1 h2) h3, fun y hy => absurd hy (hz y)⟩
theorem Way.step {G : Gram} {L : List Itm} {Lf Z Y : Itm -> Prop} {x : Itm} (p : Way G L Lf Z) (hx : x ∈ L) (hr : zAD G x = true) (s : Sprd G Z x Y) : Way G L (fun y => Lf y /\ y ≠ x) Y := by
 refine ⟨fun y hy => ?_, fun y h1 h2 h3 => ?_, fun y hy r hk => ?_⟩
 ·rcases s.new y hy with k | k
  ·exact p.sub y k
  ·exact zK4 (fun z hz => by rw [List.mem_singleton] at hz; rw [hz]; exact hx) k
 ·by_cases e : y = x
  ·rw [e]
   exact s.own
  ·exact s.old y (p.met y h1 h2 fun k => h3 ⟨k, e⟩)
 ·rcases Classical.em (Z y) with k | k
  ·exact s.old _ (p.shut y k r hk)
  ·exact s.shut y hy k r hk
theorem Way.done {G : Gram} {L : List Itm} {Lf Z : Itm -> Prop} (p : Way G L Lf Z) (h : ∀ y, y ∈ L -> zAD G y = true -> ¬ Lf y) (y : Itm) : Z y ↔ Clo G L y := by
 refine ⟨p.sub y, fun k => ?_⟩
 induction k with
 | of h1 h2 => exact p.met _ h1 h2 (h _ h1 h2)
 | next _ h2 h3 ih => exact p.shut _ ih _ h3
theorem Way.right {G : Gram} {L : List Itm} {Lf Z : Itm -> Prop} (p : Way G L Lf Z) (y : Itm) (hy : Z y) : zAD G y = true := zBD (p.sub y hy)
end Im
namespace Au
open Gr (Gram)
open Im
theorem zNr (G : Gram) : Srt (allI G) := by
 unfold Srt allI
 rw [List.pairwise_flatMap]
 refine ⟨fun r _ => ?_, ?_⟩
 ·rw [List.pairwise_map]
  refine List.pairwise_lt_range.imp fun {a b} h => ?_
  refine .inr ⟨rfl, ?_⟩
  dsimp only
  omega
 ·refine List.pairwise_lt_range.imp fun {a b} h => ?_
  intro x hx y hy
  obtain ⟨_, _, rfl⟩ := List.mem_map.1 hx
  obtain ⟨_, _, rfl⟩ := List.mem_map.1 hy
  refine .inl ?_
  dsimp only
  omega
open Classical in
noncomputable def zLs (G : Gram) (P : Itm -> Prop) : List Itm := (allI G).filter fun x => decide (P x)
open Classical in
theorem zJK {G : Gram} {P : Itm -> Prop} (h : ∀ x, P x -> zAD G x = true) : Is (zLs G P) P := by
 refine ⟨(zNr G).sublist List.filter_sublist, fun x => ?_⟩
 unfold zLs
 rw [List.mem_filter]
 exact ⟨fun q => of_decide_eq_true q.2, fun q => ⟨zDI (h x q), decide_eq_true q⟩⟩
noncomputable def clL (G : Gram) (L : List Itm) : List Itm := zLs G (Clo G L)
noncomputable def stL (G : Gram) (L : List Itm) (s : Int) : List Itm := zLs G (zFC G L s)
theorem zFW (G : Gram) (L : List Itm) : Is (clL G L) (Clo G L) := zJK fun x => zBD
theorem zEm (G : Gram) (L : List Itm) (s : Int) : Is (stL G L s) (zFC G L s) := zJK fun x h => (zB2 h).1
abbrev Half := List (List Itm) × List (Int × Int)
noncomputable def oneS (G : Gram) (c : List Itm) (s : Nat) (p : Half) : Half :=
 if stL G c s = [] then p else (if stL G c s ∈ p.1 then p.1 else p.1 ++ [stL G c s], p.2 ++ [((s : Int), ((p.1 ++ [stL G c s]).idxOf (stL G c s) : Int))])
noncomputable def zAV (G : Gram) (c : List Itm) : Nat -> Half -> Half
 | 0, p => p
 | n + 1, p => oneS G c (n + 1) (zAV G c n p)
theorem zA9 (G : Gram) (c : List Itm) (n : Nat) (p : Half) : zAV G c (n + 1) p = oneS G c (n + 1) (zAV G c n p) := rfl
theorem zDN {G : Gram} {c : List Itm} {s : Nat} {p : Half} (h : stL G c s = []) : oneS G c s p = p := if_pos h
theorem zHB {G : Gram} {c : List Itm} {s : Nat} {p : Half} (h : stL G c s ≠ []) (k : stL G c s ∈ p.1) : oneS G c s p = (p.1, p.2 ++ [((s : Int), (p.1.idxOf (stL G c s) : Int))]) := by
 unfold oneS
 rw [if_neg h, if_pos k, List.idxOf_append, if_pos k]
theorem zHA {G : Gram} {c : List Itm} {s : Nat} {p : Half} (h : stL G c s ≠ []) (k : stL G c s ∉ p.1) : oneS G c s p = (p.1 ++ [stL G c s], p.2 ++ [((s : Int), (p.1.length : Int))]) := by
 unfold oneS
 rw [if_neg h, if_neg k, List.idxOf_append, if_neg k]
 simp
abbrev Whole := List (List Itm) × List (List (Int × Int))
noncomputable def rnd (G : Gram) (top : Nat) (q : Whole) : Whole :=
 match q.1[q.2.length]? with
 | none => q
 | some L => ((zAV G (clL G L) top (q.1, [])).1, q.2 ++ [(zAV G (clL G L) top (q.1, [])).2])
noncomputable def runs (G : Gram) (top : Nat) : Nat -> Whole
 | 0 => ([[((G.rules.length : Int), 0)]], [])
 | n + 1 => rnd G top (runs G top n)
theorem zFl {G : Gram} {top : Nat} {q : Whole} (h : q.2.length < q.1.length) : rnd G top q = ((zAV G (clL G q.1[q.2.length]) top (q.1, [])).1, q.2 ++ [(zAV G (clL G q.1[q.2.length]) top (q.1, [])).2]) := by
 unfold rnd
 rw [List.getElem?_eq_getElem h]
noncomputable def zAU (G : Gram) (ks : List (List Itm)) (c : List Itm) (n : Nat) : List (Int × Int) :=
 (List.range n).filterMap fun i => if stL G c ((i + 1 : Nat) : Int) = [] then none else some (((i + 1 : Nat) : Int), (ks.idxOf (stL G c ((i + 1 : Nat) : Int)) : Int))
theorem zAm (G : Gram) (ks : List (List Itm)) (c : List Itm) (n : Nat) : zAU G ks c (n + 1) = zAU G ks c n ++ (if stL G c ((n + 1 : Nat) : Int) = [] then [] else [(((n + 1 : Nat) : Int), (ks.idxOf (stL G c ((n + 1 : Nat) : Int)) : Int))]) := by
 unfold zAU
 rw [List.range_succ, List.filterMap_append]
 congr 1
 by_cases h : stL G c ((n + 1 : Nat) : Int) = []
 ·simp only [List.filterMap_cons, List.filterMap_nil, if_pos h]
 ·simp only [List.filterMap_cons, List.filterMap_nil, if_neg h]
theorem zDZ {G : Gram} {ks : List (List Itm)} {c : List Itm} {n : Nat} (more : List (List Itm)) (h : ∀ i, i < n -> stL G c ((i + 1 : Nat) : Int) ≠ [] -> stL G c ((i + 1 : Nat) : Int) ∈ ks) : zAU G (ks ++ more) c n = zAU G ks c n := by
 induction n with
 | zero => rfl
 | succ n ih =>
  rw [zAm, zAm, ih fun i hi => h i (by omega)]
  by_cases k : stL G c ((n + 1 : Nat) : Int) = []
  ·rw [if_pos k, if_pos k]
  ·rw [if_neg k, if_neg k, List.idxOf_append, if_pos (h n (by omega) k)]
structure HalfOk (G : Gram) (c : List Itm) (ks : List (List Itm)) (n : Nat) (p : Half) : Prop where
 front : ∃ more, p.1 = ks ++ more /\ ∀ k ∈ more, ∃ i, i < n /\ k = stL G c ((i + 1 : Nat) : Int) /\ k ≠ []
 nodup : p.1.Nodup
 here : ∀ i, i < n -> stL G c ((i + 1 : Nat) : Int) ≠ [] -> stL G c ((i + 1 : Nat) : Int) ∈ p.1
 trans : p.2 = zAU G p.1 c n
theorem HalfOk.start {G : Gram} {c : List Itm} {ks : List (List Itm)} (h : ks.Nodup) : HalfOk G c ks 0 (ks, []) :=
 ⟨⟨[], by simp, fun k hk => by cases hk⟩, h, fun i hi => by omega, rfl⟩
theorem HalfOk.next {G : Gram} {c : List Itm} {ks : List (List Itm)} {n : Nat} {p : Half} (h : HalfOk G c ks n p) : HalfOk G c ks (n + 1) (oneS G c (n + 1) p) := by
 obtain ⟨more, e, hm⟩ := h.front
 by_cases h0 : stL G c ((n + 1 : Nat) : Int) = []
 ·rw [zDN h0]
  refine ⟨⟨more, e, fun k hk => ?_⟩, h.nodup, fun i hi hn => ?_, ?_⟩
  ·obtain ⟨i, h1, h2⟩ := hm k hk
   exact ⟨i, by omega, h2⟩
  ·by_cases q : i = n
   ·subst q
    exact absurd h0 hn
   ·exact h.here i (by omega) hn
  ·rw [zAm, if_pos h0, List.append_nil]
   exact h.trans
 ·by_cases h1 : stL G c ((n + 1 : Nat) : Int) ∈ p.1
  ·rw [zHB h0 h1]
   refine ⟨⟨more, e, fun k hk => ?_⟩, h.nodup, fun i hi hn => ?_, ?_⟩
   ·obtain ⟨i, h1, h2⟩ := hm k hk
    exact ⟨i, by omega, h2⟩
   ·by_cases q : i = n
    ·subst q
     exact h1
    ·exact h.here i (by omega) hn
   ·rw [zAm, if_neg h0, ← h.trans]
  ·rw [zHA h0 h1]
   refine ⟨⟨more ++ [stL G c ((n + 1 : Nat) : Int)], by dsimp only; rw [e, List.append_assoc], fun k hk => ?_⟩, ?_, fun i hi hn => ?_, ?_⟩
   ·rcases List.mem_append.1 hk with hk | hk
    ·obtain ⟨i, h1, h2⟩ := hm k hk
     exact ⟨i, by omega, h2⟩
    ·rw [List.mem_singleton] at hk
     exact ⟨n, by omega, hk, by rw [hk]; exact h0⟩
   ·dsimp only
    rw [List.nodup_append]
    refine ⟨h.nodup, by simp, fun x hx y hy q => ?_⟩
    rw [List.mem_singleton] at hy
    subst hy
    subst q
    exact h1 hx
   ·by_cases q : i = n
    ·subst q
     exact List.mem_append.2 (.inr (List.mem_singleton.2 rfl))
    ·exact List.mem_append.2 (.inl (h.here i (by omega) hn))
   ·dsimp only
    rw [zAm, if_neg h0, zDZ _ h.here, ← h.trans, List.idxOf_append, if_neg h1]
    simp
theorem zCI {G : Gram} {c : List Itm} {ks : List (List Itm)} (h : ks.Nodup) : ∀ n, HalfOk G c ks n (zAV G c n (ks, []))
 | 0 => .start h
 | n + 1 => (zCI h n).next
end Au
namespace Au
open Gr (Gram)
open Im
def zAI (ks : List (List Itm)) (i : Nat) : List Itm := ks.getD i []
theorem zAl {ks more : List (List Itm)} {i : Nat} (h : i < ks.length) : zAI (ks ++ more) i = zAI ks i := by
 unfold zAI
 rw [List.getD_eq_getElem?_getD, List.getD_eq_getElem?_getD, List.getElem?_append_left h]
theorem zAd {ks : List (List Itm)} {i : Nat} (h : i < ks.length) : zAI ks i = ks[i] := by
 unfold zAI
 rw [List.getD_eq_getElem?_getD, List.getElem?_eq_getElem h]
 rfl
theorem zBX {ks : List (List Itm)} {i : Nat} (h : i < ks.length) : zAI ks i ∈ ks := by
 rw [zAd h]
 exact List.getElem_mem h
theorem zMX {ks : List (List Itm)} {k : List Itm} (h : k ∈ ks) : ks.idxOf k < ks.length /\ zAI ks (ks.idxOf k) = k := by
 have h1 := List.idxOf_lt_length_of_mem h
 refine ⟨h1, ?_⟩
 rw [zAd h1]
 exact List.getElem_idxOf h1
structure WholeOk (G : Gram) (top : Nat) (q : Whole) : Prop where
 le : q.2.length <= q.1.length
 pos : 0 < q.1.length
 nodup : q.1.Nodup
 zero : zAI q.1 0 = [((G.rules.length : Int), 0)]
 good : ∀ k ∈ q.1, k ≠ [] /\ Srt k /\ ∀ x ∈ k, zAD G x = true
 trans : ∀ i, i < q.2.length -> q.2.getD i [] = zAU G q.1 (clL G (zAI q.1 i)) top
 here : ∀ i, i < q.2.length -> ∀ s, s < top -> stL G (clL G (zAI q.1 i)) ((s + 1 : Nat) : Int) ≠ [] -> stL G (clL G (zAI q.1 i)) ((s + 1 : Nat) : Int) ∈ q.1
 early : ∀ t, 0 < t -> t < q.1.length -> ∃ i s, i < t /\ i < q.2.length /\ s < top /\ zAI q.1 t = stL G (clL G (zAI q.1 i)) ((s + 1 : Nat) : Int)
theorem WholeOk.start (G : Gram) (top : Nat) : WholeOk G top (runs G top 0) := by
 refine ⟨by simp [runs], by simp [runs], by simp [runs], rfl, fun k hk => ?_, fun i hi => by simp [runs] at hi, fun i hi => by simp [runs] at hi, fun t h1 h2 => ?_⟩
 ·simp only [runs, List.mem_singleton] at hk
  subst hk
  refine ⟨by simp, zCo _, fun x hx => ?_⟩
  rw [List.mem_singleton] at hx
  subst hx
  exact zB0 (Nat.le_refl _)
 ·simp only [runs, List.length_cons, List.length_nil] at h2
  omega
theorem WholeOk.next {G : Gram} {top : Nat} {q : Whole} (h : WholeOk G top q) : WholeOk G top (rnd G top q) := by
 by_cases hq : q.2.length < q.1.length
 ·rw [zFl hq, ← zAd hq]
  have H := zCI (G := G) (c := clL G (zAI q.1 q.2.length)) h.nodup top
  generalize zAV G (clL G (zAI q.1 q.2.length)) top (q.1, []) = p at H
  obtain ⟨more, e, hm⟩ := H.front
  have hl : q.1.length <= p.1.length := by rw [e, List.length_append]; omega
  refine ⟨by dsimp only; rw [List.length_append]; simp; omega, by have := h.pos; dsimp only; omega, H.nodup, ?_, fun k hk => ?_, fun i hi => ?_, fun i hi s hs hn => ?_, fun t h1 h2 => ?_⟩
  ·dsimp only
   rw [e, zAl h.pos]
   exact h.zero
  ·dsimp only at hk
   rw [e] at hk
   rcases List.mem_append.1 hk with hk | hk
   ·exact h.good k hk
   ·obtain ⟨i, _, h1, h2⟩ := hm k hk
    have hs := zEm G (clL G (zAI q.1 q.2.length)) ((i + 1 : Nat) : Int)
    rw [← h1] at hs
    exact ⟨h2, hs.1, fun x hx => (zB2 ((hs.2 x).1 hx)).1⟩
  ·dsimp only at hi ⊢
   rw [List.length_append, List.length_singleton] at hi
   by_cases k : i < q.2.length
   ·rw [List.getD_eq_getElem?_getD, List.getElem?_append_left k, ← List.getD_eq_getElem?_getD, h.trans i k, e, zAl (by omega), zDZ more fun s hs hn => h.here i k s hs hn]
   ·obtain rfl : i = q.2.length := by omega
    rw [List.getD_eq_getElem?_getD, List.getElem?_append_right (Nat.le_refl _)]
    simp only [Nat.sub_self, List.getElem?_cons_zero, Option.getD_some]
    rw [H.trans, show zAI p.1 q.2.length = zAI q.1 q.2.length from by rw [e, zAl hq]]
  ·dsimp only at hi hn ⊢
   rw [List.length_append, List.length_singleton] at hi
   have hi' : i < q.1.length := by omega
   rw [show zAI p.1 i = zAI q.1 i from by rw [e, zAl hi']] at hn ⊢
   by_cases k : i < q.2.length
   ·rw [e]
    exact List.mem_append.2 (.inl (h.here i k s hs hn))
   ·obtain rfl : i = q.2.length := by omega
    exact H.here s hs hn
  ·dsimp only at h2 ⊢
   by_cases k : t < q.1.length
   ·obtain ⟨i, s, a1, a2, a3, a4⟩ := h.early t h1 k
    refine ⟨i, s, a1, by rw [List.length_append]; omega, a3, ?_⟩
    rw [e, zAl k, zAl (by omega)]
    exact a4
   ·have hmem : zAI p.1 t ∈ more := by
     rw [zAd h2]
     simp only [e, List.getElem_append_right (Nat.le_of_not_lt k)]
     exact List.getElem_mem _
    obtain ⟨s, a1, a2, _⟩ := hm _ hmem
    refine ⟨q.2.length, s, by omega, by rw [List.length_append]; simp, a1, ?_⟩
    rw [a2, e, zAl hq]
 ·unfold rnd
  rw [List.getElem?_eq_none (by omega)]
  exact h
theorem zCn (G : Gram) (top : Nat) : ∀ n, WholeOk G top (runs G top n)
 | 0 => .start G top
 | n + 1 => (zCn G top n).next
theorem zNg {G : Gram} {top : Nat} {q : Whole} (h : q.2.length < q.1.length) : (rnd G top q).2.length = q.2.length + 1 := by
 rw [zFl h]
 simp
theorem zHL {G : Gram} {top : Nat} : ∀ {n : Nat}, (∀ m, m < n -> (runs G top m).2.length < (runs G top m).1.length) -> (runs G top n).2.length = n
 | 0, _ => rfl
 | n + 1, h => by
  show (rnd G top (runs G top n)).2.length = n + 1
  rw [zNg (h n (by omega)), zHL fun m hm => h m (by omega)]
theorem zAz {G : Gram} {ks : List (List Itm)} {c : List Itm} {n : Nat} {s t : Int} : (s, t) ∈ zAU G ks c n ↔ ∃ i, i < n /\ s = ((i + 1 : Nat) : Int) /\ stL G c s ≠ [] /\ t = (ks.idxOf (stL G c s) : Int) := by
 unfold zAU
 rw [List.mem_filterMap]
 constructor
 ·rintro ⟨i, hi, h⟩
  split at h
  ·cases h
  ·rename_i hn
   injection h with h
   injection h with h1 h2
   subst h1
   exact ⟨i, List.mem_range.1 hi, rfl, hn, h2.symm⟩
 ·rintro ⟨i, hi, rfl, hn, rfl⟩
  exact ⟨i, List.mem_range.2 hi, if_neg hn⟩
def leads (tr : List (Int × Int)) (s : Int) : Int := ((tr.find? fun x => decide (x.1 = s)).map (·.2)).getD (-1)
theorem zGG {G : Gram} {ks : List (List Itm)} {c : List Itm} {n i : Nat} (hi : i < n) (hn : stL G c ((i + 1 : Nat) : Int) ≠ []) : leads (zAU G ks c n) ((i + 1 : Nat) : Int) = (ks.idxOf (stL G c ((i + 1 : Nat) : Int)) : Int) := by
 unfold leads
 have key : ∀ x ∈ zAU G ks c n, decide (x.1 = ((i + 1 : Nat) : Int)) = true -> x.2 = (ks.idxOf (stL G c ((i + 1 : Nat) : Int)) : Int) := by
  rintro ⟨s, t⟩ hx hd
  obtain ⟨j, hj, h1, h2, h3⟩ := zAz.1 hx
  have hd' : s = ((i + 1 : Nat) : Int) := of_decide_eq_true hd
  dsimp only
  rw [← hd']
  exact h3
 have hm : ((((i + 1 : Nat) : Int), (ks.idxOf (stL G c ((i + 1 : Nat) : Int)) : Int)) : Int × Int) ∈ zAU G ks c n := zAz.2 ⟨i, hi, rfl, hn, rfl⟩
 cases hf : (zAU G ks c n).find? fun x => decide (x.1 = ((i + 1 : Nat) : Int)) with
 | none =>
  have := List.find?_eq_none.1 hf _ hm
  simp at this
 | some x => exact key x (List.mem_of_find?_eq_some hf) (List.find?_some (p := fun x : Int × Int => decide (x.1 = ((i + 1 : Nat) : Int))) hf)
end Au
namespace Au
open Go.RowKit Go.Maps
open Im
open It (zIY isIn num zFc zFd)
structure Ka (P : Program) (K : TypeId) : Prop where
 law : Keyed P K
 key : ∀ x, W64 x -> keyOf P K (iv x) = some (ik x)
theorem zO0 {P : Program} {K E : TypeId} (law : Keyed P K) (hu : P.underlying K = some (.array 2 E)) (he : P.underlying E = some (.int .i64)) (hkt : P.keyType K = true) (hcells : P.cellsOf K = 2) (ce : P.cellsOf E = 1) (n : Nat) (hn : P.types.size = n + 1) : Ka P K := by
 refine ⟨law, fun x hx => ?_⟩
 unfold keyOf iv
 rw [hu]
 simp only [hkt, Bool.true_and]
 rw [if_pos (by simp [Value.formed, hu, hcells])]
 rw [hn]
 have hr : List.range 2 = [0, 1] := rfl
 simp [Program.keyLits, hu, hcells, ce, he, hx.1, hx.2, Value.cells, ik, hr]
section
variable {P : Program} {K T E : TypeId}
def TMap (P : Program) (K E : TypeId) (b n : Nat) (X : Itm -> Option Int) (w : World) : Prop :=
 ∃ D : DataW Unit, w.ownsMap P K (plainElem P E) b n D /\ ∀ x, W64 x -> has D (ik x) = (X x).isSome /\ D.atKey (ik x) (.lit (.int .i64 0)) = .lit (.int .i64 ((X x).getD 0))
theorem TMap.made (w : World) (P : Program) (K E : TypeId) : TMap P K E w.heap.size 0 (fun _ => none) (w.alloc (.map #[] 0)) :=
 ⟨_, World.ownsMap_made w P K _, fun x _ => ⟨rfl, rfl⟩⟩
theorem TMap.mono {b n n' : Nat} {X : Itm -> Option Int} {w : World} (h : TMap P K E b n X w) (hn : n <= n') : TMap P K E b n' X w := by
 obtain ⟨D, h, k⟩ := h
 exact ⟨D, h.mono hn, k⟩
theorem TMap.eq {b n : Nat} {X Y : Itm -> Option Int} {w : World} (h : TMap P K E b n X w) (e : ∀ x, X x = Y x) : TMap P K E b n Y w := by
 obtain ⟨D, h, k⟩ := h
 exact ⟨D, h, fun x hx => by rw [← e x]; exact k x hx⟩
theorem TMap.keep {b n : Nat} {X : Itm -> Option Int} {w w' : World} (h : TMap P K E b n X w) (hb : w'.heap[b]? = w.heap[b]?) : TMap P K E b n X w' := by
 obtain ⟨D, h, k⟩ := h
 exact ⟨D, Sep.ownsMap_at h hb, k⟩
theorem TMap.store {b n : Nat} {X : Itm -> Option Int} {w : World} (h : TMap P K E b n X w) (k : Ka P K) (ht : P.underlying T = some (.map K E)) (he : P.underlying E = some (.int .i64)) (hn : n < maxLen) {x : Itm} (hx : W64 x) {t : Int} (hw : (Lit.int .i64 t).wf = true) :
  ∃ w', (Instr.mapUpdate T (.map (some b)) (iv x) (.int .i64 t)).run P w = .ok () w' /\ TMap P K E b (n + 1) (fun y => if y = x then some t else X y) w' /\ w.mapTurned w' b := by
 obtain ⟨D, ho, kd⟩ := h
 obtain ⟨w', hrun, h1, h2⟩ := ho.store k.law ht hn (k.key x hx) (plainElem_int he hw)
 refine ⟨w', hrun, ⟨_, h1, fun y hy => ?_⟩, h2⟩
 by_cases e : y = x
 ·subst e
  show _ = (if y = y then some t else X y).isSome /\ _ = DataW.lit (Lit.int .i64 ((if y = y then some t else X y).getD 0))
  rw [if_pos rfl, has_put_same ho.isMap (k.law.key (k.key y hy)), atKey_put_same ho.isMap (k.law.key (k.key y hy))]
  exact ⟨rfl, rfl⟩
 ·have hne : ik y ≠ ik x := fun q => e (zJD hy hx q)
  show _ = (if y = x then some t else X y).isSome /\ _ = DataW.lit (Lit.int .i64 ((if y = x then some t else X y).getD 0))
  rw [if_neg e, has_put_other hne, atKey_put_other hne]
  exact kd y hy
theorem zB4 {ops : Array Oper} {rest : List Oper} {o : Oper} {a : Act} {Q : Exit -> Act -> World -> Prop} (w : World) (hg : o.guard = none) (m y : Operand) (hop : o.op = Op.lookup T m y true) (k : Ka P K) (ht : P.underlying T = some (.map K E)) (he : P.underlying E = some (.int .i64))
  (hz : (zeroValue E).run P w = .ok (.int .i64 0) w) (b n : Nat) (X : Itm -> Option Int) (hm : a.eval m = .map (some b)) (h : TMap P K E b n X w) (x : Itm) (hy : a.eval y = iv x) (hx : W64 x)
  (hK : wpList P ops Q rest (a.put o.dst (.tuple #[.int .i64 ((X x).getD 0), .bool (X x).isSome])) w) : wpList P ops Q (o :: rest) a w := by
 obtain ⟨D, ho, kd⟩ := h
 refine wpList_lookup_own_ok_int w hg m y T hop K E .i64 k.law ht he hz b n D hm ho _ _ hy (k.key x hx) fun d hat _ => ?_
 rw [(kd x hx).2] at hat
 simp only [DataW.lit.injEq, Lit.int.injEq, true_and] at hat
 subst hat
 rw [(kd x hx).1]
 exact hK
def SMap (P : Program) (K E : TypeId) (b n : Nat) (L : List ByteArray) (w : World) : Prop := ∃ D : DataW Unit, w.ownsMap P K (plainElem P E) b n D /\ zIY L D
theorem SMap.made (w : World) (P : Program) (K E : TypeId) : SMap P K E w.heap.size 0 [] (w.alloc (.map #[] 0)) := ⟨_, World.ownsMap_made w P K _, zFc⟩
theorem SMap.lt {b n : Nat} {L : List ByteArray} {w : World} (h : SMap P K E b n L w) : b < w.heap.size := by
 obtain ⟨D, h, _⟩ := h
 exact h.lt
theorem SMap.keep {b n : Nat} {L : List ByteArray} {w w' : World} (h : SMap P K E b n L w) (hb : w'.heap[b]? = w.heap[b]?) : SMap P K E b n L w' := by
 obtain ⟨D, h, k⟩ := h
 exact ⟨D, Sep.ownsMap_at h hb, k⟩
theorem zB3 {ops : Array Oper} {rest : List Oper} {o : Oper} {a : Act} {Q : Exit -> Act -> World -> Prop} (w : World) (hg : o.guard = none) (m y : Operand) (hop : o.op = Op.lookup T m y true) (law : Keyed P K) (hk : P.underlying K = some .string) (ht : P.underlying T = some (.map K E)) (he : P.underlying E = some (.int .i64))
  (hz : (zeroValue E).run P w = .ok (.int .i64 0) w) (b n : Nat) (L : List ByteArray) (hm : a.eval m = .map (some b)) (h : SMap P K E b n L w) (s : ByteArray) (hy : a.eval y = .string s) (hs : s.size <= maxLen)
  (hK : wpList P ops Q rest (a.put o.dst (.tuple #[.int .i64 (num L s), .bool (isIn L s)])) w) : wpList P ops Q (o :: rest) a w := by
 obtain ⟨D, ho, kd⟩ := h
 refine wpList_lookup_own_ok_int w hg m y T hop K E .i64 law ht he hz b n D hm ho _ _ hy (WideMaps.keyOf_string_mk hk hs) fun d hat _ => ?_
 rw [(kd s).2] at hat
 simp only [DataW.lit.injEq, Lit.int.injEq, true_and] at hat
 subst hat
 rw [(kd s).1]
 exact hK
theorem zDc {ops : Array Oper} {rest : List Oper} {o : Oper} {a : Act} {Q : Exit -> Act -> World -> Prop} (w : World) (hg : o.guard = none) (m y v : Operand) (hop : o.op = Op.mapUpdate T m y v) (law : Keyed P K) (hk : P.underlying K = some .string) (ht : P.underlying T = some (.map K E)) (he : P.underlying E = some (.int .i64))
  (b n : Nat) (L : List ByteArray) (hm : a.eval m = .map (some b)) (h : SMap P K E b n L w) (hn : n < maxLen) (s : ByteArray) (hy : a.eval y = .string s) (hs : s.size <= maxLen) (hnew : isIn L s = false) (z : Int) (hv : a.eval v = .int .i64 z) (hzl : z = (L.length : Int)) (hl : L.length < 9223372036854775808)
  (hK : ∀ w', SMap P K E b (n + 1) (L ++ [s]) w' -> w.grownBy w' (some b) -> wpList P ops Q rest (a.put o.dst undef) w') : wpList P ops Q (o :: rest) a w := by
 obtain ⟨D, ho, kd⟩ := h
 subst hzl
 refine wpList_mapUpdate_own w hg m y v T hop K E law ht (plainElem P E) b n D hm ho hn _ _ _ hy hv (WideMaps.keyOf_string_mk hk hs) _ [] (plainElem_int he (by simp only [Lit.wf, IntKind.min, IntKind.max, IntKind.signed, IntKind.bits, Bool.and_eq_true, decide_eq_true_eq, if_true]; omega)) fun w' h1 h2 => hK w' ⟨_, h1, zFd ho.isMap (law.key (WideMaps.keyOf_string_mk hk hs)) kd hnew⟩ h2
end
