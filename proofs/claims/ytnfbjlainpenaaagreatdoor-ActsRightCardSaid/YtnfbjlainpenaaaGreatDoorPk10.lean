/- A part of the proof. -/
import Derived.Test.YtnfbjlainpenaaaGreatDoorPk09
set_option linter.unusedVariables false
namespace Go.Proofs.YtnfbjlainpenaaaGreatDoor
namespace Ac
open Gr (Gram checkN zAE)
open Im
open Au
open Lk (La endI)
abbrev Ac2 := Int × Int
abbrev Cl4 := Int × Int × Ac2 × Ac2
open Classical in
noncomputable def redB (G : Gram) (q : Whole) (i k t : Nat) : Bool := decide (La G q i (endI G k) (t : Int))
open Classical in
theorem zCy {G : Gram} {q : Whole} {i k t : Nat} : redB G q i k t = true ↔ La G q i (endI G k) (t : Int) := by
 unfold redB
 rw [decide_eq_true_iff]
def zBC (q : Whole) (i t : Nat) : List Ac2 := if 0 < t /\ 0 <= leads (q.2.getD i []) (t : Int) then [(1, leads (q.2.getD i []) (t : Int))] else []
noncomputable def accL (G : Gram) (q : Whole) (i t : Nat) : List Ac2 := if redB G q i G.rules.length t = true then [(3, 0)] else []
noncomputable def redL (G : Gram) (q : Whole) (i t : Nat) : List Ac2 := ((List.range G.rules.length).filter fun k => redB G q i k t).map fun k : Nat => (2, (k : Int))
noncomputable def actL (G : Gram) (q : Whole) (i t : Nat) : List Ac2 := zBC q i t ++ accL G q i t ++ redL G q i t
noncomputable def fstA (G : Gram) (q : Whole) (i t : Nat) : Ac2 := (actL G q i t).headD (0, 0)
noncomputable def cellC (G : Gram) (q : Whole) (i t : Nat) : List Cl4 := (actL G q i t).tail.map fun b => ((i : Int), (t : Int), fstA G q i t, b)
noncomputable def rowC (G : Gram) (q : Whole) (i : Nat) : List Cl4 := (List.range (G.terms.length + 1)).flatMap (cellC G q i)
noncomputable def zAQ (G : Gram) (q : Whole) : List Cl4 := (List.range q.1.length).flatMap (rowC G q)
noncomputable def zSB (G : Gram) (q : Whole) (i : Nat) : List Ac2 := (List.range (G.terms.length + 1)).map (fstA G q i)
def zSM (G : Gram) (q : Whole) (i : Nat) : List Int := (List.range G.nons.length).map fun k : Nat => leads (q.2.getD i []) ((G.terms.length + 1 + k : Nat) : Int)
structure Tb5 where
 rules : List (Int × List Int)
 acts : List (List Ac2)
 goto : List (List Int)
 terms : Int
 nons : Int
noncomputable def tabL (G : Gram) (q : Whole) : Tb5 := ⟨G.rules ++ [zAE G (G.rules.length : Int)], (List.range q.1.length).map (zSB G q), (List.range q.1.length).map (zSM G q), (G.terms.length : Int), (G.nons.length : Int)⟩
def tab0 : Tb5 := ⟨[], [], [], 0, 0⟩
inductive ClashIs (G : Gram) : Int -> List Cl4 -> Prop
 | bad {er : Int} : Built G er [] -> er ≠ 0 -> ClashIs G er []
 | all {q : Whole} : checkN G = 0 -> Done G q -> q.1.length <= 2000 -> Built G 0 (states q) -> ClashIs G 0 (zAQ G q)
inductive TabIs (G : Gram) : Int -> Tb5 -> Prop
 | bad {er : Int} : Built G er [] -> er ≠ 0 -> TabIs G er tab0
 | clash {q : Whole} : checkN G = 0 -> Done G q -> q.1.length <= 2000 -> Built G 0 (states q) -> zAQ G q ≠ [] -> TabIs G 12 tab0
 | all {q : Whole} : checkN G = 0 -> Done G q -> q.1.length <= 2000 -> Built G 0 (states q) -> zAQ G q = [] -> TabIs G 0 (tabL G q)
theorem zMY (G : Gram) (q : Whole) (i t : Nat) : (actL G q i t).length <= G.rules.length + 2 := by
 unfold actL zBC accL redL
 rw [List.length_append, List.length_append, List.length_map]
 have h1 := List.length_filter_le (fun k => redB G q i k t) (List.range G.rules.length)
 rw [List.length_range] at h1
 split <;> split <;> simp only [List.length_cons, List.length_nil] <;> omega
theorem zIj {G : Gram} {q : Whole} (h : zAQ G q = []) {i t : Nat} (hi : i < q.1.length) (ht : t < G.terms.length + 1) : (actL G q i t).length <= 1 := by
 unfold zAQ rowC at h
 rw [List.flatMap_eq_nil_iff] at h
 have h1 := h i (List.mem_range.2 hi)
 rw [List.flatMap_eq_nil_iff] at h1
 have h2 := h1 t (List.mem_range.2 ht)
 unfold cellC at h2
 rw [List.map_eq_nil_iff] at h2
 rcases hl : actL G q i t with _ | ⟨a, _ | ⟨b, l⟩⟩
 ·simp
 ·simp
 ·rw [hl] at h2
  simp at h2
end Ac
namespace Ac
open Gr (Gram checkN)
open Im
open Au
open Lk (zCs laL zLD endI zAe)
def augF (n : Nat) (Y : List (Nat × List Nat)) : List (Nat × List Nat) :=
 match Y.getLast? with
 | none => Y
 | some y => if y.1 = n then y :: Y.dropLast else Y
theorem zMb (n : Nat) (Y : List (Nat × List Nat)) : (augF n Y).length = Y.length := by
 unfold augF
 cases h : Y.getLast? with
 | none => rfl
 | some y =>
  dsimp only
  split
  ·cases Y with
   | nil => simp at h
   | cons a l => simp
  ·rfl
def redA (n k : Nat) : Ac2 := if k = n then (3, 0) else (2, (k : Int))
open Classical in
theorem zE6 (G : Gram) (q : Whole) (i : Nat) : augF G.rules.length (zAe G q i) =
  (if Clo G (zAH q.1 i) (endI G G.rules.length) then [(G.rules.length, laL G q i (endI G G.rules.length))] else []) ++
  ((List.range G.rules.length).filter fun k => decide (Clo G (zAH q.1 i) (endI G k))).map fun k => (k, laL G q i (endI G k)) := by
 have e : zAe G q i = (((List.range G.rules.length).filter fun k => decide (Clo G (zAH q.1 i) (endI G k))).map fun k => (k, laL G q i (endI G k))) ++ (if Clo G (zAH q.1 i) (endI G G.rules.length) then [(G.rules.length, laL G q i (endI G G.rules.length))] else []) := by
  unfold zAe
  rw [List.range_succ, List.filter_append, List.map_append, List.filter_cons]
  split <;> simp_all
 rw [e]
 have hlt : ∀ y ∈ (((List.range G.rules.length).filter fun k => decide (Clo G (zAH q.1 i) (endI G k))).map fun k => (k, laL G q i (endI G k))), y.1 < G.rules.length := by
  intro y hy
  obtain ⟨k, hk, rfl⟩ := List.mem_map.1 hy
  exact List.mem_range.1 (List.mem_filter.1 hk).1
 revert hlt
 generalize (((List.range G.rules.length).filter fun k => decide (Clo G (zAH q.1 i) (endI G k))).map fun k => (k, laL G q i (endI G k))) = A
 intro hlt
 unfold augF
 split
 ·next h =>
  rw [List.getLast?_eq_none_iff] at h
  rw [h]
  obtain ⟨h1, h2⟩ := List.append_eq_nil_iff.1 h
  rw [h1, h2]
  rfl
 ·next y h =>
  by_cases hc : Clo G (zAH q.1 i) (endI G G.rules.length)
  ·rw [if_pos hc] at h ⊢
   rw [List.getLast?_concat] at h
   injection h with h
   subst h
   rw [if_pos rfl, List.dropLast_concat]
   rfl
  ·rw [if_neg hc] at h ⊢
   rw [List.append_nil] at h ⊢
   have := hlt y (List.mem_of_getLast? h)
   rw [if_neg (by omega)]
   rfl
open Classical in
theorem zHb {G : Gram} {q : Whole} (D : Done G q) (hv : checkN G = 0) (i t : Nat) :
  ((augF G.rules.length (zAe G q i)).filter fun y => decide (t ∈ y.2)).map (fun y => redA G.rules.length y.1) = accL G q i t ++ redL G q i t := by
 have hb : ∀ k, (decide (Clo G (zAH q.1 i) (endI G k)) && decide (t ∈ laL G q i (endI G k))) = redB G q i k t := by
  intro k
  rw [Bool.eq_iff_iff, Bool.and_eq_true, decide_eq_true_iff, decide_eq_true_iff, zCy, zLD]
  exact ⟨fun h => h.2, fun h => ⟨(zCs D hv h).2, h⟩⟩
 rw [zE6, List.filter_append, List.map_append]
 congr 1
 ·unfold accL
  have := hb G.rules.length
  by_cases hc : Clo G (zAH q.1 i) (endI G G.rules.length)
  ·rw [if_pos hc]
   rw [decide_eq_true hc, Bool.true_and] at this
   rw [List.filter_cons]
   dsimp only
   rw [this]
   cases redB G q i G.rules.length t <;> simp [redA]
  ·rw [if_neg hc]
   rw [decide_eq_false hc, Bool.false_and] at this
   rw [← this]
   simp
 ·unfold redL
  rw [List.filter_map, List.map_map, List.filter_filter]
  have e : ((fun y : Nat × List Nat => decide (t ∈ y.2)) ∘ fun k => (k, laL G q i (endI G k))) = fun k => decide (t ∈ laL G q i (endI G k)) := rfl
  rw [List.filter_congr (q := fun k => redB G q i k t) fun k _ => by rw [← hb k, Bool.and_comm]; rfl]
  refine List.map_congr_left fun k hk => ?_
  have := List.mem_range.1 (List.mem_filter.1 hk).1
  show redA _ k = _
  unfold redA
  rw [if_neg (by omega)]
theorem zI9 {α : Type} {Z : List α} {p : α -> Bool} {m : Nat} (h : m < Z.length) (hp : p Z[m] = true) : (Z.filter p)[((Z.take m).filter p).length]? = some Z[m] := by
 have e : Z = Z.take m ++ Z[m] :: Z.drop (m + 1) := by simp
 conv => lhs; rw [e]
 rw [List.filter_append, List.filter_cons, if_pos hp, List.getElem?_append_right (by rw [← e]; exact Nat.le_refl _)]
 simp
theorem zGv {α : Type} {Z : List α} {p : α -> Bool} {m : Nat} (h : m < Z.length) : ((Z.take (m + 1)).filter p).length = ((Z.take m).filter p).length + (if p Z[m] then 1 else 0) := by
 rw [List.take_succ_eq_append_getElem h, List.filter_append, List.length_append, List.filter_cons]
 split <;> simp
theorem zGB (G : Gram) (q : Whole) (i : Nat) (x : Itm) : (laL G q i x).Pairwise (· < ·) := by
 unfold laL
 exact List.Pairwise.filter _ List.pairwise_lt_range
noncomputable def augR (G : Gram) (q : Whole) (i : Nat) : List (Nat × List Nat) := augF G.rules.length (zAe G q i)
theorem zIW {G : Gram} {q : Whole} {i : Nat} {y : Nat × List Nat} (h : y ∈ augR G q i) : y.2.Pairwise (· < ·) /\ y.1 <= G.rules.length := by
 classical
 unfold augR at h
 rw [zE6, List.mem_append, List.mem_map] at h
 rcases h with h | ⟨k, hk, rfl⟩
 ·split at h
  ·rw [List.mem_singleton] at h
   subst h
   exact ⟨zGB _ _ _ _, Nat.le_refl _⟩
  ·cases h
 ·have := List.mem_range.1 (List.mem_filter.1 hk).1
  exact ⟨zGB _ _ _ _, by dsimp only; omega⟩
def part (Z : List (Nat × List Nat)) (t m : Nat) : Nat := ((Z.take m).filter fun y => decide (t ∈ y.2)).length
theorem zGO (Z : List (Nat × List Nat)) (t : Nat) : part Z t 0 = 0 := by simp [part]
theorem zLa {Z : List (Nat × List Nat)} {t m : Nat} (h : m < Z.length) : part Z t (m + 1) = part Z t m + (if t ∈ Z[m].2 then 1 else 0) := by
 unfold part
 rw [zGv h]
 simp
theorem zQ8 {G : Gram} {q : Whole} (D : Done G q) (hv : checkN G = 0) {i t m : Nat} (h : m < (augR G q i).length) (ht : t ∈ (augR G q i)[m].2) :
  (actL G q i t)[(zBC q i t).length + part (augR G q i) t m]? = some (redA G.rules.length (augR G q i)[m].1) := by
 unfold actL
 rw [List.append_assoc, List.getElem?_append_right (by omega), ← zHb D hv i t, Nat.add_sub_cancel_left, List.getElem?_map]
 have := zI9 (Z := augR G q i) (p := fun y => decide (t ∈ y.2)) h (by simpa using ht)
 unfold part
 rw [show augF G.rules.length (zAe G q i) = augR G q i from rfl, this]
 rfl
theorem zPF {G : Gram} {q : Whole} (D : Done G q) (hv : checkN G = 0) (i t : Nat) : (actL G q i t).length = (zBC q i t).length + part (augR G q i) t (augR G q i).length := by
 unfold actL part
 rw [List.append_assoc, List.length_append, ← zHb D hv i t, List.length_map, List.take_length]
 rfl
theorem zK0 (tr : List (Int × Int)) (s : Int) : leads tr s = -1 \/ (s, leads tr s) ∈ tr := by
 unfold leads
 cases h : tr.find? (fun x => x.1 == s) with
 | none => exact .inl (by simp)
 | some x =>
  refine .inr ?_
  have h1 := List.find?_some h
  have h2 := List.mem_of_find?_eq_some h
  obtain ⟨a, b⟩ := x
  simp only [beq_iff_eq] at h1
  subst h1
  exact h2
theorem zDI {G : Gram} {q : Whole} (D : Done G q) {i : Nat} (hi : i < q.1.length) (s : Int) :
  leads (q.2.getD i []) s = -1 \/ ∃ n : Nat, leads (q.2.getD i []) s = (n : Int) /\ n < q.1.length /\ 1 <= s := by
 rcases zK0 (q.2.getD i []) s with h | h
 ·exact .inl h
 ·obtain ⟨n, h1, h2, _⟩ := D.to hi h
  refine .inr ⟨n, h1, h2, ?_⟩
  have hl : i < q.2.length := by rw [D.all]; exact hi
  rw [D.ok.trans i hl] at h
  obtain ⟨j, _, rfl, _, _⟩ := zAn.1 h
  omega
theorem zCL {G : Gram} {q : Whole} (D : Done G q) {i : Nat} (hi : i < q.1.length) (s : Int) : zDG (states q) (i : Int) s = leads (q.2.getD i []) s := by
 have hl : i < (states q).length := by rw [zAc D.all]; exact hi
 have h1 := zBm D.all hi
 rw [List.getElem?_eq_getElem hl] at h1
 injection h1 with h1
 rw [zCq hl, h1]
theorem zCi {G : Gram} {q : Whole} (D : Done G q) {i : Nat} (hi : i < q.1.length) (t : Nat) :
  (zDG (states q) (i : Int) (t : Int) = -1 /\ zBC q i t = []) \/ ∃ n : Nat, zDG (states q) (i : Int) (t : Int) = (n : Int) /\ n < q.1.length /\ zBC q i t = [(1, (n : Int))] := by
 rw [zCL D hi]
 unfold zBC
 rcases zDI D hi (t : Int) with h | ⟨n, h1, h2, h3⟩
 ·refine .inl ⟨h, ?_⟩
  rw [h, if_neg (by omega)]
 ·refine .inr ⟨n, h1, h2, ?_⟩
  rw [h1, if_pos (by omega)]
end Ac
namespace Fi
open Gr (Gram)
open Bt (Upto has orr gains els zF0)
structure TriedE (G : Gram) (n : Nat) (C0 : Int -> Bool) (j : Nat) (C : Int -> Bool) (b : Bool) : Prop where
 snd : ∀ x, C x = true -> Can G x
 no : b = false -> C = C0 /\ ∀ i (h : i < G.rules.length), i < j -> allC C0 G.rules[i].2 = true -> C0 G.rules[i].1 = true
 yes : b = true -> zCT C n < zCT C0 n
theorem zHT {G : Gram} {n : Nat} {C : Int -> Bool} (h : ∀ x, C x = true -> Can G x) : TriedE G n C 0 C false := ⟨h, fun _ => ⟨rfl, fun i _ hi => absurd hi (by omega)⟩, fun h => by cases h⟩
theorem TriedE.step {G : Gram} {n : Nat} {C0 C : Int -> Bool} {j : Nat} {b c : Bool} (h : TriedE G n C0 j C b) (hl : zMR G n) (hj : j < G.rules.length) (hc : c = true ↔ allC C G.rules[j].2 = true /\ C G.rules[j].1 = false) :
  TriedE G n C0 (j + 1) (addC C G.rules[j]) (b || c) := by
 have hm := List.getElem_mem hj
 have hs : ∀ x, addC C G.rules[j] x = true -> Can G x := fun x k => by
  unfold addC at k
  rw [Bool.or_eq_true, Bool.and_eq_true, decide_eq_true_iff] at k
  rcases k with k | ⟨e, k⟩
  ·exact h.snd x k
  ·subst e
   exact .mk _ hm fun z hz => h.snd z (zBn.1 k z hz)
 cases c with
 | false =>
  have hg : allC C G.rules[j].2 = true -> C G.rules[j].1 = true := fun k => by
   cases e : C G.rules[j].1 with
   | true => rfl
   | false => have := hc.2 ⟨k, e⟩; cases this
  rw [zFg hg, Bool.or_false]
  refine ⟨h.snd, fun e => ?_, h.yes⟩
  obtain ⟨e1, e3⟩ := h.no e
  refine ⟨e1, fun i hi hl => ?_⟩
  by_cases he : i = j
  ·subst he
   rw [← e1]
   exact hg
  ·exact e3 i hi (by omega)
 | true =>
  obtain ⟨h2, h3⟩ := hc.1 rfl
  obtain ⟨l0, l1⟩ := hl _ hm
  have e : ((G.rules[j].1.toNat : Nat) : Int) = G.rules[j].1 := by omega
  have hg := zFP (P := C) (Q := addC C G.rules[j]) (n := n) (k := G.rules[j].1.toNat) (fun i _ k => zPI k) (by omega) (by rw [e]; exact h3) (by rw [e]; exact zMZ h2)
  rw [Bool.or_true]
  refine ⟨hs, (fun e => by cases e), fun _ => ?_⟩
  cases b with
  | false =>
   have e1 := (h.no rfl).1
   rw [e1] at hg ⊢
   exact hg
  | true => exact Nat.lt_trans hg (h.yes rfl)
theorem TriedE.all {G : Gram} {n : Nat} {C0 C : Int -> Bool} {j : Nat} (h : TriedE G n C0 j C false) (hj : ¬ j < G.rules.length) : C = canB G := by
 obtain ⟨e1, e3⟩ := h.no rfl
 have hc : ∀ x, Can G x -> C x = true := fun x k => by
  induction k with
  | mk r hr _ ih =>
   obtain ⟨i, hi, rfl⟩ := List.getElem_of_mem hr
   rw [e1] at ih ⊢
   exact e3 i hi (by omega) (zBn.2 fun z hz => ih z hz)
 funext x
 rw [Bool.eq_iff_iff, zA7]
 exact ⟨h.snd x, hc x⟩
structure TriedG (G : Gram) (n : Nat) (F0 : Int -> Int -> Bool) (j : Nat) (F : Int -> Int -> Bool) (b : Bool) : Prop where
 snd : Snd G (canB G) F
 leaf : Leaf G F
 no : b = false -> F = F0 /\ ∀ i (h : i < G.rules.length), i < j -> ∀ t, zAW (canB G) F0 G.rules[i].2 t = true -> F0 G.rules[i].1 t = true
 yes : b = true -> zCU F (G.terms.length + 1) n < zCU F0 (G.terms.length + 1) n
theorem zHU {G : Gram} {n : Nat} {F : Int -> Int -> Bool} (h : Snd G (canB G) F) (hl : Leaf G F) : TriedG G n F 0 F false := ⟨h, hl, fun _ => ⟨rfl, fun i _ hi => absurd hi (by omega)⟩, fun h => by cases h⟩
theorem TriedG.step {G : Gram} {n : Nat} {F0 F : Int -> Int -> Bool} {j : Nat} {b c : Bool} (h : TriedG G n F0 j F b) (hl : zMR G n) (hj : j < G.rules.length) (hc : c = true ↔ ∃ t, zAW (canB G) F G.rules[j].2 t = true /\ F G.rules[j].1 t = false) :
  TriedG G n F0 (j + 1) (addF (canB G) F G.rules[j]) (b || c) := by
 have hm := List.getElem_mem hj
 have hs := h.snd.addF hm
 have hlf : Leaf G (addF (canB G) F G.rules[j]) := fun x hx => zGj (h.leaf x hx)
 cases c with
 | false =>
  have hg : ∀ t, zAW (canB G) F G.rules[j].2 t = true -> F G.rules[j].1 t = true := fun t k => by
   cases e : F G.rules[j].1 t with
   | true => rfl
   | false => have := hc.2 ⟨t, k, e⟩; cases this
  rw [zJm hg, Bool.or_false]
  refine ⟨h.snd, h.leaf, fun e => ?_, h.yes⟩
  obtain ⟨e1, e3⟩ := h.no e
  refine ⟨e1, fun i hi hl => ?_⟩
  by_cases he : i = j
  ·subst he
   rw [← e1]
   exact hg
  ·exact e3 i hi (by omega)
 | true =>
  obtain ⟨t, h2, h3⟩ := hc.1 rfl
  obtain ⟨t0, t1⟩ := zBi (h.snd.line h2)
  obtain ⟨l0, l1⟩ := hl _ hm
  have et : ((t.toNat : Nat) : Int) = t := by omega
  have e : ((G.rules[j].1.toNat : Nat) : Int) = G.rules[j].1 := by omega
  have hg := zH0 (F := F) (H := addF (canB G) F G.rules[j]) (m := G.terms.length + 1) (n := n) (k := G.rules[j].1.toNat) (fun x t _ _ k => zGj k) (by omega)
   (zFP (k := t.toNat) (fun i _ k => zGj k) (by omega) (by rw [e, et]; exact h3) (by rw [e, et]; exact zMa h2))
  rw [Bool.or_true]
  refine ⟨hs, hlf, (fun e => by cases e), fun _ => ?_⟩
  cases b with
  | false =>
   have e1 := (h.no rfl).1
   rw [e1] at hg ⊢
   exact hg
  | true => exact Nat.lt_trans hg (h.yes rfl)
theorem TriedG.all {G : Gram} {n : Nat} {F0 F : Int -> Int -> Bool} {j : Nat} (h : TriedG G n F0 j F false) (hj : ¬ j < G.rules.length) : F = fstB G := by
 obtain ⟨e1, e3⟩ := h.no rfl
 have hJ : Just G (canB G) F := zKt h.snd h.leaf fun r hr => by
  obtain ⟨i, hi, rfl⟩ := List.getElem_of_mem hr
  refine ⟨fun k => zA7.2 (.mk _ hr fun z hz => zA7.1 (zBn.1 k z hz)), ?_⟩
  rw [e1]
  exact e3 i hi (by omega)
 exact hJ.eq.2
theorem zRO {G : Gram} {B : Int -> Int -> Bool} (h : ∀ x t, B x t = true ↔ Fol G x t) : B = folB G := by
 funext x t
 rw [Bool.eq_iff_iff, h, zM0]
theorem zL8 (G : Gram) : ∀ x, zFb x = true -> Can G x := fun x h => by cases h
theorem zSd (G : Gram) : Snd G (canB G) (zCG G) := ⟨fun x h => zA7.1 h, (snd0 G).fst⟩
def zBJ (C : Int -> Bool) : List Int -> Nat
 | [] => 0
 | y :: l => if C y = true then zBJ C l + 1 else 1
theorem zNB (C : Int -> Bool) (l : List Int) : zBJ C l <= l.length := by
 induction l with
 | nil => exact Nat.le_refl _
 | cons y l ih =>
  unfold zBJ
  rw [List.length_cons]
  split <;> omega
theorem zF7 {C : Int -> Bool} : ∀ {l : List Int} {i : Nat} (h : i < l.length), (∀ k (hk : k < l.length), k < i -> C l[k] = true) -> C l[i] = false -> zBJ C l = i + 1 /\ allC C l = false
 | [], i, h, _, _ => absurd h (by simp)
 | y :: l, 0, _, _, hc => by
  have hy : C y = false := hc
  unfold zBJ
  rw [hy]
  exact ⟨rfl, by unfold allC; rw [List.all_cons, hy]; rfl⟩
 | y :: l, i + 1, h, hb, hc => by
  have hy : C y = true := hb 0 (by simp) (by omega)
  obtain ⟨e1, e2⟩ := zF7 (C := C) (l := l) (i := i) (by simpa using h) (fun k hk hki => hb (k + 1) (by simpa using hk) (by omega)) hc
  unfold zBJ
  rw [hy, e1]
  refine ⟨rfl, ?_⟩
  unfold allC at e2 ⊢
  rw [List.all_cons, hy, e2]
  rfl
theorem zF6 {C : Int -> Bool} : ∀ {l : List Int}, (∀ k (hk : k < l.length), C l[k] = true) -> zBJ C l = l.length /\ allC C l = true
 | [], _ => ⟨rfl, rfl⟩
 | y :: l, hb => by
  have hy : C y = true := hb 0 (by simp)
  obtain ⟨e1, e2⟩ := zF6 (C := C) (l := l) (fun k hk => hb (k + 1) (by simpa using hk))
  unfold zBJ
  rw [hy, e1]
  refine ⟨rfl, ?_⟩
  unfold allC at e2 ⊢
  rw [List.all_cons, hy, e2]
  rfl
theorem zBe (C : Int -> Bool) (F : Int -> Int -> Bool) (t : Int) : ∀ l : List Int, ((l.take (zBJ C l)).any fun y => F y t) = zAW C F l t
 | [] => rfl
 | y :: l => by
  have ih := zBe C F t l
  unfold zBJ zAW
  cases hy : C y with
  | true => simp only [if_pos, List.take_succ_cons, List.any_cons, ih, Bool.true_and]
  | false => simp
def rw' (P : Int -> Bool) : Nat -> Bool := fun i => P (i : Int)
def Rng (P : Int -> Bool) (n : Nat) : Prop := ∀ x, P x = true -> 0 <= x /\ x < (n : Int)
theorem zRV {P : Int -> Bool} {n : Nat} (h : Rng P n) (x : Int) : has (rw' P) x = P x := by
 unfold has rw'
 by_cases h0 : 0 <= x
 ·rw [decide_eq_true h0, show ((x.toNat : Nat) : Int) = x from by omega]
  rfl
 ·rw [decide_eq_false h0]
  cases e : P x with
  | false => rfl
  | true => exact absurd (h x e).1 h0
theorem zQw {P : Int -> Bool} {n : Nat} (h : Rng P n) (hn : n <= 4096) : Upto (rw' P) n := ⟨hn, fun i hi => by
 unfold rw'
 cases e : P (i : Int) with
 | false => rfl
 | true => have := (h _ e).2; omega⟩
theorem zRI {P : Int -> Bool} {n : Nat} (h : Rng P n) (hn : n <= 4096) : (els (rw' P)).map (fun i : Nat => (i : Int)) = lst P n := by
 rw [zF0 (zQw h hn)]
 rfl
def jn (B : Nat -> Bool) (F : Int -> Int -> Bool) (X : List Int) : Nat -> Bool := fun i => B i || X.any fun y => F y (i : Int)
theorem zRX (B : Nat -> Bool) (F : Int -> Int -> Bool) : jn B F [] = B := by
 funext i
 simp [jn]
theorem zQD {B : Nat -> Bool} {F : Int -> Int -> Bool} {n : Nat} (X : List Int) {y : Int} (h : Rng (F y) n) : orr (jn B F X) n (rw' (F y)) = jn B F (X ++ [y]) := by
 funext i
 unfold orr jn rw'
 rw [List.any_append]
 cases e : F y (i : Int) with
 | false => simp [e]
 | true =>
  have := (h _ e).2
  have h2 : i < n := by omega
  simp [e, h2]
theorem zQC {B : Nat -> Bool} {F : Int -> Int -> Bool} (X : List Int) {y : Int} (h : B = rw' (F y)) : jn B F X = jn B F (X ++ [y]) := by
 funext i
 unfold jn
 rw [List.any_append, h]
 unfold rw'
 cases e : F y (i : Int) <;> simp [e]
def Gn (B : Nat -> Bool) (F : Int -> Int -> Bool) (X : List Int) (b : Bool) : Prop := b = true ↔ ∃ i : Nat, (∃ y ∈ X, F y (i : Int) = true) /\ B i = false
theorem zRS (B : Nat -> Bool) (F : Int -> Int -> Bool) : Gn B F [] false := by
 unfold Gn
 constructor
 ·intro h; cases h
 ·rintro ⟨_, ⟨_, h, _⟩, _⟩
  cases h
theorem zPz {B : Nat -> Bool} {F : Int -> Int -> Bool} {n : Nat} {X : List Int} {y : Int} {b : Bool} (h : Rng (F y) n) (hb : Gn B F X b) : Gn B F (X ++ [y]) (b || gains (jn B F X) n (rw' (F y))) := by
 unfold Gn at hb ⊢
 rw [Bool.or_eq_true, hb]
 constructor
 ·rintro (⟨i, ⟨z, hz, h1⟩, h2⟩ | hg)
  ·exact ⟨i, ⟨z, List.mem_append_left _ hz, h1⟩, h2⟩
  ·unfold gains at hg
   rw [List.any_eq_true] at hg
   obtain ⟨i, hi, h1⟩ := hg
   rw [Bool.and_eq_true] at h1
   refine ⟨i, ⟨y, by simp, h1.1⟩, ?_⟩
   have h2 := h1.2
   unfold jn at h2
   cases e : B i with
   | false => rfl
   | true => rw [e] at h2; simp at h2
 ·rintro ⟨i, ⟨z, hz, h1⟩, h2⟩
  rcases List.mem_append.1 hz with hz | hz
  ·exact .inl ⟨i, ⟨z, hz, h1⟩, h2⟩
  ·rw [List.mem_singleton] at hz
   subst hz
   by_cases e : ∃ y ∈ X, F y (i : Int) = true
   ·exact .inl ⟨i, e, h2⟩
   ·refine .inr (Bt.zKT (i := i) (by have := (h _ h1).2; omega) ?_ h1)
    unfold jn
    rw [h2, Bool.false_or, List.any_eq_false]
    exact fun y hy k => e ⟨y, hy, k⟩
theorem zPy {B : Nat -> Bool} {F : Int -> Int -> Bool} {X : List Int} {y : Int} {b : Bool} (h : ∀ i : Nat, F y (i : Int) = true -> B i = true) (hb : Gn B F X b) : Gn B F (X ++ [y]) b := by
 unfold Gn at hb ⊢
 rw [hb]
 constructor
 ·rintro ⟨i, ⟨z, hz, h1⟩, h2⟩
  exact ⟨i, ⟨z, List.mem_append_left _ hz, h1⟩, h2⟩
 ·rintro ⟨i, ⟨z, hz, h1⟩, h2⟩
  rcases List.mem_append.1 hz with hz | hz
  ·exact ⟨i, ⟨z, hz, h1⟩, h2⟩
  ·rw [List.mem_singleton] at hz
   subst hz
   rw [h i h1] at h2
   cases h2
