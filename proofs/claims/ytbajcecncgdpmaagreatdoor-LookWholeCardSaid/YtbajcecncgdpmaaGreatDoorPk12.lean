/- A part of the proof. -/
import Derived.Test.YtbajcecncgdpmaaGreatDoorPk11
set_option maxHeartbeats 2000000
set_option maxRecDepth 100000
set_option linter.unusedVariables false
namespace Go.Proofs.YtbajcecncgdpmaaGreatDoor
namespace Fi
open Gr (Gram nonB zCW zAg)
inductive Can (G : Gram) : Int -> Prop
 | mk (r : Int × List Int) : r ∈ G.rules -> (∀ y ∈ r.2, Can G y) -> Can G r.1
inductive Fst (G : Gram) : Int -> Int -> Prop
 | leaf {x : Int} : x = 0 \/ zCW G x = true -> Fst G x x
 | rule {r : Int × List Int} {pre : List Int} {y : Int} {post : List Int} {t : Int} : r ∈ G.rules -> r.2 = pre ++ y :: post -> (∀ z ∈ pre, Can G z) -> Fst G y t -> Fst G r.1 t
def zCS (G : Gram) (l : List Int) (t : Int) : Prop := ∃ pre y post, l = pre ++ y :: post /\ (∀ z ∈ pre, Can G z) /\ Fst G y t
inductive Fol (G : Gram) : Int -> Int -> Prop
 | start : Fol G G.start 0
 | next {r : Int × List Int} {pre : List Int} {x : Int} {post : List Int} {t : Int} : r ∈ G.rules -> r.2 = pre ++ x :: post -> nonB G x = true -> zCS G post t -> Fol G x t
 | last {r : Int × List Int} {pre : List Int} {x : Int} {post : List Int} {t : Int} : r ∈ G.rules -> r.2 = pre ++ x :: post -> nonB G x = true -> (∀ z ∈ post, Can G z) -> Fol G r.1 t -> Fol G x t
theorem zCv {G : Gram} {t : Int} : ¬ zCS G [] t := fun ⟨pre, y, post, h, _⟩ => by
 cases pre <;> cases h
theorem zCM {G : Gram} {y : Int} {l : List Int} {t : Int} : zCS G (y :: l) t ↔ Fst G y t \/ (Can G y /\ zCS G l t) := by
 constructor
 ·rintro ⟨pre, z, post, h, hc, hf⟩
  cases pre with
  | nil =>
   injection h with h1 h2
   subst h1
   exact .inl hf
  | cons a pre =>
   injection h with h1 h2
   subst h1
   exact .inr ⟨hc _ (List.mem_cons_self ..), pre, z, post, h2, fun w hw => hc w (List.mem_cons_of_mem _ hw), hf⟩
 ·rintro (h | ⟨h1, pre, z, post, h2, h3, h4⟩)
  ·exact ⟨[], y, l, rfl, (fun z hz => by cases hz), h⟩
  ·refine ⟨y :: pre, z, post, by rw [h2]; rfl, fun w hw => ?_, h4⟩
   rcases List.mem_cons.1 hw with e | e
   ·subst e
    exact h1
   ·exact h3 w e
theorem Fst.line {G : Gram} {r : Int × List Int} {t : Int} (hr : r ∈ G.rules) (h : zCS G r.2 t) : Fst G r.1 t := by
 obtain ⟨pre, y, post, h1, h2, h3⟩ := h
 exact .rule hr h1 h2 h3
theorem zGU {G : Gram} {x t : Int} (h : Fst G x t) : 0 <= t /\ t <= (G.terms.length : Int) := by
 induction h with
 | leaf h =>
  rcases h with h | h
  ·omega
  ·have := zAg.1 h
   omega
 | rule _ _ _ _ ih => exact ih
theorem zBH {G : Gram} {l : List Int} {t : Int} (h : zCS G l t) : 0 <= t /\ t <= (G.terms.length : Int) := by
 obtain ⟨_, _, _, _, _, h⟩ := h
 exact zGU h
theorem zDw {G : Gram} {x t : Int} (h : Fol G x t) : 0 <= t /\ t <= (G.terms.length : Int) := by
 induction h with
 | start => omega
 | next _ _ _ h => exact zBH h
 | last _ _ _ _ _ ih => exact ih
theorem zMz {G : Gram} {x : Int} (h : Can G x) : ∃ r ∈ G.rules, r.1 = x := by
 cases h with
 | mk r hr _ => exact ⟨r, hr, rfl⟩
def allC (C : Int -> Bool) (l : List Int) : Bool := l.all C
def zAP (C : Int -> Bool) (F : Int -> Int -> Bool) : List Int -> Int -> Bool
 | [], _ => false
 | y :: l, t => F y t || (C y && zAP C F l t)
theorem zBX {C : Int -> Bool} {l : List Int} : allC C l = true ↔ ∀ z ∈ l, C z = true := by
 unfold allC
 exact List.all_eq_true
theorem zBg {C : Int -> Bool} {F : Int -> Int -> Bool} {l : List Int} {t : Int} : zAP C F l t = true ↔ ∃ pre y post, l = pre ++ y :: post /\ (∀ z ∈ pre, C z = true) /\ F y t = true := by
 induction l with
 | nil =>
  constructor
  ·intro h; cases h
  ·rintro ⟨pre, y, post, h, _⟩
   cases pre <;> cases h
 | cons a l ih =>
  unfold zAP
  rw [Bool.or_eq_true, Bool.and_eq_true, ih]
  constructor
  ·rintro (h | ⟨h1, pre, z, post, h2, h3, h4⟩)
   ·exact ⟨[], a, l, rfl, (fun z hz => by cases hz), h⟩
   ·refine ⟨a :: pre, z, post, by rw [h2]; rfl, fun w hw => ?_, h4⟩
    rcases List.mem_cons.1 hw with e | e
    ·subst e
     exact h1
    ·exact h3 w e
  ·rintro ⟨pre, z, post, h, hc, hf⟩
   cases pre with
   | nil =>
    injection h with h1 h2
    subst h1
    exact .inl hf
   | cons b pre =>
    injection h with h1 h2
    subst h1
    exact .inr ⟨hc _ (List.mem_cons_self ..), pre, z, post, h2, fun w hw => hc w (List.mem_cons_of_mem _ hw), hf⟩
structure Snd (G : Gram) (C : Int -> Bool) (F : Int -> Int -> Bool) : Prop where
 can : ∀ x, C x = true -> Can G x
 fst : ∀ x t, F x t = true -> Fst G x t
def Leaf (G : Gram) (F : Int -> Int -> Bool) : Prop := ∀ x, x = 0 \/ zCW G x = true -> F x x = true
structure Shut (C : Int -> Bool) (F : Int -> Int -> Bool) (r : Int × List Int) : Prop where
 can : allC C r.2 = true -> C r.1 = true
 fst : ∀ t, zAP C F r.2 t = true -> F r.1 t = true
theorem Snd.all {G : Gram} {C : Int -> Bool} {F : Int -> Int -> Bool} (h : Snd G C F) {l : List Int} (hl : allC C l = true) : ∀ z ∈ l, Can G z := fun z hz => h.can z (zBX.1 hl z hz)
theorem Snd.line {G : Gram} {C : Int -> Bool} {F : Int -> Int -> Bool} (h : Snd G C F) {l : List Int} {t : Int} (hl : zAP C F l t = true) : zCS G l t := by
 obtain ⟨pre, y, post, h1, h2, h3⟩ := zBg.1 hl
 exact ⟨pre, y, post, h1, fun z hz => h.can z (h2 z hz), h.fst y t h3⟩
structure Just (G : Gram) (C : Int -> Bool) (F : Int -> Int -> Bool) : Prop where
 can : ∀ x, C x = true ↔ Can G x
 fst : ∀ x t, F x t = true ↔ Fst G x t
theorem zLB {G : Gram} {C : Int -> Bool} {F : Int -> Int -> Bool} (h : Snd G C F) (hl : Leaf G F) (hs : ∀ r ∈ G.rules, Shut C F r) : Just G C F := by
 have hc : ∀ x, Can G x -> C x = true := fun x k => by
  induction k with
  | mk r hr _ ih => exact (hs r hr).can (zBX.2 fun z hz => ih z hz)
 refine ⟨fun x => ⟨h.can x, hc x⟩, fun x t => ⟨h.fst x t, fun k => ?_⟩⟩
 induction k with
 | leaf k => exact hl _ k
 | rule hr h1 h2 _ ih => exact (hs _ hr).fst _ (zBg.2 ⟨_, _, _, h1, fun z hz => hc z (h2 z hz), ih⟩)
theorem Just.all {G : Gram} {C : Int -> Bool} {F : Int -> Int -> Bool} (h : Just G C F) (l : List Int) : allC C l = true ↔ ∀ z ∈ l, Can G z := by
 rw [zBX]
 exact ⟨fun k z hz => (h.can z).1 (k z hz), fun k z hz => (h.can z).2 (k z hz)⟩
theorem Just.line {G : Gram} {C : Int -> Bool} {F : Int -> Int -> Bool} (h : Just G C F) (l : List Int) (t : Int) : zAP C F l t = true ↔ zCS G l t := by
 rw [zBg]
 constructor
 ·rintro ⟨pre, y, post, h1, h2, h3⟩
  exact ⟨pre, y, post, h1, fun z hz => (h.can z).1 (h2 z hz), (h.fst y t).1 h3⟩
 ·rintro ⟨pre, y, post, h1, h2, h3⟩
  exact ⟨pre, y, post, h1, fun z hz => (h.can z).2 (h2 z hz), (h.fst y t).2 h3⟩
def addC (C : Int -> Bool) (r : Int × List Int) : Int -> Bool := fun x => C x || (decide (x = r.1) && allC C r.2)
def addF (C : Int -> Bool) (F : Int -> Int -> Bool) (r : Int × List Int) : Int -> Int -> Bool := fun x t => F x t || (decide (x = r.1) && zAP C F r.2 t)
theorem Snd.addF {G : Gram} {C : Int -> Bool} {F : Int -> Int -> Bool} (h : Snd G C F) {r : Int × List Int} (hr : r ∈ G.rules) : Snd G C (addF C F r) := by
 refine ⟨h.can, fun x t k => ?_⟩
 unfold Fi.addF at k
 rw [Bool.or_eq_true, Bool.and_eq_true, decide_eq_true_iff] at k
 rcases k with k | ⟨e, k⟩
 ·exact h.fst x t k
 ·subst e
  exact .line hr (h.line k)
theorem Snd.addC {G : Gram} {C : Int -> Bool} {F : Int -> Int -> Bool} (h : Snd G C F) {r : Int × List Int} (hr : r ∈ G.rules) : Snd G (addC C r) F := by
 refine ⟨fun x k => ?_, h.fst⟩
 unfold Fi.addC at k
 rw [Bool.or_eq_true, Bool.and_eq_true, decide_eq_true_iff] at k
 rcases k with k | ⟨e, k⟩
 ·exact h.can x k
 ·subst e
  exact .mk r hr (h.all k)
theorem zDl {C : Int -> Bool} {r : Int × List Int} (h : allC C r.2 = true -> C r.1 = true) : addC C r = C := by
 funext x
 unfold addC
 by_cases e : x = r.1
 ·subst e
  cases ha : allC C r.2 with
  | false => simp
  | true => simp [h ha]
 ·simp [e]
theorem zF1 {C : Int -> Bool} {F : Int -> Int -> Bool} {r : Int × List Int} (h : ∀ t, zAP C F r.2 t = true -> F r.1 t = true) : addF C F r = F := by
 funext x t
 unfold addF
 by_cases e : x = r.1
 ·subst e
  cases ha : zAP C F r.2 t with
  | false => simp
  | true => simp [h t ha]
 ·simp [e]
structure BSnd (G : Gram) (B : Int -> Int -> Bool) : Prop where
 fol : ∀ x t, B x t = true -> Fol G x t
def zQ1 (G : Gram) (C : Int -> Bool) (F B : Int -> Int -> Bool) (r : Int × List Int) : Prop :=
 ∀ pre x post, r.2 = pre ++ x :: post -> nonB G x = true -> (∀ t, zAP C F post t = true -> B x t = true) /\ (allC C post = true -> ∀ t, B r.1 t = true -> B x t = true)
theorem zKG {G : Gram} {C : Int -> Bool} {F B : Int -> Int -> Bool} (j : Just G C F) (h : BSnd G B) (h0 : B G.start 0 = true) (hs : ∀ r ∈ G.rules, zQ1 G C F B r) : ∀ x t, B x t = true ↔ Fol G x t := fun x t => by
 refine ⟨h.fol x t, fun k => ?_⟩
 induction k with
 | start => exact h0
 | next hr h1 h2 h3 => exact (hs _ hr _ _ _ h1 h2).1 _ ((j.line _ _).2 h3)
 | last hr h1 h2 h3 _ ih => exact (hs _ hr _ _ _ h1 h2).2 ((j.all _).2 h3) _ ih
theorem BSnd.put {G : Gram} {B : Int -> Int -> Bool} (h : BSnd G B) {x : Int} {P : Int -> Bool} (hP : ∀ t, P t = true -> Fol G x t) : BSnd G (fun y t => B y t || (decide (y = x) && P t)) := by
 refine ⟨fun y t k => ?_⟩
 rw [Bool.or_eq_true, Bool.and_eq_true, decide_eq_true_iff] at k
 rcases k with k | ⟨e, k⟩
 ·exact h.fol y t k
 ·subst e
  exact hP t k
noncomputable def canB (G : Gram) (x : Int) : Bool := @decide (Can G x) (Classical.propDecidable _)
noncomputable def fstB (G : Gram) (x t : Int) : Bool := @decide (Fst G x t) (Classical.propDecidable _)
noncomputable def folB (G : Gram) (x t : Int) : Bool := @decide (Fol G x t) (Classical.propDecidable _)
theorem zAn {G : Gram} {x : Int} : canB G x = true ↔ Can G x := by unfold canB; exact @decide_eq_true_iff _ (Classical.propDecidable _)
theorem zBp {G : Gram} {x t : Int} : fstB G x t = true ↔ Fst G x t := by unfold fstB; exact @decide_eq_true_iff _ (Classical.propDecidable _)
theorem zCt {G : Gram} {x t : Int} : folB G x t = true ↔ Fol G x t := by unfold folB; exact @decide_eq_true_iff _ (Classical.propDecidable _)
theorem zLA (G : Gram) : Just G (canB G) (fstB G) := ⟨fun _ => zAn, fun _ _ => zBp⟩
theorem Just.eq {G : Gram} {C : Int -> Bool} {F : Int -> Int -> Bool} (h : Just G C F) : C = canB G /\ F = fstB G := by
 constructor
 ·funext x
  rw [Bool.eq_iff_iff, h.can, zAn]
 ·funext x t
  rw [Bool.eq_iff_iff, h.fst, zBp]
def lst (P : Int -> Bool) (n : Nat) : List Int := ((List.range n).filter fun i : Nat => P (i : Int)).map fun i : Nat => (i : Int)
theorem zCB {P : Int -> Bool} {n : Nat} {t : Int} : t ∈ lst P n ↔ 0 <= t /\ t < (n : Int) /\ P t = true := by
 unfold lst
 rw [List.mem_map]
 constructor
 ·rintro ⟨i, hi, rfl⟩
  rw [List.mem_filter, List.mem_range] at hi
  exact ⟨by omega, by omega, hi.2⟩
 ·rintro ⟨h0, h1, h2⟩
  have e : ((t.toNat : Nat) : Int) = t := by omega
  exact ⟨t.toNat, by rw [List.mem_filter, List.mem_range]; exact ⟨by omega, by rw [e]; exact h2⟩, e⟩
theorem zLP {P : Int -> Bool} {n : Nat} (h : P (n : Int) = true) : lst P (n + 1) = lst P n ++ [(n : Int)] := by
 unfold lst
 rw [List.range_succ, List.filter_append, List.map_append]
 simp [h]
theorem zII {P : Int -> Bool} {n : Nat} (h : P (n : Int) = false) : lst P (n + 1) = lst P n := by
 unfold lst
 rw [List.range_succ, List.filter_append, List.map_append]
 simp [h]
theorem zD9 (P : Int -> Bool) (n : Nat) : (lst P n).length <= n := by
 unfold lst
 rw [List.length_map]
 exact Nat.le_trans (List.length_filter_le _ _) (by simp)
theorem zFe {P : Int -> Bool} {n : Nat} (h : ∀ i : Nat, i < n -> P (i : Int) = false) : lst P n = [] := by
 rw [List.eq_nil_iff_forall_not_mem]
 intro t ht
 obtain ⟨h0, h1, h2⟩ := zCB.1 ht
 have := h t.toNat (by omega)
 have e : ((t.toNat : Nat) : Int) = t := by omega
 rw [e, h2] at this
 cases this
def zCU (P : Int -> Bool) : Nat -> Nat
 | 0 => 0
 | n + 1 => zCU P n + if P (n : Int) = true then 0 else 1
theorem zDf {P Q : Int -> Bool} {n : Nat} (h : ∀ i : Nat, i < n -> P (i : Int) = true -> Q (i : Int) = true) : zCU Q n <= zCU P n := by
 induction n with
 | zero => exact Nat.le_refl _
 | succ n ih =>
  have h1 := ih fun i hi => h i (by omega)
  unfold zCU
  by_cases hp : P (n : Int) = true
  ·rw [if_pos hp, if_pos (h n (by omega) hp)]
   exact h1
  ·rw [if_neg hp]
   split <;> omega
theorem zCy {P Q : Int -> Bool} {n k : Nat} (h : ∀ i : Nat, i < n -> P (i : Int) = true -> Q (i : Int) = true) (hk : k < n) (hp : P (k : Int) = false) (hq : Q (k : Int) = true) : zCU Q n < zCU P n := by
 induction n with
 | zero => omega
 | succ n ih =>
  unfold zCU
  by_cases e : k = n
  ·subst e
   have h1 := zDf (n := k) fun i hi => h i (by omega)
   rw [if_pos hq, if_neg (by rw [hp]; decide)]
   omega
  ·have h1 := ih (fun i hi => h i (by omega)) (by omega)
   by_cases hp2 : P (n : Int) = true
   ·rw [if_pos hp2, if_pos (h n (by omega) hp2)]
    exact h1
   ·rw [if_neg hp2]
    split <;> omega
def zBc (F : Int -> Int -> Bool) (m : Nat) : Nat -> Nat
 | 0 => 0
 | n + 1 => zBc F m n + zCU (F (n : Int)) m
theorem zIO {F H : Int -> Int -> Bool} {m n : Nat} (h : ∀ x t : Nat, x < n -> t < m -> F (x : Int) (t : Int) = true -> H (x : Int) (t : Int) = true) : zBc H m n <= zBc F m n := by
 induction n with
 | zero => exact Nat.le_refl _
 | succ n ih => exact Nat.add_le_add (ih fun x t hx => h x t (by omega)) (zDf fun t ht => h n t (by omega) ht)
theorem zFh {F H : Int -> Int -> Bool} {m n k : Nat} (h : ∀ x t : Nat, x < n -> t < m -> F (x : Int) (t : Int) = true -> H (x : Int) (t : Int) = true) (hk : k < n) (hr : zCU (H (k : Int)) m < zCU (F (k : Int)) m) : zBc H m n < zBc F m n := by
 induction n with
 | zero => omega
 | succ n ih =>
  show zBc H m n + zCU (H (n : Int)) m < zBc F m n + zCU (F (n : Int)) m
  by_cases e : k = n
  ·subst e
   have := zIO (F := F) (H := H) (m := m) (n := k) fun x t hx => h x t (by omega)
   omega
  ·have h1 := ih (fun x t hx => h x t (by omega)) (by omega)
   have h2 := zDf (P := F (n : Int)) (Q := H (n : Int)) (n := m) fun t ht => h n t (by omega) ht
   omega
end Fi
namespace Lk
open Gr (Gram checkN zAT zAB zAN ofN nonB zCW zAb zAU zAM zAg zAw zAp zAV)
open Im
open Au
open Fi (Fst zCS Fol zCM zCv)
def zFn (G : Gram) (x : Itm) : List Int := (zAB G x.1).2.drop (x.2 + 1).toNat
inductive La (G : Gram) (q : Whole) : Nat -> Itm -> Int -> Prop
 | start : La G q 0 ((G.rules.length : Int), 0) 0
 | move {i j : Nat} {x : Itm} {t : Int} : La G q i x t -> behB G x = true -> leads (q.2.getD i []) (behV G x) = (j : Int) -> La G q j (x.1, x.2 + 1) t
 | opens {i r : Nat} {x : Itm} {t u : Int} : La G q i x t -> behB G x = true -> r ∈ ofN G (behV G x) -> zCS G (zFn G x ++ [t]) u -> La G q i ((r : Int), 0) u
theorem zNF {G : Gram} (hv : checkN G = 0) {t u : Int} (ht : t = 0 \/ zCW G t = true) (h : Fst G t u) : u = t := by
 generalize hx : t = x at h
 cases h with
 | leaf _ => exact hx.symm ▸ rfl
 | rule hr _ _ _ =>
  rename_i r pre y post
  exfalso
  obtain ⟨i, hi, rfl⟩ := List.getElem_of_mem hr
  have h1 := zAw (zAT hv).2.2.2.1 hi
  rw [zAV hi] at h1
  have h2 := zAM.1 h1
  rw [← hx] at h2
  rcases ht with q | q
  ·omega
  ·have := zAg.1 q
   omega
theorem zA7 {G : Gram} (hv : checkN G = 0) {t : Int} (ht : t = 0 \/ zCW G t = true) : ∀ {l : List Int} {u : Int}, zCS G (l ++ [t]) u ↔ zCS G l u \/ ((∀ z ∈ l, Fi.Can G z) /\ u = t)
 | [], u => by
  rw [List.nil_append, zCM]
  constructor
  ·rintro (h | ⟨_, h⟩)
   ·exact .inr ⟨(fun z hz => by cases hz), zNF hv ht h⟩
   ·exact absurd h zCv
  ·rintro (h | ⟨_, rfl⟩)
   ·exact absurd h zCv
   ·exact .inl (.leaf ht)
 | y :: l, u => by
  rw [List.cons_append, zCM, zCM, zA7 hv ht]
  constructor
  ·rintro (h | ⟨h, h1 | ⟨h1, h2⟩⟩)
   ·exact .inl (.inl h)
   ·exact .inl (.inr ⟨h, h1⟩)
   ·exact .inr ⟨fun z hz => by
     rcases List.mem_cons.1 hz with e | e
     ·exact e ▸ h
     ·exact h1 z e, h2⟩
  ·rintro ((h | ⟨h, h1⟩) | ⟨h1, h2⟩)
   ·exact .inl h
   ·exact .inr ⟨h, .inl h1⟩
   ·exact .inr ⟨h1 y (List.mem_cons_self ..), .inr ⟨fun z hz => h1 z (List.mem_cons_of_mem _ hz), h2⟩⟩
theorem zD5 {G : Gram} {q : Whole} {i : Nat} {x : Itm} {t : Int} (h : La G q i x t) : t = 0 \/ zCW G t = true := by
 induction h with
 | start => exact .inl rfl
 | move _ _ _ ih => exact ih
 | opens _ _ _ h _ =>
  rename_i u _ _ _ _
  have := Fi.zBH h
  rcases Int.lt_or_eq_of_le this.1 with e | e
  ·exact .inr (zAg.2 ⟨by omega, this.2⟩)
  ·exact .inl e.symm
theorem zLG {G : Gram} {q : Whole} (D : Done G q) (hv : checkN G = 0) {i : Nat} {x : Itm} {t : Int} (h : La G q i x t) : i < q.1.length /\ Clo G (zAF q.1 i) x := by
 induction h with
 | start =>
  refine ⟨D.ok.pos, .of ?_ (zAv (Nat.le_refl _))⟩
  rw [D.ok.zero]
  exact List.mem_singleton.2 rfl
 | move _ hb hl ih =>
  rename_i i j x t _
  obtain ⟨h1, h2⟩ := ih
  obtain ⟨r, d⟩ := x
  obtain ⟨b1, b2⟩ := zAa.1 hb
  obtain ⟨c1, c2⟩ := zAK.1 b1
  dsimp only at c1 c2 b2
  obtain ⟨d, rfl⟩ := Int.eq_ofNat_of_zero_le c2.1
  have hr : zAN G r = true := by
   unfold zAN
   exact decide_eq_true c1
  have hd : d < (zAB G r).2.length := by
   unfold rlen at b2
   omega
  obtain ⟨k, k1, k2, k3⟩ := D.one hv h1 hr hd (((zEY _ _).2 _).2 h2)
  rw [← (zBL hr hd).2, hl] at k2
  obtain rfl : j = k := by omega
  refine ⟨k1, .of k3 ?_⟩
  exact (D.ok.good _ (zAf k1)).2.2 _ k3
 | opens _ hb hr _ ih => exact ⟨ih.1, .next ih.2 hb hr⟩
theorem zHf {G : Gram} {r : Nat} (hr : r < G.rules.length) {d : Nat} (hd : d < (G.rules[r]).2.length) : (G.rules[r]).2 = (G.rules[r]).2.take d ++ (G.rules[r]).2[d] :: (G.rules[r]).2.drop (d + 1) := by
 rw [← List.drop_eq_getElem_cons hd, List.take_append_drop]
theorem zGb {G : Gram} {q : Whole} (D : Done G q) (hv : checkN G = 0) {i : Nat} {x : Itm} {t : Int} (h : La G q i x t) : (x.1 = (G.rules.length : Int) -> t = 0) /\ ∀ r (hr : r < G.rules.length), x.1 = (r : Int) -> Fol G (G.rules[r]).1 t := by
 induction h with
 | start =>
  refine ⟨fun _ => rfl, fun r hr e => ?_⟩
  dsimp only at e
  omega
 | move _ _ _ ih => exact ih
 | opens h0 hb hr hl ih =>
  rename_i i r x t u
  have hrl := (zAp.1 hr).1
  have hrv := (zAp.1 hr).2
  refine ⟨fun e => by dsimp only at e; omega, fun r' hr' e => ?_⟩
  dsimp only at e
  obtain rfl : r' = r := by omega
  have hleft : (G.rules[r']).1 = behV G x := by
   rw [← zAV hr']
   exact hrv
  rw [hleft]
  obtain ⟨xr, xd⟩ := x
  obtain ⟨b1, b2⟩ := zAa.1 hb
  obtain ⟨c1, c2⟩ := zAK.1 b1
  dsimp only at c1 c2 b2 ih
  obtain ⟨n, rfl⟩ := Int.eq_ofNat_of_zero_le c1.1
  obtain ⟨d, rfl⟩ := Int.eq_ofNat_of_zero_le c2.1
  have hrb : zAN G (n : Int) = true := by
   unfold zAN
   exact decide_eq_true c1
  have hd : d < (zAB G (n : Int)).2.length := by
   unfold rlen at b2
   omega
  have hsym := (zBL hrb hd).2
  have hnon : nonB G (behV G ((n : Int), (d : Int))) = true := by
   rw [← hleft, ← zAV hr']
   exact zAw (zAT hv).2.2.2.1 hr'
  have hrest : zFn G ((n : Int), (d : Int)) = (zAB G (n : Int)).2.drop (d + 1) := by
   unfold zFn
   dsimp only
   congr 1
  rw [hrest] at hl
  have ht := zD5 h0
  by_cases hn : n < G.rules.length
  ·have e2 : (zAB G (n : Int)).2 = (G.rules[n]).2 := by rw [(zAb hn).2]
   have hd' : d < (G.rules[n]).2.length := by rw [← e2]; exact hd
   have hs : (zAB G (n : Int)).2[d] = (G.rules[n]).2[d] := by simp only [e2]
   rw [e2] at hl
   have hp := zHf hn hd'
   have hx : behV G ((n : Int), (d : Int)) = (G.rules[n]).2[d] := by rw [hsym, hs]
   rw [hx] at hnon ⊢
   rcases (zA7 hv ht).1 hl with q | ⟨q1, rfl⟩
   ·exact .next (List.getElem_mem hn) hp hnon q
   ·exact .last (List.getElem_mem hn) hp hnon q1 (ih.2 n hn rfl)
  ·obtain rfl : n = G.rules.length := by omega
   have e2 : (zAB G ((G.rules.length : Nat) : Int)).2 = [G.start] := by rw [(zAU G).2]
   have hd0 : d = 0 := by rw [e2] at hd; simp at hd; omega
   subst hd0
   have hx : behV G (((G.rules.length : Nat) : Int), ((0 : Nat) : Int)) = G.start := by
    rw [hsym]
    simp only [e2, List.getElem_cons_zero]
   rw [hx]
   rw [e2] at hl
   have h0' := ih.1 rfl
   rcases (zA7 hv ht).1 hl with q | ⟨q1, q2⟩
   ·exact absurd q zCv
   ·rw [q2, h0']
    exact .start
open Classical in
noncomputable def laL (G : Gram) (q : Whole) (i : Nat) (x : Itm) : List Nat := (List.range (G.terms.length + 1)).filter fun t => decide (La G q i x (t : Int))
open Classical in
theorem zLV {G : Gram} {q : Whole} {i : Nat} {x : Itm} {t : Nat} : t ∈ laL G q i x ↔ La G q i x (t : Int) := by
 unfold laL
 rw [List.mem_filter, List.mem_range]
 constructor
 ·exact fun h => of_decide_eq_true h.2
 ·refine fun h => ⟨?_, decide_eq_true h⟩
  rcases zD5 h with e | e
  ·omega
  ·have := (zAg.1 e).2
   omega
def endI (G : Gram) (k : Nat) : Itm := ((k : Int), ((zAB G (k : Int)).2.length : Int))
open Classical in
noncomputable def zAY (G : Gram) (q : Whole) (i : Nat) : List (Nat × List Nat) := ((List.range (G.rules.length + 1)).filter fun k => decide (Clo G (zAF q.1 i) (endI G k))).map fun k => (k, laL G q i (endI G k))
noncomputable def zB2 (G : Gram) (q : Whole) : List (List (Nat × List Nat)) := (List.range q.1.length).map (zAY G q)
theorem zAx (G : Gram) (q : Whole) : (zB2 G q).length = q.1.length := by simp [zB2]
theorem zCe {G : Gram} {L : List Itm} {x : Itm} (h : Clo G L x) : behB G x = false ↔ ∃ k : Nat, k <= G.rules.length /\ x = endI G k := by
 have hr := zAS h
 obtain ⟨⟨h1, h2⟩, h3, h4⟩ := zAK.1 hr
 obtain ⟨r, d⟩ := x
 dsimp only at h1 h2 h3 h4
 obtain ⟨n, rfl⟩ := Int.eq_ofNat_of_zero_le h1
 unfold rlen at h4
 constructor
 ·intro hb
  refine ⟨n, by omega, ?_⟩
  have : ¬ d < ((zAB G (n : Int)).2.length : Int) := fun q => by
   have := zAa.2 ⟨hr, (show ((n : Int), d).2 < (rlen G ((n : Int), d).1 : Int) from by unfold rlen; exact q)⟩
   rw [hb] at this
   cases this
  unfold endI
  exact Prod.ext rfl (by dsimp only; omega)
 ·rintro ⟨k, hk, e⟩
  unfold endI at e
  injection e with e1 e2
  obtain rfl : n = k := by omega
  cases hb : behB G ((n : Int), d) with
  | false => rfl
  | true =>
   have := (zAa.1 hb).2
   unfold rlen at this
   dsimp only at this
   omega
end Lk
namespace Au
open Go.RowKit Go.Maps
open Gr (boxed cell_later zAc)
open Im
structure Small (X : List Sta) : Prop where
 len : X.length <= 1000000
 items : ∀ s ∈ X, s.1.length <= 1000000
 trans : ∀ s ∈ X, s.2.length <= 1000000
def inB (X : List Sta) (i : Int) : Bool := decide (0 <= i /\ i < (X.length : Int))
def zMY (X : List Sta) (i : Nat) : List (Int × Int) := (X.getD i ([], [])).2
def zGW (X : List Sta) (i s : Int) : Int := if inB X i then leads (zMY X i.toNat) s else -1
theorem zPz {X : List Sta} {i : Nat} (h : i < X.length) : inB X (i : Int) = true := decide_eq_true ⟨by omega, by omega⟩
theorem zPy {X : List Sta} {i : Int} : inB X i = true ↔ 0 <= i /\ i < (X.length : Int) := decide_eq_true_iff
theorem zFU {X : List Sta} {i : Nat} (h : i < X.length) (s : Int) : zGW X (i : Int) s = leads X[i].2 s := by
 unfold zGW zMY
 rw [zPz h, if_pos rfl, Int.toNat_natCast, List.getD_eq_getElem?_getD, List.getElem?_eq_getElem h]
 rfl
theorem zDy {X : List Sta} {i : Int} (h : inB X i = false) (s : Int) : zGW X i s = -1 := by
 unfold zGW
 rw [h, if_neg Bool.false_ne_true]
def zIo (tr : List (Int × Int)) (s : Int) (k : Nat) : Prop := ∀ j (h : j < tr.length), j < k -> tr[j].1 ≠ s
theorem zJN (tr : List (Int × Int)) (s : Int) : zIo tr s 0 := fun _ _ h => absurd h (by omega)
theorem zJM {tr : List (Int × Int)} {s : Int} {k : Nat} (h : zIo tr s k) (hk : k < tr.length) (e : tr[k].1 ≠ s) : zIo tr s (k + 1) := fun j hj hl => by
 by_cases he : j = k
 ·subst he
  exact e
 ·exact h j hj (by omega)
theorem zLJ {tr : List (Int × Int)} {s : Int} {k : Nat} (h : zIo tr s k) (hk : k < tr.length) (e : tr[k].1 = s) : leads tr s = tr[k].2 := by
 unfold leads
 have : tr.find? (fun x => decide (x.1 = s)) = some tr[k] := by
  rw [List.find?_eq_some_iff_getElem]
  exact ⟨decide_eq_true e, k, hk, rfl, fun j hj => by
   have := h j (by omega) hj
   simpa using this⟩
 rw [this]
 rfl
theorem zLI {tr : List (Int × Int)} {s : Int} {k : Nat} (h : zIo tr s k) (hk : ¬ k < tr.length) : leads tr s = -1 := by
 unfold leads
 have : tr.find? (fun x => decide (x.1 = s)) = none := by
  rw [List.find?_eq_none]
  intro x hx
  obtain ⟨j, hj, rfl⟩ := List.mem_iff_getElem.1 hx
  have := h j hj (by omega)
  simpa using this
 rw [this]
 rfl
def zEh (X : List Sta) (i : Int) : List Int -> Int
 | [] => if inB X i then i else -1
 | s :: way => if inB X i then zEh X (zGW X i s) way else -1
theorem zKw (X : List Sta) : inB X (-1) = false := decide_eq_false (fun h => by omega)
theorem zEO {X : List Sta} {i : Int} (h : inB X i = false) (way : List Int) : zEh X i way = -1 := by
 cases way with
 | nil => simp [zEh, h]
 | cons s way => simp [zEh, h]
theorem zJq (X : List Sta) (i s : Int) (way : List Int) : zEh X i (s :: way) = zEh X (zGW X i s) way := by
 cases h : inB X i with
 | true => simp [zEh, h]
 | false => rw [zEO h, zDy h, zEO (zKw X)]
theorem zMc {X : List Sta} {ts : List (List (Int × Int))} (e : ∀ i (h : i < X.length), X[i].2 = ts.getD i []) : ∀ (way : List Int) (i : Int), zDW X.length ts i way = zEh X i way
 | [], i => by
  unfold zDW zEh inB
  by_cases hi : 0 <= i /\ i < (X.length : Int)
  ·rw [if_pos hi, decide_eq_true hi, if_pos rfl]
  ·rw [if_neg hi, decide_eq_false hi, if_neg Bool.false_ne_true]
 | s :: way, i => by
  have hw : zDW X.length ts i (s :: way) = if 0 <= i /\ i < (X.length : Int) then zDW X.length ts (zKn X.length ts i s) way else -1 := rfl
  rw [hw, zJq]
  by_cases hi : 0 <= i /\ i < (X.length : Int)
  ·rw [if_pos hi, zMc e way]
   obtain ⟨n, rfl⟩ := Int.eq_ofNat_of_zero_le hi.1
   have hn : n < X.length := by omega
   congr 1
   rw [zFU hn, e n hn]
   unfold zKn
   rw [if_pos hi, Int.toNat_natCast]
  ·rw [if_neg hi, zDy (decide_eq_false hi), zEO (zKw X)]
theorem zDM (X : List Sta) (a : Option Addr) (c : Nat) (i : Int) (w : World) (hl : X.length <= 1000000) :
  Calls Tryz.prog 91 #[.slice a X.length c, .int .i64 i] w (Gr.Is (.bool (inB X i)) w) := by
 unfold inB
 generalize X.length = n at *
 by_cases h0 : 0 <= i
 ·by_cases h1 : i < (n : Int)
  ·rw [decide_eq_true (p := 0 <= i /\ i < (n : Int)) ⟨h0, h1⟩]
   go_enter Tryz.func91, Tryz.ntmps91
   go_wp2
   go_ret
   exact ⟨rfl, .refl _ _⟩
  ·rw [decide_eq_false (p := 0 <= i /\ i < (n : Int)) (fun q => h1 q.2)]
   go_enter Tryz.func91, Tryz.ntmps91
   go_wp2
   go_ret
   exact ⟨rfl, .refl _ _⟩
 ·rw [decide_eq_false (p := 0 <= i /\ i < (n : Int)) (fun q => h0 q.1)]
  have h2 : i < 0 := by omega
  go_enter Tryz.func91, Tryz.ntmps91
  go_wp2
  go_ret
  exact ⟨rfl, .refl _ _⟩
theorem zNK (X : List Sta) (a : Option Addr) (c : Nat) (i s : Int) (w : World) (hX : StaA a X w) (sm : Small X) :
  Calls Tryz.prog 56 #[.slice a X.length c, .int .i64 i, .int .i64 s] w (Gr.Is (.int .i64 (zGW X i s)) w) := by
 have WI := zSt (fun w1 => zDM X a c i w1 sm.len)
 have hxl := sm.len
 cases hin : inB X i with
 | false =>
  rw [zDy hin]
  rw [hin] at WI
  clear hX hin
  go_enter Tryz.func56, Tryz.ntmps56
  go_wp2_with (go_at_call 91; refine (WI.out _).mono ?_; rintro e w1 ⟨rfl, hb⟩; have HB := zSt hb; clear hb)
  go_ret
  exact ⟨rfl, HB.out⟩
 | true =>
  rw [hin] at WI
  obtain ⟨h0, h1⟩ := zPy.1 hin
  obtain ⟨k, rfl⟩ := Int.eq_ofNat_of_zero_le h0
  have hk : k < X.length := by omega
  rw [zFU hk]
  obtain ⟨b, o, a1, c1, a2, c2, rfl, z1, z2, i1, i2, l1, l2⟩ := hX k hk
  have TR := zSt (fun w1 (b : Below w.heap.size w w1) => i2.went b)
  have hsm := sm.trans _ (List.getElem_mem hk)
  have Z2 := zSt (fun w1 (b : Below w.heap.size w w1) => cell_later b z2)
  clear hX sm z1 z2 i1 i2 l1 hin h0 h1
  generalize X[k].2 = tr at *
  generalize X.length = n at *
  go_enter Tryz.func56, Tryz.ntmps56
  go_wp2_with (go_at_call 91; refine (WI.out _).mono ?_; rintro e w1 ⟨rfl, hb⟩; have HB := zSt hb; have q2 := Z2.out _ hb; clear hb)
  go_loopw [19] (fun q wr => ∃ j : Nat, q = .int .i64 j /\ j <= tr.length /\ zIo tr s j /\ Below w.heap.size w wr) (fun q _ => tr.length - (intOf q).toNat)
  case atStart => exact ⟨0, rfl, Nat.zero_le _, zJN _ _, HB.out⟩
  case round =>
   obtain ⟨j, rfl, hj, hN, hW⟩ := hrel
   have N := zSt hN
   have HW := zSt hW
   clear hN
   by_cases hlt : j < tr.length
   ·obtain ⟨b2, o2, rfl, p0, p1⟩ := (TR.out wr hW).at j hlt
    have NS := zSt (fun e => zJM N.out hlt e)
    have NH := zSt (fun e => zLJ N.out hlt e)
    have e1 : ((tr[j].1, tr[j].2) : Itm) = tr[j] := rfl
    generalize tr[j] = x at *
    obtain ⟨x0, x1⟩ := x
    dsimp only at p0 p1
    clear e1 hW
    have HA := zSt (Gr.step HW.out (boxed wr (.cells #[.int .i64 x0, .int .i64 x1] 104)))
    by_cases he : x0 = s
    ·have E := zSt (NH.out he)
     subst he
     clear NS NH
     go_wp2
     go_ret
     exact ⟨zAc E.out, HA.out⟩
    ·have E := zSt (NS.out he)
     clear NS NH
     go_wp2
     go_roundw
     case rel => exact ⟨j + 1, by go_num, by omega, E.out, HA.out⟩
     case measure => simp [intOf]; omega
   ·have E := zSt (zLI N.out hlt)
    clear hW
    go_wp2
    go_ret
    exact ⟨zAc E.out, HW.out⟩
