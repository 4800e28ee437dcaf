/- A part of the proof. -/
import Derived.Test.YtbajcecncgdpmaaGreatDoorPk18
set_option maxHeartbeats 2000000
set_option maxRecDepth 100000
set_option linter.unusedVariables false
namespace Go.Proofs.YtbajcecncgdpmaaGreatDoor
namespace Fi
open Gr (Gram nonB zCk zAd)
inductive Can (G : Gram) : Int -> Prop
 | mk (r : Int × List Int) : r ∈ G.rules -> (∀ y ∈ r.2, Can G y) -> Can G r.1
inductive Fst (G : Gram) : Int -> Int -> Prop
 | leaf {x : Int} : x = 0 \/ zCk G x = true -> Fst G x x
 | rule {r : Int × List Int} {pre : List Int} {y : Int} {post : List Int} {t : Int} : r ∈ G.rules -> r.2 = pre ++ y :: post -> (∀ z ∈ pre, Can G z) -> Fst G y t -> Fst G r.1 t
def zB2 (G : Gram) (l : List Int) (t : Int) : Prop := ∃ pre y post, l = pre ++ y :: post /\ (∀ z ∈ pre, Can G z) /\ Fst G y t
inductive Fol (G : Gram) : Int -> Int -> Prop
 | start : Fol G G.start 0
 | next {r : Int × List Int} {pre : List Int} {x : Int} {post : List Int} {t : Int} : r ∈ G.rules -> r.2 = pre ++ x :: post -> nonB G x = true -> zB2 G post t -> Fol G x t
 | last {r : Int × List Int} {pre : List Int} {x : Int} {post : List Int} {t : Int} : r ∈ G.rules -> r.2 = pre ++ x :: post -> nonB G x = true -> (∀ z ∈ post, Can G z) -> Fol G r.1 t -> Fol G x t
theorem zEO {G : Gram} {t : Int} : ¬ zB2 G [] t := fun ⟨pre, y, post, h, _⟩ => by
 cases pre <;> cases h
theorem zCi {G : Gram} {y : Int} {l : List Int} {t : Int} : zB2 G (y :: l) t ↔ Fst G y t \/ (Can G y /\ zB2 G l t) := by
 constructor
 ·rintro ⟨pre, z, post, h, hc, hf⟩
  cases pre with
  | nil =>
   injection h with h1 h2
   subst h1
   exact .inl hf
  | cons a pre =>
   injection h with h1 h2
   subst h1
   exact .inr ⟨hc _ (List.mem_cons_self ..), pre, z, post, h2, fun w hw => hc w (List.mem_cons_of_mem _ hw), hf⟩
 ·rintro (h | ⟨h1, pre, z, post, h2, h3, h4⟩)
  ·exact ⟨[], y, l, rfl, (fun z hz => by cases hz), h⟩
  ·refine ⟨y :: pre, z, post, by rw [h2]; rfl, fun w hw => ?_, h4⟩
   rcases List.mem_cons.1 hw with e | e
   ·subst e
    exact h1
   ·exact h3 w e
theorem Fst.line {G : Gram} {r : Int × List Int} {t : Int} (hr : r ∈ G.rules) (h : zB2 G r.2 t) : Fst G r.1 t := by
 obtain ⟨pre, y, post, h1, h2, h3⟩ := h
 exact .rule hr h1 h2 h3
theorem zGU {G : Gram} {x t : Int} (h : Fst G x t) : 0 <= t /\ t <= (G.terms.length : Int) := by
 induction h with
 | leaf h =>
  rcases h with h | h
  ·omega
  ·have := zAd.1 h
   omega
 | rule _ _ _ _ ih => exact ih
theorem zBA {G : Gram} {l : List Int} {t : Int} (h : zB2 G l t) : 0 <= t /\ t <= (G.terms.length : Int) := by
 obtain ⟨_, _, _, _, _, h⟩ := h
 exact zGU h
theorem zHE {G : Gram} {x t : Int} (h : Fol G x t) : 0 <= t /\ t <= (G.terms.length : Int) := by
 induction h with
 | start => omega
 | next _ _ _ h => exact zBA h
 | last _ _ _ _ _ ih => exact ih
theorem zPa {G : Gram} {x : Int} (h : Can G x) : ∃ r ∈ G.rules, r.1 = x := by
 cases h with
 | mk r hr _ => exact ⟨r, hr, rfl⟩
def allC (C : Int -> Bool) (l : List Int) : Bool := l.all C
def zAO (C : Int -> Bool) (F : Int -> Int -> Bool) : List Int -> Int -> Bool
 | [], _ => false
 | y :: l, t => F y t || (C y && zAO C F l t)
theorem zBn {C : Int -> Bool} {l : List Int} : allC C l = true ↔ ∀ z ∈ l, C z = true := by
 unfold allC
 exact List.all_eq_true
theorem zBK {C : Int -> Bool} {F : Int -> Int -> Bool} {l : List Int} {t : Int} : zAO C F l t = true ↔ ∃ pre y post, l = pre ++ y :: post /\ (∀ z ∈ pre, C z = true) /\ F y t = true := by
 induction l with
 | nil =>
  constructor
  ·intro h; cases h
  ·rintro ⟨pre, y, post, h, _⟩
   cases pre <;> cases h
 | cons a l ih =>
  unfold zAO
  rw [Bool.or_eq_true, Bool.and_eq_true, ih]
  constructor
  ·rintro (h | ⟨h1, pre, z, post, h2, h3, h4⟩)
   ·exact ⟨[], a, l, rfl, (fun z hz => by cases hz), h⟩
   ·refine ⟨a :: pre, z, post, by rw [h2]; rfl, fun w hw => ?_, h4⟩
    rcases List.mem_cons.1 hw with e | e
    ·subst e
     exact h1
    ·exact h3 w e
  ·rintro ⟨pre, z, post, h, hc, hf⟩
   cases pre with
   | nil =>
    injection h with h1 h2
    subst h1
    exact .inl hf
   | cons b pre =>
    injection h with h1 h2
    subst h1
    exact .inr ⟨hc _ (List.mem_cons_self ..), pre, z, post, h2, fun w hw => hc w (List.mem_cons_of_mem _ hw), hf⟩
structure Snd (G : Gram) (C : Int -> Bool) (F : Int -> Int -> Bool) : Prop where
 can : ∀ x, C x = true -> Can G x
 fst : ∀ x t, F x t = true -> Fst G x t
def Leaf (G : Gram) (F : Int -> Int -> Bool) : Prop := ∀ x, x = 0 \/ zCk G x = true -> F x x = true
structure Shut (C : Int -> Bool) (F : Int -> Int -> Bool) (r : Int × List Int) : Prop where
 can : allC C r.2 = true -> C r.1 = true
 fst : ∀ t, zAO C F r.2 t = true -> F r.1 t = true
theorem Snd.all {G : Gram} {C : Int -> Bool} {F : Int -> Int -> Bool} (h : Snd G C F) {l : List Int} (hl : allC C l = true) : ∀ z ∈ l, Can G z := fun z hz => h.can z (zBn.1 hl z hz)
theorem Snd.line {G : Gram} {C : Int -> Bool} {F : Int -> Int -> Bool} (h : Snd G C F) {l : List Int} {t : Int} (hl : zAO C F l t = true) : zB2 G l t := by
 obtain ⟨pre, y, post, h1, h2, h3⟩ := zBK.1 hl
 exact ⟨pre, y, post, h1, fun z hz => h.can z (h2 z hz), h.fst y t h3⟩
structure Just (G : Gram) (C : Int -> Bool) (F : Int -> Int -> Bool) : Prop where
 can : ∀ x, C x = true ↔ Can G x
 fst : ∀ x t, F x t = true ↔ Fst G x t
theorem zL3 {G : Gram} {C : Int -> Bool} {F : Int -> Int -> Bool} (h : Snd G C F) (hl : Leaf G F) (hs : ∀ r ∈ G.rules, Shut C F r) : Just G C F := by
 have hc : ∀ x, Can G x -> C x = true := fun x k => by
  induction k with
  | mk r hr _ ih => exact (hs r hr).can (zBn.2 fun z hz => ih z hz)
 refine ⟨fun x => ⟨h.can x, hc x⟩, fun x t => ⟨h.fst x t, fun k => ?_⟩⟩
 induction k with
 | leaf k => exact hl _ k
 | rule hr h1 h2 _ ih => exact (hs _ hr).fst _ (zBK.2 ⟨_, _, _, h1, fun z hz => hc z (h2 z hz), ih⟩)
theorem Just.all {G : Gram} {C : Int -> Bool} {F : Int -> Int -> Bool} (h : Just G C F) (l : List Int) : allC C l = true ↔ ∀ z ∈ l, Can G z := by
 rw [zBn]
 exact ⟨fun k z hz => (h.can z).1 (k z hz), fun k z hz => (h.can z).2 (k z hz)⟩
theorem Just.line {G : Gram} {C : Int -> Bool} {F : Int -> Int -> Bool} (h : Just G C F) (l : List Int) (t : Int) : zAO C F l t = true ↔ zB2 G l t := by
 rw [zBK]
 constructor
 ·rintro ⟨pre, y, post, h1, h2, h3⟩
  exact ⟨pre, y, post, h1, fun z hz => (h.can z).1 (h2 z hz), (h.fst y t).1 h3⟩
 ·rintro ⟨pre, y, post, h1, h2, h3⟩
  exact ⟨pre, y, post, h1, fun z hz => (h.can z).2 (h2 z hz), (h.fst y t).2 h3⟩
def addC (C : Int -> Bool) (r : Int × List Int) : Int -> Bool := fun x => C x || (decide (x = r.1) && allC C r.2)
def addF (C : Int -> Bool) (F : Int -> Int -> Bool) (r : Int × List Int) : Int -> Int -> Bool := fun x t => F x t || (decide (x = r.1) && zAO C F r.2 t)
theorem Snd.addF {G : Gram} {C : Int -> Bool} {F : Int -> Int -> Bool} (h : Snd G C F) {r : Int × List Int} (hr : r ∈ G.rules) : Snd G C (addF C F r) := by
 refine ⟨h.can, fun x t k => ?_⟩
 unfold Fi.addF at k
 rw [Bool.or_eq_true, Bool.and_eq_true, decide_eq_true_iff] at k
 rcases k with k | ⟨e, k⟩
 ·exact h.fst x t k
 ·subst e
  exact .line hr (h.line k)
theorem Snd.addC {G : Gram} {C : Int -> Bool} {F : Int -> Int -> Bool} (h : Snd G C F) {r : Int × List Int} (hr : r ∈ G.rules) : Snd G (addC C r) F := by
 refine ⟨fun x k => ?_, h.fst⟩
 unfold Fi.addC at k
 rw [Bool.or_eq_true, Bool.and_eq_true, decide_eq_true_iff] at k
 rcases k with k | ⟨e, k⟩
 ·exact h.can x k
 ·subst e
  exact .mk r hr (h.all k)
theorem zEo {C : Int -> Bool} {r : Int × List Int} (h : allC C r.2 = true -> C r.1 = true) : addC C r = C := by
 funext x
 unfold addC
 by_cases e : x = r.1
 ·subst e
  cases ha : allC C r.2 with
  | false => simp
  | true => simp [h ha]
 ·simp [e]
theorem zHS {C : Int -> Bool} {F : Int -> Int -> Bool} {r : Int × List Int} (h : ∀ t, zAO C F r.2 t = true -> F r.1 t = true) : addF C F r = F := by
 funext x t
 unfold addF
 by_cases e : x = r.1
 ·subst e
  cases ha : zAO C F r.2 t with
  | false => simp
  | true => simp [h t ha]
 ·simp [e]
structure BSnd (G : Gram) (B : Int -> Int -> Bool) : Prop where
 fol : ∀ x t, B x t = true -> Fol G x t
def zTS (G : Gram) (C : Int -> Bool) (F B : Int -> Int -> Bool) (r : Int × List Int) : Prop :=
 ∀ pre x post, r.2 = pre ++ x :: post -> nonB G x = true -> (∀ t, zAO C F post t = true -> B x t = true) /\ (allC C post = true -> ∀ t, B r.1 t = true -> B x t = true)
theorem zMP {G : Gram} {C : Int -> Bool} {F B : Int -> Int -> Bool} (j : Just G C F) (h : BSnd G B) (h0 : B G.start 0 = true) (hs : ∀ r ∈ G.rules, zTS G C F B r) : ∀ x t, B x t = true ↔ Fol G x t := fun x t => by
 refine ⟨h.fol x t, fun k => ?_⟩
 induction k with
 | start => exact h0
 | next hr h1 h2 h3 => exact (hs _ hr _ _ _ h1 h2).1 _ ((j.line _ _).2 h3)
 | last hr h1 h2 h3 _ ih => exact (hs _ hr _ _ _ h1 h2).2 ((j.all _).2 h3) _ ih
theorem BSnd.put {G : Gram} {B : Int -> Int -> Bool} (h : BSnd G B) {x : Int} {P : Int -> Bool} (hP : ∀ t, P t = true -> Fol G x t) : BSnd G (fun y t => B y t || (decide (y = x) && P t)) := by
 refine ⟨fun y t k => ?_⟩
 rw [Bool.or_eq_true, Bool.and_eq_true, decide_eq_true_iff] at k
 rcases k with k | ⟨e, k⟩
 ·exact h.fol y t k
 ·subst e
  exact hP t k
noncomputable def canB (G : Gram) (x : Int) : Bool := @decide (Can G x) (Classical.propDecidable _)
noncomputable def fstB (G : Gram) (x t : Int) : Bool := @decide (Fst G x t) (Classical.propDecidable _)
noncomputable def folB (G : Gram) (x t : Int) : Bool := @decide (Fol G x t) (Classical.propDecidable _)
theorem zAj {G : Gram} {x : Int} : canB G x = true ↔ Can G x := by unfold canB; exact @decide_eq_true_iff _ (Classical.propDecidable _)
theorem zBG {G : Gram} {x t : Int} : fstB G x t = true ↔ Fst G x t := by unfold fstB; exact @decide_eq_true_iff _ (Classical.propDecidable _)
theorem zGL {G : Gram} {x t : Int} : folB G x t = true ↔ Fol G x t := by unfold folB; exact @decide_eq_true_iff _ (Classical.propDecidable _)
theorem zLw (G : Gram) : Just G (canB G) (fstB G) := ⟨fun _ => zAj, fun _ _ => zBG⟩
theorem Just.eq {G : Gram} {C : Int -> Bool} {F : Int -> Int -> Bool} (h : Just G C F) : C = canB G /\ F = fstB G := by
 constructor
 ·funext x
  rw [Bool.eq_iff_iff, h.can, zAj]
 ·funext x t
  rw [Bool.eq_iff_iff, h.fst, zBG]
def lst (P : Int -> Bool) (n : Nat) : List Int := ((List.range n).filter fun i : Nat => P (i : Int)).map fun i : Nat => (i : Int)
theorem zBV {P : Int -> Bool} {n : Nat} {t : Int} : t ∈ lst P n ↔ 0 <= t /\ t < (n : Int) /\ P t = true := by
 unfold lst
 rw [List.mem_map]
 constructor
 ·rintro ⟨i, hi, rfl⟩
  rw [List.mem_filter, List.mem_range] at hi
  exact ⟨by omega, by omega, hi.2⟩
 ·rintro ⟨h0, h1, h2⟩
  have e : ((t.toNat : Nat) : Int) = t := by omega
  exact ⟨t.toNat, by rw [List.mem_filter, List.mem_range]; exact ⟨by omega, by rw [e]; exact h2⟩, e⟩
theorem zNQ {P : Int -> Bool} {n : Nat} (h : P (n : Int) = true) : lst P (n + 1) = lst P n ++ [(n : Int)] := by
 unfold lst
 rw [List.range_succ, List.filter_append, List.map_append]
 simp [h]
theorem zIe {P : Int -> Bool} {n : Nat} (h : P (n : Int) = false) : lst P (n + 1) = lst P n := by
 unfold lst
 rw [List.range_succ, List.filter_append, List.map_append]
 simp [h]
theorem zEf (P : Int -> Bool) (n : Nat) : (lst P n).length <= n := by
 unfold lst
 rw [List.length_map]
 exact Nat.le_trans (List.length_filter_le _ _) (by simp)
theorem zIc {P : Int -> Bool} {n : Nat} (h : ∀ i : Nat, i < n -> P (i : Int) = false) : lst P n = [] := by
 rw [List.eq_nil_iff_forall_not_mem]
 intro t ht
 obtain ⟨h0, h1, h2⟩ := zBV.1 ht
 have := h t.toNat (by omega)
 have e : ((t.toNat : Nat) : Int) = t := by omega
 rw [e, h2] at this
 cases this
def zCm (P : Int -> Bool) : Nat -> Nat
 | 0 => 0
 | n + 1 => zCm P n + if P (n : Int) = true then 0 else 1
theorem zD3 {P Q : Int -> Bool} {n : Nat} (h : ∀ i : Nat, i < n -> P (i : Int) = true -> Q (i : Int) = true) : zCm Q n <= zCm P n := by
 induction n with
 | zero => exact Nat.le_refl _
 | succ n ih =>
  have h1 := ih fun i hi => h i (by omega)
  unfold zCm
  by_cases hp : P (n : Int) = true
  ·rw [if_pos hp, if_pos (h n (by omega) hp)]
   exact h1
  ·rw [if_neg hp]
   split <;> omega
theorem zDG {P Q : Int -> Bool} {n k : Nat} (h : ∀ i : Nat, i < n -> P (i : Int) = true -> Q (i : Int) = true) (hk : k < n) (hp : P (k : Int) = false) (hq : Q (k : Int) = true) : zCm Q n < zCm P n := by
 induction n with
 | zero => omega
 | succ n ih =>
  unfold zCm
  by_cases e : k = n
  ·subst e
   have h1 := zD3 (n := k) fun i hi => h i (by omega)
   rw [if_pos hq, if_neg (by rw [hp]; decide)]
   omega
  ·have h1 := ih (fun i hi => h i (by omega)) (by omega)
   by_cases hp2 : P (n : Int) = true
   ·rw [if_pos hp2, if_pos (h n (by omega) hp2)]
    exact h1
   ·rw [if_neg hp2]
    split <;> omega
def zAr (F : Int -> Int -> Bool) (m : Nat) : Nat -> Nat
 | 0 => 0
 | n + 1 => zAr F m n + zCm (F (n : Int)) m
theorem zIs {F H : Int -> Int -> Bool} {m n : Nat} (h : ∀ x t : Nat, x < n -> t < m -> F (x : Int) (t : Int) = true -> H (x : Int) (t : Int) = true) : zAr H m n <= zAr F m n := by
 induction n with
 | zero => exact Nat.le_refl _
 | succ n ih => exact Nat.add_le_add (ih fun x t hx => h x t (by omega)) (zD3 fun t ht => h n t (by omega) ht)
theorem zGQ {F H : Int -> Int -> Bool} {m n k : Nat} (h : ∀ x t : Nat, x < n -> t < m -> F (x : Int) (t : Int) = true -> H (x : Int) (t : Int) = true) (hk : k < n) (hr : zCm (H (k : Int)) m < zCm (F (k : Int)) m) : zAr H m n < zAr F m n := by
 induction n with
 | zero => omega
 | succ n ih =>
  show zAr H m n + zCm (H (n : Int)) m < zAr F m n + zCm (F (n : Int)) m
  by_cases e : k = n
  ·subst e
   have := zIs (F := F) (H := H) (m := m) (n := k) fun x t hx => h x t (by omega)
   omega
  ·have h1 := ih (fun x t hx => h x t (by omega)) (by omega)
   have h2 := zD3 (P := F (n : Int)) (Q := H (n : Int)) (n := m) fun t ht => h n t (by omega) ht
   omega
end Fi
namespace Lk
open Gr (Gram checkN zAR zAD zAN ofN zCk zAM zAd zA8 zAg)
open Im
open Au
open Fi (Fst zB2 zCi zEO)
def zEh (G : Gram) (x : Itm) : List Int := (zAD G x.1).2.drop (x.2 + 1).toNat
inductive La (G : Gram) (q : Whole) : Nat -> Itm -> Int -> Prop
 | start : La G q 0 ((G.rules.length : Int), 0) 0
 | move {i j : Nat} {x : Itm} {t : Int} : La G q i x t -> behB G x = true -> leads (q.2.getD i []) (behV G x) = (j : Int) -> La G q j (x.1, x.2 + 1) t
 | opens {i r : Nat} {x : Itm} {t u : Int} : La G q i x t -> behB G x = true -> r ∈ ofN G (behV G x) -> zB2 G (zEh G x ++ [t]) u -> La G q i ((r : Int), 0) u
theorem zO1 {G : Gram} (hv : checkN G = 0) {t u : Int} (ht : t = 0 \/ zCk G t = true) (h : Fst G t u) : u = t := by
 generalize hx : t = x at h
 cases h with
 | leaf _ => exact hx.symm ▸ rfl
 | rule hr _ _ _ =>
  rename_i r pre y post
  exfalso
  obtain ⟨i, hi, rfl⟩ := List.getElem_of_mem hr
  have h1 := zA8 (zAR hv).2.2.2.1 hi
  rw [zAg hi] at h1
  have h2 := zAM.1 h1
  rw [← hx] at h2
  rcases ht with q | q
  ·omega
  ·have := zAd.1 q
   omega
theorem zBz {G : Gram} (hv : checkN G = 0) {t : Int} (ht : t = 0 \/ zCk G t = true) : ∀ {l : List Int} {u : Int}, zB2 G (l ++ [t]) u ↔ zB2 G l u \/ ((∀ z ∈ l, Fi.Can G z) /\ u = t)
 | [], u => by
  rw [List.nil_append, zCi]
  constructor
  ·rintro (h | ⟨_, h⟩)
   ·exact .inr ⟨(fun z hz => by cases hz), zO1 hv ht h⟩
   ·exact absurd h zEO
  ·rintro (h | ⟨_, rfl⟩)
   ·exact absurd h zEO
   ·exact .inl (.leaf ht)
 | y :: l, u => by
  rw [List.cons_append, zCi, zCi, zBz hv ht]
  constructor
  ·rintro (h | ⟨h, h1 | ⟨h1, h2⟩⟩)
   ·exact .inl (.inl h)
   ·exact .inl (.inr ⟨h, h1⟩)
   ·exact .inr ⟨fun z hz => by
     rcases List.mem_cons.1 hz with e | e
     ·exact e ▸ h
     ·exact h1 z e, h2⟩
  ·rintro ((h | ⟨h, h1⟩) | ⟨h1, h2⟩)
   ·exact .inl h
   ·exact .inr ⟨h, .inl h1⟩
   ·exact .inr ⟨h1 y (List.mem_cons_self ..), .inr ⟨fun z hz => h1 z (List.mem_cons_of_mem _ hz), h2⟩⟩
theorem zFr {G : Gram} {q : Whole} {i : Nat} {x : Itm} {t : Int} (h : La G q i x t) : t = 0 \/ zCk G t = true := by
 induction h with
 | start => exact .inl rfl
 | move _ _ _ ih => exact ih
 | opens _ _ _ h _ =>
  rename_i u _ _ _ _
  have := Fi.zBA h
  rcases Int.lt_or_eq_of_le this.1 with e | e
  ·exact .inr (zAd.2 ⟨by omega, this.2⟩)
  ·exact .inl e.symm
theorem zG0 {G : Gram} {q : Whole} (D : Done G q) (hv : checkN G = 0) {i : Nat} {x : Itm} {t : Int} (h : La G q i x t) : i < q.1.length /\ Clo G (zAG q.1 i) x := by
 induction h with
 | start =>
  refine ⟨D.ok.pos, .of ?_ (zA2 (Nat.le_refl _))⟩
  rw [D.ok.zero]
  exact List.mem_singleton.2 rfl
 | move _ hb hl ih =>
  rename_i i j x t _
  obtain ⟨h1, h2⟩ := ih
  obtain ⟨r, d⟩ := x
  obtain ⟨b1, b2⟩ := zAa.1 hb
  obtain ⟨c1, c2⟩ := zAL.1 b1
  dsimp only at c1 c2 b2
  obtain ⟨d, rfl⟩ := Int.eq_ofNat_of_zero_le c2.1
  have hr : zAN G r = true := by
   unfold zAN
   exact decide_eq_true c1
  have hd : d < (zAD G r).2.length := by
   unfold rlen at b2
   omega
  obtain ⟨k, k1, k2, k3⟩ := D.one hv h1 hr hd (((zDX _ _).2 _).2 h2)
  rw [← (zBv hr hd).2, hl] at k2
  obtain rfl : j = k := by omega
  refine ⟨k1, .of k3 ?_⟩
  exact (D.ok.good _ (zAb k1)).2.2 _ k3
 | opens _ hb hr _ ih => exact ⟨ih.1, .next ih.2 hb hr⟩
def SndL (G : Gram) (q : Whole) (H : Nat -> Itm -> Int -> Bool) : Prop := ∀ i x t, H i x t = true -> La G q i x t
structure ShutL (G : Gram) (q : Whole) (H : Nat -> Itm -> Int -> Bool) : Prop where
 start : H 0 ((G.rules.length : Int), 0) 0 = true
 move : ∀ i x t (j : Nat), H i x t = true -> behB G x = true -> leads (q.2.getD i []) (behV G x) = (j : Int) -> H j (x.1, x.2 + 1) t = true
 opens : ∀ i x t r u, H i x t = true -> behB G x = true -> r ∈ ofN G (behV G x) -> zB2 G (zEh G x ++ [t]) u -> H i ((r : Int), 0) u = true
theorem zSI {G : Gram} {q : Whole} {H : Nat -> Itm -> Int -> Bool} (h : SndL G q H) (k : ShutL G q H) (i : Nat) (x : Itm) (t : Int) : H i x t = true ↔ La G q i x t := by
 refine ⟨h i x t, fun l => ?_⟩
 induction l with
 | start => exact k.start
 | move _ hb hl ih => exact k.move _ _ _ _ ih hb hl
 | opens _ hb hr hl ih => exact k.opens _ _ _ _ _ ih hb hr hl
open Classical in
noncomputable def laL (G : Gram) (q : Whole) (i : Nat) (x : Itm) : List Nat := (List.range (G.terms.length + 1)).filter fun t => decide (La G q i x (t : Int))
open Classical in
theorem zSt {G : Gram} {q : Whole} {H : Nat -> Itm -> Int -> Bool} (h : ∀ i x t, H i x t = true ↔ La G q i x t) (i : Nat) (x : Itm) : (List.range (G.terms.length + 1)).filter (fun (t : Nat) => H i x (t : Int)) = laL G q i x := by
 unfold laL
 refine List.filter_congr fun t _ => ?_
 rw [Bool.eq_iff_iff, h, decide_eq_true_iff]
def endI (G : Gram) (k : Nat) : Itm := ((k : Int), ((zAD G (k : Int)).2.length : Int))
open Classical in
noncomputable def zAe (G : Gram) (q : Whole) (i : Nat) : List (Nat × List Nat) := ((List.range (G.rules.length + 1)).filter fun k => decide (Clo G (zAG q.1 i) (endI G k))).map fun k => (k, laL G q i (endI G k))
noncomputable def zCO (G : Gram) (q : Whole) : List (List (Nat × List Nat)) := (List.range q.1.length).map (zAe G q)
theorem zBI (G : Gram) (q : Whole) : (zCO G q).length = q.1.length := by simp [zCO]
theorem zDV {G : Gram} {L : List Itm} {x : Itm} (h : Clo G L x) : behB G x = false ↔ ∃ k : Nat, k <= G.rules.length /\ x = endI G k := by
 have hr := zAT h
 obtain ⟨⟨h1, h2⟩, h3, h4⟩ := zAL.1 hr
 obtain ⟨r, d⟩ := x
 dsimp only at h1 h2 h3 h4
 obtain ⟨n, rfl⟩ := Int.eq_ofNat_of_zero_le h1
 unfold rlen at h4
 constructor
 ·intro hb
  refine ⟨n, by omega, ?_⟩
  have : ¬ d < ((zAD G (n : Int)).2.length : Int) := fun q => by
   have := zAa.2 ⟨hr, (show ((n : Int), d).2 < (rlen G ((n : Int), d).1 : Int) from by unfold rlen; exact q)⟩
   rw [hb] at this
   cases this
  unfold endI
  exact Prod.ext rfl (by dsimp only; omega)
 ·rintro ⟨k, hk, e⟩
  unfold endI at e
  injection e with e1 e2
  obtain rfl : n = k := by omega
  cases hb : behB G ((n : Int), d) with
  | false => rfl
  | true =>
   have := (zAa.1 hb).2
   unfold rlen at this
   dsimp only at this
   omega
end Lk
namespace Au
open Go.RowKit Go.Maps
open Gr (boxed cell_later zAU)
open Im
structure Small (X : List Sta) : Prop where
 len : X.length <= 1000000
 items : ∀ s ∈ X, s.1.length <= 1000000
 trans : ∀ s ∈ X, s.2.length <= 1000000
def inB (X : List Sta) (i : Int) : Bool := decide (0 <= i /\ i < (X.length : Int))
def zLV (X : List Sta) (i : Nat) : List (Int × Int) := (X.getD i ([], [])).2
def zE1 (X : List Sta) (i s : Int) : Int := if inB X i then leads (zLV X i.toNat) s else -1
theorem zRF {X : List Sta} {i : Nat} (h : i < X.length) : inB X (i : Int) = true := decide_eq_true ⟨by omega, by omega⟩
theorem zQz {X : List Sta} {i : Int} : inB X i = true ↔ 0 <= i /\ i < (X.length : Int) := decide_eq_true_iff
theorem zDJ {X : List Sta} {i : Nat} (h : i < X.length) (s : Int) : zE1 X (i : Int) s = leads X[i].2 s := by
 unfold zE1 zLV
 rw [zRF h, if_pos rfl, Int.toNat_natCast, List.getD_eq_getElem?_getD, List.getElem?_eq_getElem h]
 rfl
theorem zCJ {X : List Sta} {i : Int} (h : inB X i = false) (s : Int) : zE1 X i s = -1 := by
 unfold zE1
 rw [h, if_neg Bool.false_ne_true]
def zH0 (tr : List (Int × Int)) (s : Int) (k : Nat) : Prop := ∀ j (h : j < tr.length), j < k -> tr[j].1 ≠ s
theorem zFV (tr : List (Int × Int)) (s : Int) : zH0 tr s 0 := fun _ _ h => absurd h (by omega)
theorem zFd {tr : List (Int × Int)} {s : Int} {k : Nat} (h : zH0 tr s k) (hk : k < tr.length) (e : tr[k].1 ≠ s) : zH0 tr s (k + 1) := fun j hj hl => by
 by_cases he : j = k
 ·subst he
  exact e
 ·exact h j hj (by omega)
theorem zHA {tr : List (Int × Int)} {s : Int} {k : Nat} (h : zH0 tr s k) (hk : k < tr.length) (e : tr[k].1 = s) : leads tr s = tr[k].2 := by
 unfold leads
 have : tr.find? (fun x => decide (x.1 = s)) = some tr[k] := by
  rw [List.find?_eq_some_iff_getElem]
  exact ⟨decide_eq_true e, k, hk, rfl, fun j hj => by
   have := h j (by omega) hj
   simpa using this⟩
 rw [this]
 rfl
theorem zGp {tr : List (Int × Int)} {s : Int} {k : Nat} (h : zH0 tr s k) (hk : ¬ k < tr.length) : leads tr s = -1 := by
 unfold leads
 have : tr.find? (fun x => decide (x.1 = s)) = none := by
  rw [List.find?_eq_none]
  intro x hx
  obtain ⟨j, hj, rfl⟩ := List.mem_iff_getElem.1 hx
  have := h j hj (by omega)
  simpa using this
 rw [this]
 rfl
def zEu (X : List Sta) (i : Int) : List Int -> Int
 | [] => if inB X i then i else -1
 | s :: way => if inB X i then zEu X (zE1 X i s) way else -1
theorem zNM (X : List Sta) : inB X (-1) = false := decide_eq_false (fun h => by omega)
theorem zEa {X : List Sta} {i : Int} (h : inB X i = false) (way : List Int) : zEu X i way = -1 := by
 cases way with
 | nil => simp [zEu, h]
 | cons s way => simp [zEu, h]
theorem zJm (X : List Sta) (i s : Int) (way : List Int) : zEu X i (s :: way) = zEu X (zE1 X i s) way := by
 cases h : inB X i with
 | true => simp [zEu, h]
 | false => rw [zEa h, zCJ h, zEa (zNM X)]
theorem zMD {X : List Sta} {ts : List (List (Int × Int))} (e : ∀ i (h : i < X.length), X[i].2 = ts.getD i []) : ∀ (way : List Int) (i : Int), zDs X.length ts i way = zEu X i way
 | [], i => by
  unfold zDs zEu inB
  by_cases hi : 0 <= i /\ i < (X.length : Int)
  ·rw [if_pos hi, decide_eq_true hi, if_pos rfl]
  ·rw [if_neg hi, decide_eq_false hi, if_neg Bool.false_ne_true]
 | s :: way, i => by
  have hw : zDs X.length ts i (s :: way) = if 0 <= i /\ i < (X.length : Int) then zDs X.length ts (zMh X.length ts i s) way else -1 := rfl
  rw [hw, zJm]
  by_cases hi : 0 <= i /\ i < (X.length : Int)
  ·rw [if_pos hi, zMD e way]
   obtain ⟨n, rfl⟩ := Int.eq_ofNat_of_zero_le hi.1
   have hn : n < X.length := by omega
   congr 1
   rw [zDJ hn, e n hn]
   unfold zMh
   rw [if_pos hi, Int.toNat_natCast]
  ·rw [if_neg hi, zCJ (decide_eq_false hi), zEa (zNM X)]
theorem zJ8 (X : List Sta) (a : Option Addr) (c : Nat) (i : Int) (w : World) (hl : X.length <= 1000000) :
  Calls Tryz.prog 91 #[.slice a X.length c, .int .i64 i] w (Gr.Is (.bool (inB X i)) w) := by
 unfold inB
 generalize X.length = n at *
 by_cases h0 : 0 <= i
 ·by_cases h1 : i < (n : Int)
  ·rw [decide_eq_true (p := 0 <= i /\ i < (n : Int)) ⟨h0, h1⟩]
   go_enter Tryz.func91, Tryz.ntmps91
   go_wp2
   go_ret
   exact ⟨rfl, .refl _ _⟩
  ·rw [decide_eq_false (p := 0 <= i /\ i < (n : Int)) (fun q => h1 q.2)]
   go_enter Tryz.func91, Tryz.ntmps91
   go_wp2
   go_ret
   exact ⟨rfl, .refl _ _⟩
 ·rw [decide_eq_false (p := 0 <= i /\ i < (n : Int)) (fun q => h0 q.1)]
  have h2 : i < 0 := by omega
  go_enter Tryz.func91, Tryz.ntmps91
  go_wp2
  go_ret
  exact ⟨rfl, .refl _ _⟩
theorem zN2 (X : List Sta) (a : Option Addr) (c : Nat) (i s : Int) (w : World) (hX : StaA a X w) (sm : Small X) :
  Calls Tryz.prog 56 #[.slice a X.length c, .int .i64 i, .int .i64 s] w (Gr.Is (.int .i64 (zE1 X i s)) w) := by
 have WI := zUB (fun w1 => zJ8 X a c i w1 sm.len)
 have hxl := sm.len
 cases hin : inB X i with
 | false =>
  rw [zCJ hin]
  rw [hin] at WI
  clear hX hin
  go_enter Tryz.func56, Tryz.ntmps56
  go_wp2_with (go_at_call 91; refine (WI.out _).mono ?_; rintro e w1 ⟨rfl, hb⟩; have HB := zUB hb; clear hb)
  go_ret
  exact ⟨rfl, HB.out⟩
 | true =>
  rw [hin] at WI
  obtain ⟨h0, h1⟩ := zQz.1 hin
  obtain ⟨k, rfl⟩ := Int.eq_ofNat_of_zero_le h0
  have hk : k < X.length := by omega
  rw [zDJ hk]
  obtain ⟨b, o, a1, c1, a2, c2, rfl, z1, z2, i1, i2, l1, l2⟩ := hX k hk
  have TR := zUB (fun w1 (b : Below w.heap.size w w1) => i2.went b)
  have hsm := sm.trans _ (List.getElem_mem hk)
  have Z2 := zUB (fun w1 (b : Below w.heap.size w w1) => cell_later b z2)
  clear hX sm z1 z2 i1 i2 l1 hin h0 h1
  generalize X[k].2 = tr at *
  generalize X.length = n at *
  go_enter Tryz.func56, Tryz.ntmps56
  go_wp2_with (go_at_call 91; refine (WI.out _).mono ?_; rintro e w1 ⟨rfl, hb⟩; have HB := zUB hb; have q2 := Z2.out _ hb; clear hb)
  go_loopw [19] (fun q wr => ∃ j : Nat, q = .int .i64 j /\ j <= tr.length /\ zH0 tr s j /\ Below w.heap.size w wr) (fun q _ => tr.length - (intOf q).toNat)
  case atStart => exact ⟨0, rfl, Nat.zero_le _, zFV _ _, HB.out⟩
  case round =>
   obtain ⟨j, rfl, hj, hN, hW⟩ := hrel
   have N := zUB hN
   have HW := zUB hW
   clear hN
   by_cases hlt : j < tr.length
   ·obtain ⟨b2, o2, rfl, p0, p1⟩ := (TR.out wr hW).at j hlt
    have NS := zUB (fun e => zFd N.out hlt e)
    have NH := zUB (fun e => zHA N.out hlt e)
    have e1 : ((tr[j].1, tr[j].2) : Itm) = tr[j] := rfl
    generalize tr[j] = x at *
    obtain ⟨x0, x1⟩ := x
    dsimp only at p0 p1
    clear e1 hW
    have HA := zUB (Gr.step HW.out (boxed wr (.cells #[.int .i64 x0, .int .i64 x1] 104)))
    by_cases he : x0 = s
    ·have E := zUB (NH.out he)
     subst he
     clear NS NH
     go_wp2
     go_ret
     exact ⟨zAU E.out, HA.out⟩
    ·have E := zUB (NS.out he)
     clear NS NH
     go_wp2
     go_roundw
     case rel => exact ⟨j + 1, by go_num, by omega, E.out, HA.out⟩
     case measure => simp [intOf]; omega
   ·have E := zUB (zGp N.out hlt)
    clear hW
    go_wp2
    go_ret
    exact ⟨zAU E.out, HW.out⟩
