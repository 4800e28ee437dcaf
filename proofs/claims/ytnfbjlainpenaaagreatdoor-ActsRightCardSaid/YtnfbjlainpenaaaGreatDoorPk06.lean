/- A part of the proof. -/
import Derived.Lib.SmallJoins
import Derived.Deep.Slices
import Derived.Deep.SlicePairs
import Derived.ChangeSame
import Derived.SliceStrings
import Derived.SizedLaws
import Derived.Carry
import Derived.Test.YtnfbjlainpenaaaGreatDoorPk05
set_option maxRecDepth 100000
set_option linter.unusedVariables false
namespace Go.Proofs.YtnfbjlainpenaaaGreatDoor
namespace Fi
open Gr (Gram nonB zDX zAp)
inductive Can (G : Gram) : Int -> Prop
 | mk (r : Int × List Int) : r ∈ G.rules -> (∀ y ∈ r.2, Can G y) -> Can G r.1
inductive Fst (G : Gram) : Int -> Int -> Prop
 | leaf {x : Int} : x = 0 \/ zDX G x = true -> Fst G x x
 | rule {r : Int × List Int} {pre : List Int} {y : Int} {post : List Int} {t : Int} : r ∈ G.rules -> r.2 = pre ++ y :: post -> (∀ z ∈ pre, Can G z) -> Fst G y t -> Fst G r.1 t
def zCS (G : Gram) (l : List Int) (t : Int) : Prop := ∃ pre y post, l = pre ++ y :: post /\ (∀ z ∈ pre, Can G z) /\ Fst G y t
inductive Fol (G : Gram) : Int -> Int -> Prop
 | start : Fol G G.start 0
 | next {r : Int × List Int} {pre : List Int} {x : Int} {post : List Int} {t : Int} : r ∈ G.rules -> r.2 = pre ++ x :: post -> nonB G x = true -> zCS G post t -> Fol G x t
 | last {r : Int × List Int} {pre : List Int} {x : Int} {post : List Int} {t : Int} : r ∈ G.rules -> r.2 = pre ++ x :: post -> nonB G x = true -> (∀ z ∈ post, Can G z) -> Fol G r.1 t -> Fol G x t
theorem zCu {G : Gram} {t : Int} : ¬ zCS G [] t := fun ⟨pre, y, post, h, _⟩ => by
 cases pre <;> cases h
theorem zBh {G : Gram} {y : Int} {l : List Int} {t : Int} : zCS G (y :: l) t ↔ Fst G y t \/ (Can G y /\ zCS G l t) := by
 constructor
 ·rintro ⟨pre, z, post, h, hc, hf⟩
  cases pre with
  | nil =>
   injection h with h1 h2
   subst h1
   exact .inl hf
  | cons a pre =>
   injection h with h1 h2
   subst h1
   exact .inr ⟨hc _ (List.mem_cons_self ..), pre, z, post, h2, fun w hw => hc w (List.mem_cons_of_mem _ hw), hf⟩
 ·rintro (h | ⟨h1, pre, z, post, h2, h3, h4⟩)
  ·exact ⟨[], y, l, rfl, (fun z hz => by cases hz), h⟩
  ·refine ⟨y :: pre, z, post, by rw [h2]; rfl, fun w hw => ?_, h4⟩
   rcases List.mem_cons.1 hw with e | e
   ·subst e
    exact h1
   ·exact h3 w e
theorem Fst.line {G : Gram} {r : Int × List Int} {t : Int} (hr : r ∈ G.rules) (h : zCS G r.2 t) : Fst G r.1 t := by
 obtain ⟨pre, y, post, h1, h2, h3⟩ := h
 exact .rule hr h1 h2 h3
theorem zKR {G : Gram} {x t : Int} (h : Fst G x t) : 0 <= t /\ t <= (G.terms.length : Int) := by
 induction h with
 | leaf h =>
  rcases h with h | h
  ·omega
  ·have := zAp.1 h
   omega
 | rule _ _ _ _ ih => exact ih
theorem zBi {G : Gram} {l : List Int} {t : Int} (h : zCS G l t) : 0 <= t /\ t <= (G.terms.length : Int) := by
 obtain ⟨_, _, _, _, _, h⟩ := h
 exact zKR h
theorem zKM {G : Gram} {x t : Int} (h : Fol G x t) : 0 <= t /\ t <= (G.terms.length : Int) := by
 induction h with
 | start => omega
 | next _ _ _ h => exact zBi h
 | last _ _ _ _ _ ih => exact ih
def allC (C : Int -> Bool) (l : List Int) : Bool := l.all C
def zAW (C : Int -> Bool) (F : Int -> Int -> Bool) : List Int -> Int -> Bool
 | [], _ => false
 | y :: l, t => F y t || (C y && zAW C F l t)
theorem zBn {C : Int -> Bool} {l : List Int} : allC C l = true ↔ ∀ z ∈ l, C z = true := by
 unfold allC
 exact List.all_eq_true
theorem zBg {C : Int -> Bool} {F : Int -> Int -> Bool} {l : List Int} {t : Int} : zAW C F l t = true ↔ ∃ pre y post, l = pre ++ y :: post /\ (∀ z ∈ pre, C z = true) /\ F y t = true := by
 induction l with
 | nil =>
  constructor
  ·intro h; cases h
  ·rintro ⟨pre, y, post, h, _⟩
   cases pre <;> cases h
 | cons a l ih =>
  unfold zAW
  rw [Bool.or_eq_true, Bool.and_eq_true, ih]
  constructor
  ·rintro (h | ⟨h1, pre, z, post, h2, h3, h4⟩)
   ·exact ⟨[], a, l, rfl, (fun z hz => by cases hz), h⟩
   ·refine ⟨a :: pre, z, post, by rw [h2]; rfl, fun w hw => ?_, h4⟩
    rcases List.mem_cons.1 hw with e | e
    ·subst e
     exact h1
    ·exact h3 w e
  ·rintro ⟨pre, z, post, h, hc, hf⟩
   cases pre with
   | nil =>
    injection h with h1 h2
    subst h1
    exact .inl hf
   | cons b pre =>
    injection h with h1 h2
    subst h1
    exact .inr ⟨hc _ (List.mem_cons_self ..), pre, z, post, h2, fun w hw => hc w (List.mem_cons_of_mem _ hw), hf⟩
structure Snd (G : Gram) (C : Int -> Bool) (F : Int -> Int -> Bool) : Prop where
 can : ∀ x, C x = true -> Can G x
 fst : ∀ x t, F x t = true -> Fst G x t
def Leaf (G : Gram) (F : Int -> Int -> Bool) : Prop := ∀ x, x = 0 \/ zDX G x = true -> F x x = true
structure Shut (C : Int -> Bool) (F : Int -> Int -> Bool) (r : Int × List Int) : Prop where
 can : allC C r.2 = true -> C r.1 = true
 fst : ∀ t, zAW C F r.2 t = true -> F r.1 t = true
theorem Snd.line {G : Gram} {C : Int -> Bool} {F : Int -> Int -> Bool} (h : Snd G C F) {l : List Int} {t : Int} (hl : zAW C F l t = true) : zCS G l t := by
 obtain ⟨pre, y, post, h1, h2, h3⟩ := zBg.1 hl
 exact ⟨pre, y, post, h1, fun z hz => h.can z (h2 z hz), h.fst y t h3⟩
structure Just (G : Gram) (C : Int -> Bool) (F : Int -> Int -> Bool) : Prop where
 can : ∀ x, C x = true ↔ Can G x
 fst : ∀ x t, F x t = true ↔ Fst G x t
theorem zKt {G : Gram} {C : Int -> Bool} {F : Int -> Int -> Bool} (h : Snd G C F) (hl : Leaf G F) (hs : ∀ r ∈ G.rules, Shut C F r) : Just G C F := by
 have hc : ∀ x, Can G x -> C x = true := fun x k => by
  induction k with
  | mk r hr _ ih => exact (hs r hr).can (zBn.2 fun z hz => ih z hz)
 refine ⟨fun x => ⟨h.can x, hc x⟩, fun x t => ⟨h.fst x t, fun k => ?_⟩⟩
 induction k with
 | leaf k => exact hl _ k
 | rule hr h1 h2 _ ih => exact (hs _ hr).fst _ (zBg.2 ⟨_, _, _, h1, fun z hz => hc z (h2 z hz), ih⟩)
theorem Just.all {G : Gram} {C : Int -> Bool} {F : Int -> Int -> Bool} (h : Just G C F) (l : List Int) : allC C l = true ↔ ∀ z ∈ l, Can G z := by
 rw [zBn]
 exact ⟨fun k z hz => (h.can z).1 (k z hz), fun k z hz => (h.can z).2 (k z hz)⟩
theorem Just.line {G : Gram} {C : Int -> Bool} {F : Int -> Int -> Bool} (h : Just G C F) (l : List Int) (t : Int) : zAW C F l t = true ↔ zCS G l t := by
 rw [zBg]
 constructor
 ·rintro ⟨pre, y, post, h1, h2, h3⟩
  exact ⟨pre, y, post, h1, fun z hz => (h.can z).1 (h2 z hz), (h.fst y t).1 h3⟩
 ·rintro ⟨pre, y, post, h1, h2, h3⟩
  exact ⟨pre, y, post, h1, fun z hz => (h.can z).2 (h2 z hz), (h.fst y t).2 h3⟩
def addC (C : Int -> Bool) (r : Int × List Int) : Int -> Bool := fun x => C x || (decide (x = r.1) && allC C r.2)
def addF (C : Int -> Bool) (F : Int -> Int -> Bool) (r : Int × List Int) : Int -> Int -> Bool := fun x t => F x t || (decide (x = r.1) && zAW C F r.2 t)
theorem Snd.addF {G : Gram} {C : Int -> Bool} {F : Int -> Int -> Bool} (h : Snd G C F) {r : Int × List Int} (hr : r ∈ G.rules) : Snd G C (addF C F r) := by
 refine ⟨h.can, fun x t k => ?_⟩
 unfold Fi.addF at k
 rw [Bool.or_eq_true, Bool.and_eq_true, decide_eq_true_iff] at k
 rcases k with k | ⟨e, k⟩
 ·exact h.fst x t k
 ·subst e
  exact .line hr (h.line k)
theorem zFg {C : Int -> Bool} {r : Int × List Int} (h : allC C r.2 = true -> C r.1 = true) : addC C r = C := by
 funext x
 unfold addC
 by_cases e : x = r.1
 ·subst e
  cases ha : allC C r.2 with
  | false => simp
  | true => simp [h ha]
 ·simp [e]
theorem zJm {C : Int -> Bool} {F : Int -> Int -> Bool} {r : Int × List Int} (h : ∀ t, zAW C F r.2 t = true -> F r.1 t = true) : addF C F r = F := by
 funext x t
 unfold addF
 by_cases e : x = r.1
 ·subst e
  cases ha : zAW C F r.2 t with
  | false => simp
  | true => simp [h t ha]
 ·simp [e]
structure BSnd (G : Gram) (B : Int -> Int -> Bool) : Prop where
 fol : ∀ x t, B x t = true -> Fol G x t
def zQ2 (G : Gram) (C : Int -> Bool) (F B : Int -> Int -> Bool) (r : Int × List Int) : Prop :=
 ∀ pre x post, r.2 = pre ++ x :: post -> nonB G x = true -> (∀ t, zAW C F post t = true -> B x t = true) /\ (allC C post = true -> ∀ t, B r.1 t = true -> B x t = true)
theorem zJt {G : Gram} {C : Int -> Bool} {F B : Int -> Int -> Bool} (j : Just G C F) (h : BSnd G B) (h0 : B G.start 0 = true) (hs : ∀ r ∈ G.rules, zQ2 G C F B r) : ∀ x t, B x t = true ↔ Fol G x t := fun x t => by
 refine ⟨h.fol x t, fun k => ?_⟩
 induction k with
 | start => exact h0
 | next hr h1 h2 h3 => exact (hs _ hr _ _ _ h1 h2).1 _ ((j.line _ _).2 h3)
 | last hr h1 h2 h3 _ ih => exact (hs _ hr _ _ _ h1 h2).2 ((j.all _).2 h3) _ ih
theorem BSnd.put {G : Gram} {B : Int -> Int -> Bool} (h : BSnd G B) {x : Int} {P : Int -> Bool} (hP : ∀ t, P t = true -> Fol G x t) : BSnd G (fun y t => B y t || (decide (y = x) && P t)) := by
 refine ⟨fun y t k => ?_⟩
 rw [Bool.or_eq_true, Bool.and_eq_true, decide_eq_true_iff] at k
 rcases k with k | ⟨e, k⟩
 ·exact h.fol y t k
 ·subst e
  exact hP t k
noncomputable def canB (G : Gram) (x : Int) : Bool := @decide (Can G x) (Classical.propDecidable _)
noncomputable def fstB (G : Gram) (x t : Int) : Bool := @decide (Fst G x t) (Classical.propDecidable _)
noncomputable def folB (G : Gram) (x t : Int) : Bool := @decide (Fol G x t) (Classical.propDecidable _)
theorem zA7 {G : Gram} {x : Int} : canB G x = true ↔ Can G x := by unfold canB; exact @decide_eq_true_iff _ (Classical.propDecidable _)
theorem zCp {G : Gram} {x t : Int} : fstB G x t = true ↔ Fst G x t := by unfold fstB; exact @decide_eq_true_iff _ (Classical.propDecidable _)
theorem zM0 {G : Gram} {x t : Int} : folB G x t = true ↔ Fol G x t := by unfold folB; exact @decide_eq_true_iff _ (Classical.propDecidable _)
theorem zOx (G : Gram) : Just G (canB G) (fstB G) := ⟨fun _ => zA7, fun _ _ => zCp⟩
theorem Just.eq {G : Gram} {C : Int -> Bool} {F : Int -> Int -> Bool} (h : Just G C F) : C = canB G /\ F = fstB G := by
 constructor
 ·funext x
  rw [Bool.eq_iff_iff, h.can, zA7]
 ·funext x t
  rw [Bool.eq_iff_iff, h.fst, zCp]
def lst (P : Int -> Bool) (n : Nat) : List Int := ((List.range n).filter fun i : Nat => P (i : Int)).map fun i : Nat => (i : Int)
theorem zDJ {P : Int -> Bool} {n : Nat} {t : Int} : t ∈ lst P n ↔ 0 <= t /\ t < (n : Int) /\ P t = true := by
 unfold lst
 rw [List.mem_map]
 constructor
 ·rintro ⟨i, hi, rfl⟩
  rw [List.mem_filter, List.mem_range] at hi
  exact ⟨by omega, by omega, hi.2⟩
 ·rintro ⟨h0, h1, h2⟩
  have e : ((t.toNat : Nat) : Int) = t := by omega
  exact ⟨t.toNat, by rw [List.mem_filter, List.mem_range]; exact ⟨by omega, by rw [e]; exact h2⟩, e⟩
theorem zK6 (P : Int -> Bool) (n : Nat) : (lst P n).length <= n := by
 unfold lst
 rw [List.length_map]
 exact Nat.le_trans (List.length_filter_le _ _) (by simp)
theorem zNe {P : Int -> Bool} {n : Nat} (h : ∀ i : Nat, i < n -> P (i : Int) = false) : lst P n = [] := by
 rw [List.eq_nil_iff_forall_not_mem]
 intro t ht
 obtain ⟨h0, h1, h2⟩ := zDJ.1 ht
 have := h t.toNat (by omega)
 have e : ((t.toNat : Nat) : Int) = t := by omega
 rw [e, h2] at this
 cases this
def zCT (P : Int -> Bool) : Nat -> Nat
 | 0 => 0
 | n + 1 => zCT P n + if P (n : Int) = true then 0 else 1
theorem zFO {P Q : Int -> Bool} {n : Nat} (h : ∀ i : Nat, i < n -> P (i : Int) = true -> Q (i : Int) = true) : zCT Q n <= zCT P n := by
 induction n with
 | zero => exact Nat.le_refl _
 | succ n ih =>
  have h1 := ih fun i hi => h i (by omega)
  unfold zCT
  by_cases hp : P (n : Int) = true
  ·rw [if_pos hp, if_pos (h n (by omega) hp)]
   exact h1
  ·rw [if_neg hp]
   split <;> omega
theorem zFP {P Q : Int -> Bool} {n k : Nat} (h : ∀ i : Nat, i < n -> P (i : Int) = true -> Q (i : Int) = true) (hk : k < n) (hp : P (k : Int) = false) (hq : Q (k : Int) = true) : zCT Q n < zCT P n := by
 induction n with
 | zero => omega
 | succ n ih =>
  unfold zCT
  by_cases e : k = n
  ·subst e
   have h1 := zFO (n := k) fun i hi => h i (by omega)
   rw [if_pos hq, if_neg (by rw [hp]; decide)]
   omega
  ·have h1 := ih (fun i hi => h i (by omega)) (by omega)
   by_cases hp2 : P (n : Int) = true
   ·rw [if_pos hp2, if_pos (h n (by omega) hp2)]
    exact h1
   ·rw [if_neg hp2]
    split <;> omega
def zCU (F : Int -> Int -> Bool) (m : Nat) : Nat -> Nat
 | 0 => 0
 | n + 1 => zCU F m n + zCT (F (n : Int)) m
theorem zNm {F H : Int -> Int -> Bool} {m n : Nat} (h : ∀ x t : Nat, x < n -> t < m -> F (x : Int) (t : Int) = true -> H (x : Int) (t : Int) = true) : zCU H m n <= zCU F m n := by
 induction n with
 | zero => exact Nat.le_refl _
 | succ n ih => exact Nat.add_le_add (ih fun x t hx => h x t (by omega)) (zFO fun t ht => h n t (by omega) ht)
theorem zH0 {F H : Int -> Int -> Bool} {m n k : Nat} (h : ∀ x t : Nat, x < n -> t < m -> F (x : Int) (t : Int) = true -> H (x : Int) (t : Int) = true) (hk : k < n) (hr : zCT (H (k : Int)) m < zCT (F (k : Int)) m) : zCU H m n < zCU F m n := by
 induction n with
 | zero => omega
 | succ n ih =>
  show zCU H m n + zCT (H (n : Int)) m < zCU F m n + zCT (F (n : Int)) m
  by_cases e : k = n
  ·subst e
   have := zNm (F := F) (H := H) (m := m) (n := k) fun x t hx => h x t (by omega)
   omega
  ·have h1 := ih (fun x t hx => h x t (by omega)) (by omega)
   have h2 := zFO (P := F (n : Int)) (Q := H (n : Int)) (n := m) fun t ht => h n t (by omega) ht
   omega
end Fi
namespace Gr
open Go.RowKit Go.Maps Go.ChangeShapes Go.WideShapes Go.Deep Go.Joins
theorem zEf {H : Type} {P : Program} {e : TypeId} {l : List (DataW H)} {d : DataW H} (h : d ∈ l) : ∀ n ∈ d.weights P e, n ∈ DataW.weightsAll P e l := by
 induction l with
 | nil => cases h
 | cons a r ih =>
  intro n hn
  simp only [DataW.weightsAll, List.mem_append]
  rcases List.mem_cons.1 h with rfl | h
  ·exact .inl hn
  ·exact .inr (ih h n hn)
def Within {H : Type} (P : Program) (t : TypeId) (d : DataW H) : Prop := ∀ n ∈ d.weights P t, n <= 140737488355328
theorem zMP {H : Type} {P : Program} {ts : List TypeId} {ds : List (DataW H)} (h : (DataW.weightsEach P ts ds).all (· <= reachBytes) = true) {j : Nat} {t : TypeId} {d : DataW H} (ht : ts[j]? = some t) (hd : ds[j]? = some d) : Within P t d := fun n hn => by
 have := List.all_eq_true.1 h n (DataW.weights_mem_each ht hd n hn)
 have h2 := reachBytes_lt
 simp at this
 omega
theorem zBZ {H : Type} {P : Program} {t : TypeId} {fs : Array Field} {parts : List (DataW H)} (h : Within P t (.agg parts)) (hs : P.underlying t = some (.struct fs)) {j : Nat} {t' : TypeId} {d : DataW H} (ht : (fs.toList.map (·.type))[j]? = some t') (hd : parts[j]? = some d) : Within P t' d := fun n hn => by
 refine h n ?_
 simp only [DataW.weights, hs]
 exact DataW.weights_mem_each ht hd n hn
theorem zEO {H : Type} {P : Program} {t e : TypeId} {elems spare : List (DataW H)} (h : Within P t (.slice elems spare)) (hs : P.underlying t = some (.slice e)) {d : DataW H} (hd : d ∈ elems) : Within P e d := fun n hn => by
 refine h n ?_
 simp only [DataW.weights, hs, List.mem_cons, List.mem_append]
 exact .inr (.inl (zEf hd n hn))
theorem zDL {H : Type} {P : Program} {t e : TypeId} {elems spare : List (DataW H)} (h : Within P t (.slice elems spare)) (hs : P.underlying t = some (.slice e)) : (elems.length + spare.length) * P.bytesOf e <= 140737488355328 := by
 refine h _ ?_
 simp [DataW.weights, hs]
theorem zGw {n : Int} (h : (Lit.int .i64 n).wf = true) : Fits n := by
 simp only [Lit.wf, Bool.and_eq_true, decide_eq_true_eq] at h
 exact ⟨h.1, h.2⟩
theorem zFr : Tryz.prog.cellsOf 9 = 1 := by kernel_rfl
theorem zJ1 : Tryz.prog.cellsOf 3 = 1 := by kernel_rfl
theorem zFn : Tryz.prog.bytesOf 9 = 16 := by kernel_rfl
theorem zJy : Tryz.prog.bytesOf 3 = 8 := by kernel_rfl
theorem zIf : Tryz.prog.bytesOf 57 = 32 := by kernel_rfl
section
variable {H : Type} {enc : TypeId × Value -> H} {w : World}
theorem zL5 {fuel : Nat} {v : Value} {x : DataW H × List MemPlace} (h : DataW.trod enc Tryz.prog w 0 (fun _ => true) true fuel 22 [v] = some x) (hz : Within Tryz.prog 22 x.1) :
  ∃ a c, ∃ L : List ByteArray, v = .slice a L.length c /\ Sep.Reads a (L.map .string) w /\ L.length <= c /\ c <= 8796093022208 /\ ∀ s ∈ L, s.size <= 140737488355328 := by
 rcases open_strings Tryz.underlying22 Tryz.underlying9 zFr h with ⟨hcs, _⟩ | ⟨a, len, cap, ss, hcs, _, hl, hm, hzz, rfl, hcell, hws⟩
 ·simp at hcs
  subst hcs
  exact ⟨none, 0, [], rfl, .nil _ _, Nat.le_refl _, by omega, fun s hs => by cases hs⟩
 ·simp at hcs
  subst hcs
  simp only [if_true] at hzz
  have hcap := zDL hz Tryz.underlying22
  rw [zFn] at hcap
  simp [strs] at hcap
  refine ⟨some a, cap, ss.take len, by simp; omega, fun i hi => ?_, by simp; omega, by omega, fun s hs => ?_⟩
  ·simp only [List.length_map, List.length_take] at hi
   obtain ⟨bb, off, spot⟩ := a
   have hspot : spot = none := by simpa [Addr.add] using World.cell?_spot (hcell 0 (by omega))
   subst hspot
   refine ⟨bb, off, rfl, ?_⟩
   have hc := hcell i (by omega)
   rw [WideShapes.add_plain] at hc
   rw [hc]
   simp [List.getD_eq_getElem?_getD, List.getElem?_eq_getElem (show i < ss.length by omega)]
  ·have := zEO hz Tryz.underlying22 (d := .lit (.string s.data.toList)) (by simp only [strs, List.mem_map]; exact ⟨s, hs, rfl⟩)
   have := this s.data.toList.length (by simp [DataW.weights])
   exact this
theorem zP7 {fuel : Nat} {v : Value} {x : DataW H × List MemPlace} (h : DataW.trod enc Tryz.prog w 0 (fun _ => true) true fuel 55 [v] = some x) (hz : Within Tryz.prog 55 x.1) :
  ∃ a c, ∃ L : List Int, v = .slice a L.length c /\ Sep.Reads a (L.map (.int .i64)) w /\ L.length <= c /\ c <= 17592186044416 /\ ∀ n ∈ L, Fits n := by
 rcases open_ints Tryz.underlying55 Tryz.underlying3 zJ1 h with ⟨hcs, _⟩ | ⟨a, len, cap, ss, hcs, _, hl, hm, hzz, rfl, hcell, hws⟩
 ·simp at hcs
  subst hcs
  exact ⟨none, 0, [], rfl, .nil _ _, Nat.le_refl _, by omega, fun s hs => by cases hs⟩
 ·simp at hcs
  subst hcs
  simp only [if_true] at hzz
  have hcap := zDL hz Tryz.underlying55
  rw [zJy] at hcap
  simp [lits] at hcap
  refine ⟨some a, cap, ss.take len, by simp; omega, fun i hi => ?_, by simp; omega, by omega, fun n hn => zGw (hws n (List.mem_of_mem_take hn))⟩
  simp only [List.length_map, List.length_take] at hi
  obtain ⟨bb, off, spot⟩ := a
  have hspot : spot = none := by simpa [Addr.add] using World.cell?_spot (hcell 0 (by omega))
  subst hspot
  refine ⟨bb, off, rfl, ?_⟩
  have hc := hcell i (by omega)
  rw [WideShapes.add_plain] at hc
  rw [hc]
  simp [List.getD_eq_getElem?_getD, List.getElem?_eq_getElem (show i < ss.length by omega)]
def zQ5 (a : Option Addr) (i : Nat) (r : Int × List Int) (w : World) : Prop :=
 (∃ b o ra rc, a = some ⟨b, o, none⟩ /\ w.cell? ⟨b, o + i * 2, none⟩ = some (.int .i64 r.1) /\ w.cell? ⟨b, o + i * 2 + 1, none⟩ = some (.slice ra r.2.length rc) /\ Sep.Reads ra (r.2.map (.int .i64)) w /\ r.2.length <= rc /\ r.2.length <= 17592186044416) /\
 Fits r.1 /\ ∀ x ∈ r.2, Fits x
theorem zOS {fuel : Nat} {v : Value} {x : DataW H × List MemPlace} (h : DataW.trod enc Tryz.prog w 0 (fun _ => true) true fuel 23 [v] = some x) (hz : Within Tryz.prog 23 x.1) :
  ∃ a c, ∃ R : List (Int × List Int), v = .slice a R.length c /\ zBI a R w /\ R.length <= c /\ c <= 4398046511104 /\ (∀ r ∈ R, Fits r.1) /\ ∀ r ∈ R, ∀ x ∈ r.2, Fits x := by
 rcases open_slice_pairs Tryz.underlying23 Tryz.underlying57 (by kernel_rfl) rfl rfl (by kernel_rfl) (by kernel_rfl) h with ⟨hcs, _⟩ | ⟨a, len, cap, m, n, V0, V1, D0, D1, P0, P1, hcs, _, hl, hm, hmm, rfl, hi⟩
 ·simp at hcs
  subst hcs
  exact ⟨none, 0, [], rfl, fun i hi => absurd hi (by simp), Nat.le_refl _, by omega, (fun r hr => by cases hr), (fun r hr => by cases hr)⟩
 ·simp at hcs
  subst hcs
  simp only [if_true] at hmm
  subst hmm
  have hcap := zDL hz Tryz.underlying23
  rw [zIf] at hcap
  simp at hcap
  have each : ∀ i, i < len -> ∃ r : Int × List Int, zQ5 (some a) i r w := fun i him => by
   obtain ⟨hc0, hc1, ht0, ht1⟩ := hi i (by omega)
   obtain ⟨k, hk, _, hw⟩ := DataW.trod_int Tryz.underlying3 ht0
   simp at hk
   have hzi := zEO hz Tryz.underlying23 (d := .agg [D0 i, D1 i]) (by simp only [List.mem_map]; exact ⟨i, List.mem_range.2 him, rfl⟩)
   have hz1 := zBZ hzi Tryz.underlying57 (j := 1) (t' := 55) (d := D1 i) rfl rfl
   obtain ⟨ra, rc, L, hv1, hR, hL, hC, hF⟩ := zP7 ht1 hz1
   rw [hk] at hc0
   rw [hv1] at hc1
   obtain ⟨bb, off, spot⟩ := a
   have hspot : spot = none := by simpa [Addr.add] using World.cell?_spot (hi 0 (by omega)).1
   subst hspot
   rw [WideShapes.add_plain] at hc0 hc1
   exact ⟨(k, L), ⟨bb, off, ra, rc, rfl, hc0, hc1, hR, hL, Nat.le_trans hL hC⟩, zGw hw, hF⟩
  obtain ⟨f, hf⟩ := choose_lt each
  refine ⟨some a, m, (List.range len).map f, by simp, fun i hi => ?_, by simpa using hl, by omega, fun r hr => ?_, fun r hr => ?_⟩
  ·simp only [List.length_map, List.length_range] at hi
   obtain ⟨b, o, ra, rc, e, h1, h2, h3, h4⟩ := (hf i hi).1
   refine ⟨b, o, ra, rc, e, ?_⟩
   simp only [List.getElem_map, List.getElem_range]
   exact ⟨h1, h2, h3, h4⟩
  ·obtain ⟨i, hi, rfl⟩ := List.mem_map.1 hr
   exact (hf i (List.mem_range.1 hi)).2.1
  ·obtain ⟨i, hi, rfl⟩ := List.mem_map.1 hr
   exact (hf i (List.mem_range.1 hi)).2.2
theorem zP0 {r : Reach} {b0 : Nat} {v : Value} {d : DataW H} {p : List MemPlace} (hv : Value.okWide Tryz.prog w r b0 25 v) (h : DataW.Trod enc Tryz.prog w 0 (fun _ => true) true 25 v d p) (hz : Within Tryz.prog 25 d) :
  ∃ h G, v = gv h G /\ GAt h G w := by
 obtain ⟨v0, v1, v2, v3, y0, y1, y2, y3, n, rfl, rfl, _, h0, h1, h2, h3⟩ := open_agg4 Tryz.underlying25 (by kernel_rfl) (by kernel_rfl) hv h
 obtain ⟨a1, c1, L1, rfl, r1, l1, m1, s1⟩ := zL5 h0 (zBZ hz Tryz.underlying25 (j := 0) (t' := 22) rfl rfl)
 obtain ⟨a2, c2, L2, rfl, r2, l2, m2, s2⟩ := zL5 h1 (zBZ hz Tryz.underlying25 (j := 1) (t' := 22) rfl rfl)
 obtain ⟨a3, c3, R, rfl, r3, l3, m3, s3, s4⟩ := zOS h2 (zBZ hz Tryz.underlying25 (j := 2) (t' := 23) rfl rfl)
 obtain ⟨k, hk, _, hw⟩ := DataW.trod_int Tryz.underlying3 h3
 simp at hk
 subst hk
 exact ⟨⟨a1, c1, a2, c2, a3, c3⟩, ⟨L1, L2, R, k⟩, rfl, ⟨r1, r2, r3, l1, Nat.le_trans l1 m1, Nat.le_trans l2 m2, l3, Nat.le_trans l3 m3, ⟨s1, s2, zGw hw, s3, s4⟩⟩⟩
end
