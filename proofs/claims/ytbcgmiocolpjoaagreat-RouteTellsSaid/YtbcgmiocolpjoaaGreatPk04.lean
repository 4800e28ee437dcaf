/- A part of the proof. -/
import Derived.Test.YtbcgmiocolpjoaaGreatProg
import Derived.WalkKit
import Derived.WalkLawsBesides
import Derived.WalkSpells
import Derived.Deep.Light
import Derived.Deep.RegionHeld3
import Derived.Deep.QuietTactic
import Derived.BigQuiet
import Derived.IntWalk
import Derived.LoopTactic
import Derived.Test.YtbcgmiocolpjoaaGreatPk03
set_option linter.unusedVariables false
namespace Go.Proofs.YtbcgmiocolpjoaaGreat
namespace Gr
open Go.RowKit Go.Maps
structure Sh where
 a1 : Option Addr
 c1 : Nat
 a2 : Option Addr
 c2 : Nat
 a3 : Option Addr
 c3 : Nat
abbrev gv (h : Sh) (G : Gram) : Value := .agg #[.slice h.a1 G.terms.length h.c1, .slice h.a2 G.nons.length h.c2, .slice h.a3 G.rules.length h.c3, .int .i64 G.start]
def zAu (a : Option Addr) (R : List (Int × List Int)) (w : World) : Prop :=
 ∀ i (h : i < R.length), ∃ b o ra rc, a = some ⟨b, o, none⟩ /\ w.cell? ⟨b, o + i * 2, none⟩ = some (.int .i64 R[i].1) /\ w.cell? ⟨b, o + i * 2 + 1, none⟩ = some (.slice ra R[i].2.length rc) /\
  Sep.Reads ra (R[i].2.map (.int .i64)) w /\ R[i].2.length <= rc /\ R[i].2.length <= 17592186044416
theorem zAu.below {a : Option Addr} {R : List (Int × List Int)} {m : Nat} {w w' : World} (h : zAu a R w) (hb : Below m w w') (hm : w.heap.size <= m) : zAu a R w' := fun i hi => by
 obtain ⟨b, o, ra, rc, e, h1, h2, h3, h4⟩ := h i hi
 have k := World.block_lt_of_cell? w ⟨b, o + i * 2, none⟩ h1
 refine ⟨b, o, ra, rc, e, ?_, ?_, h3.below hb hm, h4⟩
 ·exact (hb.cell (p := ⟨b, o + i * 2, none⟩) (by simp at k ⊢; omega)).trans h1
 ·exact (hb.cell (p := ⟨b, o + i * 2 + 1, none⟩) (by simp at k ⊢; omega)).trans h2
def Fits (x : Int) : Prop := -9223372036854775808 <= x /\ x <= 9223372036854775807
structure GOk (G : Gram) : Prop where
 terms : ∀ s ∈ G.terms, s.size <= 140737488355328
 nons : ∀ s ∈ G.nons, s.size <= 140737488355328
 start : Fits G.start
 left : ∀ r ∈ G.rules, Fits r.1
 right : ∀ r ∈ G.rules, ∀ x ∈ r.2, Fits x
structure GAt (h : Sh) (G : Gram) (w : World) : Prop where
 terms : Sep.Reads h.a1 (G.terms.map .string) w
 nons : Sep.Reads h.a2 (G.nons.map .string) w
 rules : zAu h.a3 G.rules w
 t1 : G.terms.length <= h.c1
 t2 : G.terms.length <= 8796093022208
 n2 : G.nons.length <= 8796093022208
 r1 : G.rules.length <= h.c3
 r2 : G.rules.length <= 4398046511104
 ok : GOk G
theorem GAt.below {h : Sh} {G : Gram} {m : Nat} {w w' : World} (k : GAt h G w) (hb : Below m w w') (hm : w.heap.size <= m) : GAt h G w' :=
 ⟨k.terms.below hb hm, k.nons.below hb hm, k.rules.below hb hm, k.t1, k.t2, k.n2, k.r1, k.r2, k.ok⟩
theorem GAt.went {h : Sh} {G : Gram} {w w' : World} (k : GAt h G w) (hb : Below w.heap.size w w') : GAt h G w' := k.below hb (Nat.le_refl _)
def Is (v : Value) (w : World) (e : Ending) (w' : World) : Prop := e = .returned v /\ Below w.heap.size w w'
theorem step {w w1 w2 : World} (h : Below w.heap.size w w1) (k : Below w1.heap.size w1 w2) : Below w.heap.size w w2 := h.trans (k.mono h.size)
theorem cell_later {a b : World} {p : Addr} {v : Value} (h : Below a.heap.size a b) (hc : a.cell? p = some v) : b.cell? p = some v := (h.cell (World.block_lt_of_cell? a p hc)).trans hc
theorem boxed (w : World) (o : Obj) : Below w.heap.size w (w.alloc o) := (Below.refl _ _).alloc (Nat.le_refl _) o
theorem zAB {w : World} {cs : Array Value} {T : TypeId} {n j : Nat} {v : Value} (hn : n = w.heap.size) (hv : cs[j]? = some v) : (w.alloc (.cells cs T)).cell? ⟨n, j, none⟩ = some v := by
 subst hn
 simpa using hv
theorem zAJ {w : World} {o : Obj} {p : Addr} {v : Value} (h : w.cell? p = some v) : (w.alloc o).cell? p = some v := cell_later (boxed _ _) h
theorem zCG {w : World} {cs : Array Value} {T : TypeId} {n j : Nat} (hn : n = w.heap.size) : (w.alloc (.cells cs T)).frozen? ⟨n, j, none⟩ = false := by
 subst hn
 simp
theorem zBx {w w' : World} {n i j : Nat} {v : Value} (hb : Below w.heap.size w w') (h : w.frozen? ⟨n, j, none⟩ = false) (hc : w.cell? ⟨n, i, none⟩ = some v) : w'.frozen? ⟨n, j, none⟩ = false :=
 (hb.frozen (p := ⟨n, j, none⟩) (World.block_lt_of_cell? w ⟨n, i, none⟩ hc)).trans h
theorem drawn (w : World) : Below w.heap.size w w.drew := (Below.refl _ _).drew
structure Box (q : Nat) (h : Sh) (G : Gram) (w : World) : Prop where
 x0 : w.cell? ⟨q, 0, none⟩ = some (.slice h.a1 G.terms.length h.c1)
 x1 : w.cell? ⟨q, 1, none⟩ = some (.slice h.a2 G.nons.length h.c2)
 x2 : w.cell? ⟨q, 2, none⟩ = some (.slice h.a3 G.rules.length h.c3)
 x3 : w.cell? ⟨q, 3, none⟩ = some (.int .i64 G.start)
theorem Box.later {q : Nat} {h : Sh} {G : Gram} {w w' : World} (k : Box q h G w) (hb : Below w.heap.size w w') : Box q h G w' :=
 ⟨cell_later hb k.x0, cell_later hb k.x1, cell_later hb k.x2, cell_later hb k.x3⟩
theorem Box.mk' (h : Sh) (G : Gram) (w : World) (T : TypeId) : Box w.heap.size h G (w.alloc (.cells #[.slice h.a1 G.terms.length h.c1, .slice h.a2 G.nons.length h.c2, .slice h.a3 G.rules.length h.c3, .int .i64 G.start] T)) :=
 ⟨by simp, by simp, by simp, by simp⟩
structure Bx (W : World) (h : Sh) (G : Gram) (w : World) : Prop where
 below : Below W.heap.size W w
 box : Box W.heap.size h G w
theorem Bx.start (h : Sh) (G : Gram) (w : World) (T : TypeId) : Bx w h G (w.alloc (.cells #[.slice h.a1 G.terms.length h.c1, .slice h.a2 G.nons.length h.c2, .slice h.a3 G.rules.length h.c3, .int .i64 G.start] T)) :=
 ⟨boxed _ _, Box.mk' h G w T⟩
theorem Bx.went {W : World} {h : Sh} {G : Gram} {w w' : World} (k : Bx W h G w) (hb : Below w.heap.size w w') : Bx W h G w' := ⟨step k.below hb, k.box.later hb⟩
theorem Bx.alloc {W : World} {h : Sh} {G : Gram} {w : World} (k : Bx W h G w) (o : Obj) : Bx W h G (w.alloc o) := k.went (boxed _ _)
theorem Bx.grown {W : World} {h : Sh} {G : Gram} {w w' : World} {row : Option Nat} (k : Bx W h G w) (hg : w.grownBy w' row) (hr : ∀ g, row = some g -> W.heap.size + 1 <= g) : Bx W h G w' := by
 have e : w'.heap[W.heap.size]? = w.heap[W.heap.size]? := hg.block _ (World.block_lt_of_cell? w ⟨W.heap.size, 0, none⟩ k.box.x0) (fun e => by have := hr _ e.symm; omega)
 refine ⟨k.below.grown hg k.below.size (fun g hg => by have := hr g hg; omega), ?_⟩
 exact ⟨(World.cell?_of_block (a := ⟨W.heap.size, 0, none⟩) e).trans k.box.x0, (World.cell?_of_block (a := ⟨W.heap.size, 1, none⟩) e).trans k.box.x1,
  (World.cell?_of_block (a := ⟨W.heap.size, 2, none⟩) e).trans k.box.x2, (World.cell?_of_block (a := ⟨W.heap.size, 3, none⟩) e).trans k.box.x3⟩
theorem Bx.size {W : World} {h : Sh} {G : Gram} {w : World} (k : Bx W h G w) : W.heap.size + 1 <= w.heap.size := World.block_lt_of_cell? w ⟨W.heap.size, 0, none⟩ k.box.x0
theorem zAL {x r : Int} (h : x = r) : Ending.returned (.int .i64 r) = .returned (.int .i64 x) := by rw [h]
theorem zAA {x r : Bool} (h : x = r) : Ending.returned (.bool r) = .returned (.bool x) := by rw [h]
theorem zBf (h : Sh) (G : Gram) (w : World) (k : GAt h G w) :
  Calls Tryz.prog 70 #[gv h G] w (Is (.int .i64 (top G)) w) := by
 have t := k.t2
 have n := k.n2
 clear k
 unfold gv
 go_enter Tryz.func70, Tryz.ntmps70
 go_wp2
 go_ret
 exact ⟨zAL (by unfold top; omega), boxed _ _⟩
theorem zHS (h : Sh) (G : Gram) (s : Int) (w : World) (k : GAt h G w) :
  Calls Tryz.prog 71 #[gv h G, .int .i64 s] w (Is (.bool (zBS G s)) w) := by
 have t := k.t2
 clear k
 unfold gv
 go_enter Tryz.func71, Tryz.ntmps71
 go_wp2
 all_goals
  go_ret
  refine ⟨zAA ?_, boxed _ _⟩
  go_light
  unfold zBS
  first | (rw [decide_eq_true_iff]; omega) | (rw [decide_eq_false_iff_not]; omega) | (rw [Bool.eq_iff_iff]; simp only [decide_eq_true_eq]; omega)
theorem zGL (h : Sh) (G : Gram) (s : Int) (w : World) (k : GAt h G w) :
  Calls Tryz.prog 72 #[gv h G, .int .i64 s] w (Is (.bool (nonB G s)) w) := by
 have t := k.t2
 have T := zPB (fun w1 (b : Below w.heap.size w w1) => zBf h G w1 (k.went b))
 clear k
 unfold gv
 go_enter Tryz.func72, Tryz.ntmps72
 go_wp2_with (go_at_call 70; refine (T.out _ (boxed _ _)).mono ?_; rintro e w1 ⟨rfl, hb⟩; have HB := zPB (step (boxed _ _) hb); clear hb)
 all_goals
  go_ret
  refine ⟨zAA ?_, by first | exact HB.out | exact boxed _ _⟩
  go_light
  unfold nonB
  first | (rw [decide_eq_true_iff]; omega) | (rw [decide_eq_false_iff_not]; omega) | (rw [Bool.eq_iff_iff]; simp only [decide_eq_true_eq]; omega)
theorem zE2 (h : Sh) (G : Gram) (w : World) (k : GAt h G w) :
  Calls Tryz.prog 33 #[gv h G] w (Is (.int .i64 (top G)) w) := by
 have t := k.t2
 have n := k.n2
 clear k
 unfold gv
 go_enter Tryz.func33, Tryz.ntmps33
 go_wp2
 go_ret
 exact ⟨zAL (by unfold top; omega), boxed _ _⟩
theorem zKL (h : Sh) (G : Gram) (s : Int) (w : World) (k : GAt h G w) :
  Calls Tryz.prog 82 #[gv h G, .int .i64 s] w (Is (.bool (zBS G s)) w) := by
 have t := k.t2
 clear k
 unfold gv
 go_enter Tryz.func82, Tryz.ntmps82
 go_wp2
 all_goals
  go_ret
  refine ⟨zAA ?_, boxed _ _⟩
  go_light
  unfold zBS
  first | (rw [decide_eq_true_iff]; omega) | (rw [decide_eq_false_iff_not]; omega) | (rw [Bool.eq_iff_iff]; simp only [decide_eq_true_eq]; omega)
theorem zL0 (h : Sh) (G : Gram) (s : Int) (w : World) (k : GAt h G w) :
  Calls Tryz.prog 81 #[gv h G, .int .i64 s] w (Is (.bool (nonB G s)) w) := by
 have t := k.t2
 have T := zPB (fun w1 (b : Below w.heap.size w w1) => zE2 h G w1 (k.went b))
 clear k
 unfold gv
 go_enter Tryz.func81, Tryz.ntmps81
 go_wp2_with (go_at_call 33; refine (T.out _ (boxed _ _)).mono ?_; rintro e w1 ⟨rfl, hb⟩; have HB := zPB (step (boxed _ _) hb); clear hb)
 all_goals
  go_ret
  refine ⟨zAA ?_, by first | exact HB.out | exact boxed _ _⟩
  go_light
  unfold nonB
  first | (rw [decide_eq_true_iff]; omega) | (rw [decide_eq_false_iff_not]; omega) | (rw [Bool.eq_iff_iff]; simp only [decide_eq_true_eq]; omega)
end Gr
namespace Le
open Gr (Gram nonB zBS zAR zAY)
inductive Ws (G : Gram) : List Int -> List Int -> Prop
 | nil : Ws G [] []
 | zero {l w} : Ws G l w -> Ws G (0 :: l) w
 | term {s : Int} {l w} : zBS G s = true -> Ws G l w -> Ws G (s :: l) (s :: w)
 | rule {r : Int × List Int} {l v w} : r ∈ G.rules -> Ws G r.2 v -> Ws G l w -> Ws G (r.1 :: l) (v ++ w)
def base (G : Gram) : Nat := G.terms.length + 1
theorem zEY (G : Gram) : 0 < base G := Nat.succ_pos _
theorem Ws.dig {G : Gram} {l w : List Int} (h : Ws G l w) : Dig (base G) w := by
 induction h with
 | nil => exact zEc _
 | zero _ ih => exact ih
 | term ht _ ih =>
  rw [zAR] at ht
  intro x hx
  rcases List.mem_cons.1 hx with h1 | h1
  ·subst h1
   unfold base
   omega
  ·exact ih x h1
 | rule _ _ _ ih1 ih2 => exact zHo ih1 ih2
theorem Ws.append {G : Gram} {l k v w : List Int} (h : Ws G l v) (h' : Ws G k w) : Ws G (l ++ k) (v ++ w) := by
 induction h with
 | nil => exact h'
 | zero _ ih => exact .zero ih
 | term ht _ ih => exact .term ht ih
 | rule hr h1 _ _ ih => rw [List.append_assoc]; exact .rule hr h1 ih
theorem Ws.cons {G : Gram} {s : Int} {l v w : List Int} (h : Ws G [s] v) (h' : Ws G l w) : Ws G (s :: l) (v ++ w) := h.append h'
theorem Ws.one {G : Gram} {r : Int × List Int} {v : List Int} (hr : r ∈ G.rules) (h : Ws G r.2 v) : Ws G [r.1] v := by
 have := Ws.rule hr h .nil
 rwa [List.append_nil] at this
inductive Ans where
 | none
 | far
 | is (w : List Int)
def putA (M : Nat) : Ans -> Ans -> Ans
 | .none, _ => .none
 | _, .none => .none
 | .far, _ => .far
 | _, .far => .far
 | .is v, .is w => if (v ++ w).length <= M then .is (v ++ w) else .far
def zAh (M : Nat) (T : Int -> Ans) : List Int -> Ans
 | [] => .is []
 | s :: l => putA M (T s) (zAh M T l)
def zAQ : Ans -> Ans -> Bool
 | .none, _ => false
 | _, .none => true
 | .is _, .far => true
 | .is v, .is w => zAy v w
 | .far, _ => false
theorem zEy {M : Nat} {a b : Ans} {x : List Int} (h : putA M a b = .is x) : ∃ v w, a = .is v /\ b = .is w /\ x = v ++ w /\ x.length <= M := by
 cases a with
 | none => cases h
 | far => cases b <;> cases h
 | is v =>
  cases b with
  | none => cases h
  | far => cases h
  | is w =>
   by_cases hl : (v ++ w).length <= M
   ·have e : putA M (.is v) (.is w) = .is (v ++ w) := if_pos hl
    rw [e] at h
    injection h with h
    subst h
    exact ⟨_, _, rfl, rfl, rfl, hl⟩
   ·have e : putA M (.is v) (.is w) = .far := if_neg hl
    rw [e] at h
    cases h
theorem zBG {M : Nat} {a b : Ans} : putA M a b = .none ↔ a = .none \/ b = .none := by
 cases a <;> cases b <;> simp [putA]
 split <;> simp
def OkS (G : Gram) (M : Nat) (T : Int -> Ans) : Prop := ∀ s, (∀ w, T s = .is w -> Ws G [s] w /\ w.length <= M) /\ (T s = .far -> ∃ w, Ws G [s] w)
structure Cls (G : Gram) (M : Nat) (T : Int -> Ans) : Prop where
 zero : T 0 = .is []
 term : ∀ s, zBS G s = true -> T s = .is [s]
 rule : ∀ r ∈ G.rules, zAQ (zAh M T r.2) (T r.1) = false
theorem OkS.some {G : Gram} {M : Nat} {T : Int -> Ans} (h : OkS G M T) {s : Int} (hs : T s ≠ .none) : ∃ w, Ws G [s] w := by
 cases e : T s with
 | none => exact absurd e hs
 | far => exact (h s).2 e
 | is w => exact ⟨w, ((h s).1 w e).1⟩
theorem OkS.join_some {G : Gram} {M : Nat} {T : Int -> Ans} (h : OkS G M T) : ∀ {l : List Int}, zAh M T l ≠ .none -> ∃ w, Ws G l w := by
 intro l
 induction l with
 | nil => exact fun _ => ⟨[], .nil⟩
 | cons s l ih =>
  intro hn
  have h1 : ¬ (T s = .none \/ zAh M T l = .none) := fun k => hn (zBG.2 k)
  obtain ⟨v, hv⟩ := h.some fun k => h1 (Or.inl k)
  obtain ⟨w, hw⟩ := ih fun k => h1 (Or.inr k)
  exact ⟨v ++ w, hv.cons hw⟩
theorem OkS.join_is {G : Gram} {M : Nat} {T : Int -> Ans} (h : OkS G M T) : ∀ {l x : List Int}, zAh M T l = .is x -> Ws G l x /\ x.length <= M := by
 intro l
 induction l with
 | nil =>
  intro x hx
  injection hx with hx
  subst hx
  exact ⟨.nil, Nat.zero_le _⟩
 | cons s l ih =>
  intro x hx
  obtain ⟨v, w, h1, h2, h3, h4⟩ := zEy hx
  subst h3
  exact ⟨((h s).1 v h1).1.cons (ih h2).1, h4⟩
def setA (T : Int -> Ans) (s : Int) (a : Ans) : Int -> Ans := fun t => if t = s then a else T t
theorem zAq (T : Int -> Ans) (s : Int) (a : Ans) : setA T s a s = a := if_pos rfl
theorem zAT (T : Int -> Ans) {s t : Int} (a : Ans) (h : t ≠ s) : setA T s a t = T t := if_neg h
theorem OkS.set {G : Gram} {M : Nat} {T : Int -> Ans} (h : OkS G M T) {r : Int × List Int} (hr : r ∈ G.rules) : OkS G M (setA T r.1 (zAh M T r.2)) := by
 intro s
 by_cases e : s = r.1
 ·subst e
  rw [zAq]
  refine ⟨fun w hw => ?_, fun hf => ?_⟩
  ·have := h.join_is hw
   exact ⟨.one hr this.1, this.2⟩
  ·obtain ⟨w, hw⟩ := h.join_some (l := r.2) (by rw [hf]; exact (fun k => by cases k))
   exact ⟨w, .one hr hw⟩
 ·rw [zAT _ _ e]
  exact h s
theorem zF0 {a : Ans} (h : zAQ a .none = false) : a = .none := by
 cases a <;> simp [zAQ] at h ⊢
theorem Cls.least {G : Gram} {M : Nat} {T : Int -> Ans} (ok : OkS G M T) (c : Cls G M T) {l w : List Int} (h : Ws G l w) :
  zAh M T l ≠ .none /\ (w.length <= M -> ∃ v, zAh M T l = .is v /\ numW (base G) v <= numW (base G) w) := by
 have hB := zEY G
 have step : ∀ {s : Int} {l v w : List Int}, Dig (base G) v -> Ws G l w -> (T s ≠ .none /\ (v.length <= M -> ∃ u, T s = .is u /\ Dig (base G) u /\ numW (base G) u <= numW (base G) v)) ->
   (zAh M T l ≠ .none /\ (w.length <= M -> ∃ v, zAh M T l = .is v /\ numW (base G) v <= numW (base G) w)) ->
   zAh M T (s :: l) ≠ .none /\ ((v ++ w).length <= M -> ∃ u, zAh M T (s :: l) = .is u /\ numW (base G) u <= numW (base G) (v ++ w)) := by
  intro s l v w hv hw h1 h2
  refine ⟨fun k => ?_, fun hl => ?_⟩
  ·rcases zBG.1 k with k | k
   ·exact h1.1 k
   ·exact h2.1 k
  ·rw [List.length_append] at hl
   obtain ⟨u, e1, du, n1⟩ := h1.2 (by omega)
   obtain ⟨x, e2, n2⟩ := h2.2 (by omega)
   have dx := (ok.join_is e2).1.dig
   have l1 := zAv hB du hv n1
   have l2 := zAv hB dx hw.dig n2
   refine ⟨u ++ x, ?_, zJr hB dx hw.dig n1 n2⟩
   show putA M (T s) (zAh M T l) = _
   rw [e1, e2]
   show (if (u ++ x).length <= M then _ else _) = _
   rw [if_pos (by rw [List.length_append]; omega)]
 induction h with
 | nil => exact ⟨(fun k => by cases k), fun _ => ⟨[], rfl, Nat.le_refl _⟩⟩
 | zero hw ih =>
  exact step (s := 0) (v := []) (zEc _) hw ⟨by rw [c.zero]; exact (fun k => by cases k), fun _ => ⟨[], c.zero, zEc _, Nat.le_refl _⟩⟩ ih
 | @term s l w ht hw ih =>
  have d : Dig (base G) [s] := Ws.dig (Ws.term ht .nil)
  exact step (v := [s]) d hw ⟨by rw [c.term s ht]; exact (fun k => by cases k), fun _ => ⟨[s], c.term s ht, d, Nat.le_refl _⟩⟩ ih
 | @rule r l v w hr hv hw ih1 ih2 =>
  refine step hv.dig hw ?_ ih2
  have hb := c.rule r hr
  refine ⟨fun k => ?_, fun hl => ?_⟩
  ·rw [k] at hb
   exact ih1.1 (zF0 hb)
  ·obtain ⟨x, e, n⟩ := ih1.2 hl
   rw [e] at hb
   have dx := (ok.join_is e).1.dig
   cases eT : T r.1 with
   | none => rw [eT] at hb; simp [zAQ] at hb
   | far => rw [eT] at hb; simp [zAQ] at hb
   | is u =>
    rw [eT] at hb
    have du := ((ok r.1).1 u eT).1.dig
    refine ⟨u, rfl, du, ?_⟩
    have hn : ¬ numW (base G) x < numW (base G) u := fun k => by
     have := (zGw hB dx du).2 k
     have hb' : zAy x u = false := hb
     rw [hb'] at this
     cases this
    omega
theorem Cls.one {G : Gram} {M : Nat} {T : Int -> Ans} (ok : OkS G M T) (c : Cls G M T) {s : Int} {w : List Int} (h : Ws G [s] w) :
  T s ≠ .none /\ (w.length <= M -> ∃ v, T s = .is v /\ numW (base G) v <= numW (base G) w) := by
 have k := c.least ok h
 refine ⟨fun e => k.1 (zBG.2 (Or.inl e)), fun hl => ?_⟩
 obtain ⟨v, e, n⟩ := k.2 hl
 obtain ⟨a, b, e1, e2, e3, _⟩ := zEy e
 injection e2 with e2
 subst e2
 rw [List.append_nil] at e3
 subst e3
 exact ⟨_, e1, n⟩
theorem Cls.unique {G : Gram} {M : Nat} {T T' : Int -> Ans} (ok : OkS G M T) (c : Cls G M T) (ok' : OkS G M T') (c' : Cls G M T') (s : Int) : T s = T' s := by
 have hB := zEY G
 cases e : T s with
 | none =>
  cases e' : T' s with
  | none => rfl
  | far => obtain ⟨w, hw⟩ := (ok' s).2 e'; exact absurd e (c.one ok hw).1
  | is w => exact absurd e (c.one ok ((ok' s).1 w e').1).1
 | far =>
  obtain ⟨w, hw⟩ := (ok s).2 e
  cases e' : T' s with
  | none => exact absurd e' (c'.one ok' hw).1
  | far => rfl
  | is x =>
   have hx := (ok' s).1 x e'
   obtain ⟨v, ev, _⟩ := (c.one ok hx.1).2 hx.2
   rw [e] at ev
   cases ev
 | is v =>
  have hv := (ok s).1 v e
  obtain ⟨w, ew, n⟩ := (c'.one ok' hv.1).2 hv.2
  have hw := (ok' s).1 w ew
  obtain ⟨x, ex, n'⟩ := (c.one ok hw.1).2 hw.2
  rw [e] at ex
  injection ex with ex
  subst ex
  rw [ew, zLk hB hv.1.dig hw.1.dig (by omega)]
def zFj (B M : Nat) : Ans -> Nat
 | .none => B ^ (M + 1) + 1
 | .far => B ^ (M + 1)
 | .is w => numW B w
theorem zNd {B M : Nat} (hB : 0 < B) {w : List Int} (h : Dig B w) (hl : w.length <= M) : numW B w < B ^ (M + 1) :=
 Nat.lt_of_lt_of_le (zCk hB h) (Nat.pow_le_pow_right hB (by omega))
theorem zF1 {B M : Nat} (hB : 0 < B) {a b : Ans} (ha : ∀ w, a = .is w -> Dig B w /\ w.length <= M) (hb : ∀ w, b = .is w -> Dig B w) (h : zAQ a b = true) : zFj B M a < zFj B M b := by
 cases a with
 | none => cases b <;> simp [zAQ] at h
 | far => cases b <;> simp [zAQ, zFj] at h ⊢
 | is v =>
  have hv := ha v rfl
  have h1 := zNd hB hv.1 hv.2
  cases b with
  | none => show numW B v < B ^ (M + 1) + 1; omega
  | far => exact h1
  | is w => exact (zGw hB hv.1 (hb w rfl)).1 h
def sumTo (f : Nat -> Nat) : Nat -> Nat
 | 0 => 0
 | n + 1 => sumTo f n + f n
theorem sumTo_le {f g : Nat -> Nat} : ∀ {n : Nat}, (∀ i, i < n -> f i <= g i) -> sumTo f n <= sumTo g n := by
 intro n
 induction n with
 | zero => exact fun _ => Nat.le_refl _
 | succ n ih => exact fun h => Nat.add_le_add (ih fun i hi => h i (by omega)) (h n (by omega))
theorem zME {f g : Nat -> Nat} : ∀ {n k : Nat}, (∀ i, i < n -> f i <= g i) -> k < n -> f k < g k -> sumTo f n < sumTo g n := by
 intro n
 induction n with
 | zero => intro k _ hk; omega
 | succ n ih =>
  intro k h hk hlt
  show sumTo f n + f n < sumTo g n + g n
  by_cases e : k = n
  ·subst e
   have := sumTo_le (f := f) (g := g) (n := k) fun i hi => h i (by omega)
   omega
  ·have h1 := ih (k := k) (fun i hi => h i (by omega)) (by omega) hlt
   have h2 := h n (by omega)
   omega
def zB8 (G : Gram) (M : Nat) (T : Int -> Ans) (n : Nat) : Nat := sumTo (fun i => zFj (base G) M (T (i : Int))) n
theorem zLS {G : Gram} {M : Nat} {T : Int -> Ans} (ok : OkS G M T) {r : Int × List Int} (hr : r ∈ G.rules) {n : Nat} (h0 : 0 <= r.1) (hn : r.1 < (n : Int)) (hb : zAQ (zAh M T r.2) (T r.1) = true) :
  zB8 G M (setA T r.1 (zAh M T r.2)) n < zB8 G M T n := by
 have hB := zEY G
 have hk : zFj (base G) M (zAh M T r.2) < zFj (base G) M (T r.1) :=
  zF1 hB (fun w hw => ⟨(ok.join_is hw).1.dig, (ok.join_is hw).2⟩) (fun w hw => ((ok r.1).1 w hw).1.dig) hb
 have e : ((r.1.toNat : Nat) : Int) = r.1 := by omega
 refine zME (k := r.1.toNat) (fun i _ => ?_) (by omega) ?_
 ·by_cases ei : (i : Int) = r.1
  ·rw [ei, zAq]
   exact Nat.le_of_lt hk
  ·rw [zAT _ _ ei]
   exact Nat.le_refl _
 ·show zFj (base G) M (setA T r.1 (zAh M T r.2) ((r.1.toNat : Nat) : Int)) < zFj (base G) M (T ((r.1.toNat : Nat) : Int))
  rw [e, zAq]
  exact hk
def tab0 (G : Gram) : Int -> Ans := fun s => if s = 0 then .is [] else if zBS G s = true then .is [s] else .none
theorem zNU {G : Gram} {M : Nat} (hM : 1 <= M) : OkS G M (tab0 G) := by
 intro s
 unfold tab0
 split
 ·rename_i h
  subst h
  refine ⟨fun w hw => ?_, fun h => by cases h⟩
  injection hw with hw
  subst hw
  exact ⟨.zero .nil, Nat.zero_le _⟩
 ·split
  ·rename_i ht
   refine ⟨fun w hw => ?_, fun h => by cases h⟩
   injection hw with hw
   subst hw
   exact ⟨.term ht .nil, hM⟩
  ·exact ⟨(fun w hw => by cases hw), fun h => by cases h⟩
theorem zGt {G : Gram} {M : Nat} {T : Int -> Ans} {r : Int × List Int} (hn : nonB G r.1 = true) {s : Int} (h : s = 0 \/ zBS G s = true) : setA T r.1 (zAh M T r.2) s = T s := by
 refine zAT _ _ fun e => ?_
 subst e
 rw [zAY] at hn
 rcases h with h | h
 ·omega
 ·rw [zAR] at h
  omega
