/- A part of the proof. -/
import Derived.Test.YtbajcecncgdpmaaGreatDoorPk01
import Derived.Test.YtbajcecncgdpmaaGreatDoorPk02
import Derived.Test.YtbajcecncgdpmaaGreatDoorProg
import Derived.WalkKit
import Derived.WalkLawsBesides
import Derived.WalkSpells
import Derived.Deep.Light
import Derived.Deep.RegionHeld3
import Derived.Deep.QuietTactic
import Derived.BigQuiet
import Derived.IntWalk
import Derived.LoopTactic
set_option linter.unusedVariables false
namespace Go.Proofs.YtbajcecncgdpmaaGreatDoor
open Go.RowKit Go.Maps
namespace Gr
structure Gram where
 terms : List ByteArray
 nons : List ByteArray
 rules : List (Int × List Int)
 start : Int
def names (G : Gram) : List ByteArray := G.terms ++ G.nons
def top (G : Gram) : Nat := G.terms.length + G.nons.length
def zCk (G : Gram) (s : Int) : Bool := decide (1 <= s /\ s <= (G.terms.length : Int))
def nonB (G : Gram) (s : Int) : Bool := decide ((G.terms.length : Int) < s /\ s <= (top G : Int))
def zEK (G : Gram) (s : Int) : ByteArray := if s = 0 then ⟨#[36]⟩ else if 1 <= s /\ s <= (top G : Int) then (names G).getD (s.toNat - 1) ⟨#[]⟩ else ⟨#[]⟩
theorem zAM {G : Gram} {s : Int} : nonB G s = true ↔ (G.terms.length : Int) < s /\ s <= (G.terms.length : Int) + (G.nons.length : Int) := by
 unfold nonB top
 rw [decide_eq_true_iff]
 omega
theorem zPe {G : Gram} {s : Int} : nonB G s = false ↔ s <= (G.terms.length : Int) \/ (G.terms.length : Int) + (G.nons.length : Int) < s := by
 rw [← Bool.not_eq_true, zAM]
 omega
theorem zAd {G : Gram} {s : Int} : zCk G s = true ↔ 1 <= s /\ s <= (G.terms.length : Int) := by
 unfold zCk
 rw [decide_eq_true_iff]
theorem zAn (G : Gram) : (names G).length = top G := by simp [names, top]
theorem zNS (G : Gram) : zEK G 0 = ⟨#[36]⟩ := by simp [zEK]
theorem zOv {G : Gram} {s : Int} (h : s < 0 \/ (top G : Int) < s) : zEK G s = ⟨#[]⟩ := by
 unfold zEK
 rw [if_neg (by omega), if_neg (by omega)]
theorem zH3 {G : Gram} {s : Nat} (h : s < top G) : zEK G ((s : Int) + 1) = (names G)[s]'(by rw [zAn]; exact h) := by
 unfold zEK
 rw [if_neg (by omega), if_pos (by omega)]
 have e : ((s : Int) + 1).toNat - 1 = s := by omega
 rw [e]
 simp [List.getD_eq_getElem?_getD, List.getElem?_eq_getElem (show s < (names G).length by rw [zAn]; exact h)]
theorem zNJ {G : Gram} {s : Nat} (h : s < G.terms.length) : zEK G ((s : Int) + 1) = G.terms[s] := by
 rw [zH3 (by unfold top; omega)]
 simp [names, List.getElem_append_left h]
theorem zOa {G : Gram} {s : Nat} (h : s < G.nons.length) : zEK G (((G.terms.length + s : Nat) : Int) + 1) = G.nons[s] := by
 rw [zH3 (by unfold top; omega)]
 simp [names, List.getElem_append_right]
def leftOf (R : List (Int × List Int)) (i : Nat) : Int := (R.getD i (0, [])).1
theorem zAg {R : List (Int × List Int)} {i : Nat} (h : i < R.length) : leftOf R i = R[i].1 := by
 simp [leftOf, List.getD_eq_getElem?_getD, List.getElem?_eq_getElem h]
def ofTo (R : List (Int × List Int)) (s : Int) (k : Nat) : List Nat := (List.range k).filter fun i => leftOf R i == s
def ofN (G : Gram) (s : Int) : List Nat := ofTo G.rules s G.rules.length
theorem zN9 {R : List (Int × List Int)} {s : Int} {k : Nat} (h : leftOf R k = s) : ofTo R s (k + 1) = ofTo R s k ++ [k] := by
 simp [ofTo, List.range_succ, List.filter_append, h]
theorem zNA {R : List (Int × List Int)} {s : Int} {k : Nat} (h : ¬ leftOf R k = s) : ofTo R s (k + 1) = ofTo R s k := by
 simp [ofTo, List.range_succ, List.filter_append, h]
theorem zL2 (R : List (Int × List Int)) (s : Int) (k : Nat) : (ofTo R s k).length <= k := by
 unfold ofTo
 exact Nat.le_trans (List.length_filter_le _ _) (by simp)
theorem zNb {R : List (Int × List Int)} {s : Int} {k i : Nat} : i ∈ ofTo R s k ↔ i < k /\ leftOf R i = s := by
 simp [ofTo]
theorem zA9 {G : Gram} {s : Int} {i : Nat} : i ∈ ofN G s ↔ i < G.rules.length /\ leftOf G.rules i = s := zNb
def zAN (G : Gram) (i : Int) : Bool := decide (0 <= i /\ i <= (G.rules.length : Int))
def zAD (G : Gram) (i : Int) : Int × List Int := if i < 0 \/ (G.rules.length : Int) < i then (0, []) else if i = G.rules.length then (0, [G.start]) else G.rules.getD i.toNat (0, [])
theorem zCY {G : Gram} {i : Int} (h : i < 0 \/ (G.rules.length : Int) < i) : zAN G i = false /\ zAD G i = (0, []) := by
 refine ⟨?_, by unfold zAD; rw [if_pos h]⟩
 unfold zAN
 rw [decide_eq_false_iff_not]
 omega
theorem zAZ (G : Gram) : zAN G G.rules.length = true /\ zAD G G.rules.length = (0, [G.start]) := by
 refine ⟨by simp [zAN], ?_⟩
 unfold zAD
 rw [if_neg (by omega), if_pos rfl]
theorem zAi {G : Gram} {i : Nat} (h : i < G.rules.length) : zAN G i = true /\ zAD G i = G.rules[i] := by
 refine ⟨by simp [zAN]; omega, ?_⟩
 unfold zAD
 rw [if_neg (by omega), if_neg (by omega)]
 simp [List.getD_eq_getElem?_getD, List.getElem?_eq_getElem h]
def zBM (r q : Int × List Int) : Bool := r.1 == q.1 && decide (r.2 = q.2)
theorem zDH {r q : Int × List Int} : zBM r q = true ↔ r = q := by
 obtain ⟨a, b⟩ := r
 obtain ⟨c, d⟩ := q
 simp [zBM]
theorem zHd {r q : Int × List Int} : zBM r q = false ↔ r ≠ q := by rw [ne_eq, ← zDH, Bool.not_eq_true]
def insB (x : Int) : Bool := decide (33 <= x /\ x <= 126 /\ x ≠ 39)
def InTo (s : ByteArray) (k : Nat) : Prop := ∀ j (h : j < s.size), 1 <= j -> j < k -> insB ((s[j]'h).toNat : Int) = true
def Closes (s : ByteArray) (k : Nat) : Prop := 2 <= k /\ k < 24 /\ InTo s k /\ ∃ h : k < s.size, (s[k]'h).toNat = 39
theorem zJN (s : ByteArray) : InTo s 1 := fun j _ h1 h2 => absurd h1 (by omega)
theorem zGW {s : ByteArray} {k : Nat} (h : InTo s k) (hk : k < s.size) (hi : insB ((s[k]'hk).toNat : Int) = true) : InTo s (k + 1) := fun j hj h1 h2 => by
 by_cases e : j = k
 ·subst e
  exact hi
 ·exact h j hj h1 (by omega)
theorem zFL {s : ByteArray} {k : Nat} (h : Closes s k) {i : Nat} (hi : i < s.size) (h1 : 1 <= i) (hk : i < k) : insB ((s[i]'hi).toNat : Int) = true := h.2.2.1 i hi h1 hk
noncomputable def quoS (s : ByteArray) : Bool := @decide ((∃ h : 0 < s.size, (s[0]'h).toNat = 39) /\ ∃ k, Closes s k /\ k + 1 = s.size) (Classical.propDecidable _)
theorem zKE {s : ByteArray} {k j : Nat} (h : Closes s k) (g : Closes s j) : k = j := by
 obtain ⟨h1, h2, h3, h4, h5⟩ := h
 obtain ⟨g1, g2, g3, g4, g5⟩ := g
 rcases Nat.lt_trichotomy k j with hlt | rfl | hlt
 ·have := g3 k h4 (by omega) hlt
  rw [h5] at this
  simp [insB] at this
 ·rfl
 ·have := h3 j g4 (by omega) hlt
  rw [g5] at this
  simp [insB] at this
theorem zLn {s : ByteArray} (h : ¬ ∃ h : 0 < s.size, (s[0]'h).toNat = 39) : quoS s = false := by
 unfold quoS
 rw [decide_eq_false_iff_not]
 exact fun k => h k.1
theorem zJR {s : ByteArray} (h : ¬ ∃ k, Closes s k) : quoS s = false := by
 unfold quoS
 rw [decide_eq_false_iff_not]
 exact fun ⟨_, k, hk, _⟩ => h ⟨k, hk⟩
theorem zJT {s : ByteArray} {k : Nat} (h0 : ∃ h : 0 < s.size, (s[0]'h).toNat = 39) (h : Closes s k) : quoS s = decide (k + 1 = s.size) := by
 unfold quoS
 rw [Bool.eq_iff_iff, @decide_eq_true_iff _ (Classical.propDecidable _), decide_eq_true_iff]
 constructor
 ·rintro ⟨_, j, hj, e⟩
  rw [zKE h hj]
  exact e
 ·exact fun e => ⟨h0, k, h, e⟩
def plnS (s : ByteArray) : Bool := decide (s.size <= 24) && Ch.namB s.data.toList
def zBL (G : Gram) : Bool := decide (120 < G.terms.length) || decide (120 < G.nons.length) || decide (300 < G.rules.length) || G.rules.any fun r => decide (8 < r.2.length)
noncomputable def zCl (G : Gram) : Bool := (G.terms.all fun s => plnS s || quoS s) && G.nons.all plnS
def zDa (G : Gram) : Bool := decide (names G).Nodup
def zAX (G : Gram) : Bool := nonB G G.start && G.rules.all fun r => nonB G r.1 && r.2.all fun x => decide (1 <= x /\ x <= (top G : Int))
def zA6 (G : Gram) : Bool := decide G.rules.Nodup
def zCN (G : Gram) : Bool := (List.range G.nons.length).all fun i => !(ofN G ((G.terms.length : Int) + 1 + i)).isEmpty
noncomputable def checkN (G : Gram) : Int := if zBL G then 7 else if !zCl G then 10 else if !zDa G then 8 else if !zAX G then 1 else if !zA6 G then 8 else if !zCN G then 9 else 0
theorem zAR {G : Gram} (h : checkN G = 0) : zBL G = false /\ zCl G = true /\ zDa G = true /\ zAX G = true /\ zA6 G = true /\ zCN G = true := by
 unfold checkN at h
 cases h1 : zBL G <;> cases h2 : zCl G <;> cases h3 : zDa G <;> cases h4 : zAX G <;> cases h5 : zA6 G <;> cases h6 : zCN G <;> simp [h1, h2, h3, h4, h5, h6] at h ⊢
theorem zA8 {G : Gram} (h : zAX G = true) {i : Nat} (hi : i < G.rules.length) : nonB G (leftOf G.rules i) = true := by
 simp only [zAX, Bool.and_eq_true, List.all_eq_true] at h
 rw [zAg hi]
 exact (h.2 _ (List.getElem_mem hi)).1
structure Sh where
 a1 : Option Addr
 c1 : Nat
 a2 : Option Addr
 c2 : Nat
 a3 : Option Addr
 c3 : Nat
abbrev gv (h : Sh) (G : Gram) : Value := .agg #[.slice h.a1 G.terms.length h.c1, .slice h.a2 G.nons.length h.c2, .slice h.a3 G.rules.length h.c3, .int .i64 G.start]
def zBE (a : Option Addr) (R : List (Int × List Int)) (w : World) : Prop :=
 ∀ i (h : i < R.length), ∃ b o ra rc, a = some ⟨b, o, none⟩ /\ w.cell? ⟨b, o + i * 2, none⟩ = some (.int .i64 R[i].1) /\ w.cell? ⟨b, o + i * 2 + 1, none⟩ = some (.slice ra R[i].2.length rc) /\
  Sep.Reads ra (R[i].2.map (.int .i64)) w /\ R[i].2.length <= rc /\ R[i].2.length <= 17592186044416
theorem zBE.below {a : Option Addr} {R : List (Int × List Int)} {m : Nat} {w w' : World} (h : zBE a R w) (hb : Below m w w') (hm : w.heap.size <= m) : zBE a R w' := fun i hi => by
 obtain ⟨b, o, ra, rc, e, h1, h2, h3, h4⟩ := h i hi
 have k := World.block_lt_of_cell? w ⟨b, o + i * 2, none⟩ h1
 refine ⟨b, o, ra, rc, e, ?_, ?_, h3.below hb hm, h4⟩
 ·exact (hb.cell (p := ⟨b, o + i * 2, none⟩) (by simp at k ⊢; omega)).trans h1
 ·exact (hb.cell (p := ⟨b, o + i * 2 + 1, none⟩) (by simp at k ⊢; omega)).trans h2
def Fits (x : Int) : Prop := -9223372036854775808 <= x /\ x <= 9223372036854775807
structure GOk (G : Gram) : Prop where
 terms : ∀ s ∈ G.terms, s.size <= 140737488355328
 nons : ∀ s ∈ G.nons, s.size <= 140737488355328
 start : Fits G.start
 left : ∀ r ∈ G.rules, Fits r.1
 right : ∀ r ∈ G.rules, ∀ x ∈ r.2, Fits x
structure GAt (h : Sh) (G : Gram) (w : World) : Prop where
 terms : Sep.Reads h.a1 (G.terms.map .string) w
 nons : Sep.Reads h.a2 (G.nons.map .string) w
 rules : zBE h.a3 G.rules w
 t1 : G.terms.length <= h.c1
 t2 : G.terms.length <= 8796093022208
 n2 : G.nons.length <= 8796093022208
 r1 : G.rules.length <= h.c3
 r2 : G.rules.length <= 4398046511104
 ok : GOk G
theorem GAt.below {h : Sh} {G : Gram} {m : Nat} {w w' : World} (k : GAt h G w) (hb : Below m w w') (hm : w.heap.size <= m) : GAt h G w' :=
 ⟨k.terms.below hb hm, k.nons.below hb hm, k.rules.below hb hm, k.t1, k.t2, k.n2, k.r1, k.r2, k.ok⟩
theorem GAt.went {h : Sh} {G : Gram} {w w' : World} (k : GAt h G w) (hb : Below w.heap.size w w') : GAt h G w' := k.below hb (Nat.le_refl _)
def Is (v : Value) (w : World) (e : Ending) (w' : World) : Prop := e = .returned v /\ Below w.heap.size w w'
theorem step {w w1 w2 : World} (h : Below w.heap.size w w1) (k : Below w1.heap.size w1 w2) : Below w.heap.size w w2 := h.trans (k.mono h.size)
theorem cell_later {a b : World} {p : Addr} {v : Value} (h : Below a.heap.size a b) (hc : a.cell? p = some v) : b.cell? p = some v := (h.cell (World.block_lt_of_cell? a p hc)).trans hc
theorem boxed (w : World) (o : Obj) : Below w.heap.size w (w.alloc o) := (Below.refl _ _).alloc (Nat.le_refl _) o
theorem zAA {w : World} {cs : Array Value} {T : TypeId} {n j : Nat} {v : Value} (hn : n = w.heap.size) (hv : cs[j]? = some v) : (w.alloc (.cells cs T)).cell? ⟨n, j, none⟩ = some v := by
 subst hn
 simpa using hv
theorem zAK {w : World} {o : Obj} {p : Addr} {v : Value} (h : w.cell? p = some v) : (w.alloc o).cell? p = some v := cell_later (boxed _ _) h
theorem zBR {w : World} {cs : Array Value} {T : TypeId} {n j : Nat} (hn : n = w.heap.size) : (w.alloc (.cells cs T)).frozen? ⟨n, j, none⟩ = false := by
 subst hn
 simp
theorem zAy {w w' : World} {n i j : Nat} {v : Value} (hb : Below w.heap.size w w') (h : w.frozen? ⟨n, j, none⟩ = false) (hc : w.cell? ⟨n, i, none⟩ = some v) : w'.frozen? ⟨n, j, none⟩ = false :=
 (hb.frozen (p := ⟨n, j, none⟩) (World.block_lt_of_cell? w ⟨n, i, none⟩ hc)).trans h
theorem drawn (w : World) : Below w.heap.size w w.drew := (Below.refl _ _).drew
structure Box (q : Nat) (h : Sh) (G : Gram) (w : World) : Prop where
 x0 : w.cell? ⟨q, 0, none⟩ = some (.slice h.a1 G.terms.length h.c1)
 x1 : w.cell? ⟨q, 1, none⟩ = some (.slice h.a2 G.nons.length h.c2)
 x2 : w.cell? ⟨q, 2, none⟩ = some (.slice h.a3 G.rules.length h.c3)
 x3 : w.cell? ⟨q, 3, none⟩ = some (.int .i64 G.start)
theorem Box.later {q : Nat} {h : Sh} {G : Gram} {w w' : World} (k : Box q h G w) (hb : Below w.heap.size w w') : Box q h G w' :=
 ⟨cell_later hb k.x0, cell_later hb k.x1, cell_later hb k.x2, cell_later hb k.x3⟩
theorem Box.mk' (h : Sh) (G : Gram) (w : World) (T : TypeId) : Box w.heap.size h G (w.alloc (.cells #[.slice h.a1 G.terms.length h.c1, .slice h.a2 G.nons.length h.c2, .slice h.a3 G.rules.length h.c3, .int .i64 G.start] T)) :=
 ⟨by simp, by simp, by simp, by simp⟩
structure Bx (W : World) (h : Sh) (G : Gram) (w : World) : Prop where
 below : Below W.heap.size W w
 box : Box W.heap.size h G w
theorem Bx.start (h : Sh) (G : Gram) (w : World) (T : TypeId) : Bx w h G (w.alloc (.cells #[.slice h.a1 G.terms.length h.c1, .slice h.a2 G.nons.length h.c2, .slice h.a3 G.rules.length h.c3, .int .i64 G.start] T)) :=
 ⟨boxed _ _, Box.mk' h G w T⟩
theorem Bx.went {W : World} {h : Sh} {G : Gram} {w w' : World} (k : Bx W h G w) (hb : Below w.heap.size w w') : Bx W h G w' := ⟨step k.below hb, k.box.later hb⟩
theorem Bx.alloc {W : World} {h : Sh} {G : Gram} {w : World} (k : Bx W h G w) (o : Obj) : Bx W h G (w.alloc o) := k.went (boxed _ _)
theorem Bx.grown {W : World} {h : Sh} {G : Gram} {w w' : World} {row : Option Nat} (k : Bx W h G w) (hg : w.grownBy w' row) (hr : ∀ g, row = some g -> W.heap.size + 1 <= g) : Bx W h G w' := by
 have e : w'.heap[W.heap.size]? = w.heap[W.heap.size]? := hg.block _ (World.block_lt_of_cell? w ⟨W.heap.size, 0, none⟩ k.box.x0) (fun e => by have := hr _ e.symm; omega)
 refine ⟨k.below.grown hg k.below.size (fun g hg => by have := hr g hg; omega), ?_⟩
 exact ⟨(World.cell?_of_block (a := ⟨W.heap.size, 0, none⟩) e).trans k.box.x0, (World.cell?_of_block (a := ⟨W.heap.size, 1, none⟩) e).trans k.box.x1,
  (World.cell?_of_block (a := ⟨W.heap.size, 2, none⟩) e).trans k.box.x2, (World.cell?_of_block (a := ⟨W.heap.size, 3, none⟩) e).trans k.box.x3⟩
theorem Bx.size {W : World} {h : Sh} {G : Gram} {w : World} (k : Bx W h G w) : W.heap.size + 1 <= w.heap.size := World.block_lt_of_cell? w ⟨W.heap.size, 0, none⟩ k.box.x0
theorem zAU {x r : Int} (h : x = r) : Ending.returned (.int .i64 r) = .returned (.int .i64 x) := by rw [h]
theorem zAE {x r : Bool} (h : x = r) : Ending.returned (.bool r) = .returned (.bool x) := by rw [h]
theorem zBu (h : Sh) (G : Gram) (w : World) (k : GAt h G w) :
  Calls Tryz.prog 51 #[gv h G] w (Is (.int .i64 (top G)) w) := by
 have t := k.t2
 have n := k.n2
 clear k
 unfold gv
 go_enter Tryz.func51, Tryz.ntmps51
 go_wp2
 go_ret
 exact ⟨zAU (by unfold top; omega), boxed _ _⟩
theorem zN4 (h : Sh) (G : Gram) (s : Int) (w : World) (k : GAt h G w) :
  Calls Tryz.prog 146 #[gv h G, .int .i64 s] w (Is (.bool (zCk G s)) w) := by
 have t := k.t2
 clear k
 unfold gv
 go_enter Tryz.func146, Tryz.ntmps146
 go_wp2
 all_goals
  go_ret
  refine ⟨zAE ?_, boxed _ _⟩
  go_light
  unfold zCk
  first | (rw [decide_eq_true_iff]; omega) | (rw [decide_eq_false_iff_not]; omega) | (rw [Bool.eq_iff_iff]; simp only [decide_eq_true_eq]; omega)
theorem zLX (h : Sh) (G : Gram) (s : Int) (w : World) (k : GAt h G w) :
  Calls Tryz.prog 110 #[gv h G, .int .i64 s] w (Is (.bool (nonB G s)) w) := by
 have t := k.t2
 have T := zUB (fun w1 (b : Below w.heap.size w w1) => zBu h G w1 (k.went b))
 clear k
 unfold gv
 go_enter Tryz.func110, Tryz.ntmps110
 go_wp2_with (go_at_call 51; refine (T.out _ (boxed _ _)).mono ?_; rintro e w1 ⟨rfl, hb⟩; have HB := zUB (step (boxed _ _) hb); clear hb)
 all_goals
  go_ret
  refine ⟨zAE ?_, by first | exact HB.out | exact boxed _ _⟩
  go_light
  unfold nonB
  first | (rw [decide_eq_true_iff]; omega) | (rw [decide_eq_false_iff_not]; omega) | (rw [Bool.eq_iff_iff]; simp only [decide_eq_true_eq]; omega)
theorem zFz (h : Sh) (G : Gram) (w : World) (k : GAt h G w) :
  Calls Tryz.prog 31 #[gv h G] w (Is (.int .i64 (top G)) w) := by
 have t := k.t2
 have n := k.n2
 clear k
 unfold gv
 go_enter Tryz.func31, Tryz.ntmps31
 go_wp2
 go_ret
 exact ⟨zAU (by unfold top; omega), boxed _ _⟩
theorem zMx (h : Sh) (G : Gram) (s : Int) (w : World) (k : GAt h G w) :
  Calls Tryz.prog 103 #[gv h G, .int .i64 s] w (Is (.bool (zCk G s)) w) := by
 have t := k.t2
 clear k
 unfold gv
 go_enter Tryz.func103, Tryz.ntmps103
 go_wp2
 all_goals
  go_ret
  refine ⟨zAE ?_, boxed _ _⟩
  go_light
  unfold zCk
  first | (rw [decide_eq_true_iff]; omega) | (rw [decide_eq_false_iff_not]; omega) | (rw [Bool.eq_iff_iff]; simp only [decide_eq_true_eq]; omega)
theorem zF9 (h : Sh) (G : Gram) (s : Int) (w : World) (k : GAt h G w) :
  Calls Tryz.prog 37 #[gv h G, .int .i64 s] w (Is (.bool (nonB G s)) w) := by
 have t := k.t2
 have T := zUB (fun w1 (b : Below w.heap.size w w1) => zFz h G w1 (k.went b))
 clear k
 unfold gv
 go_enter Tryz.func37, Tryz.ntmps37
 go_wp2_with (go_at_call 31; refine (T.out _ (boxed _ _)).mono ?_; rintro e w1 ⟨rfl, hb⟩; have HB := zUB (step (boxed _ _) hb); clear hb)
 all_goals
  go_ret
  refine ⟨zAE ?_, by first | exact HB.out | exact boxed _ _⟩
  go_light
  unfold nonB
  first | (rw [decide_eq_true_iff]; omega) | (rw [decide_eq_false_iff_not]; omega) | (rw [Bool.eq_iff_iff]; simp only [decide_eq_true_eq]; omega)
