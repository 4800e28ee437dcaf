/-
  A grammar in memory: where its lists lie, and that they read as the data; it stays while only new blocks are made. The first walks: Top, Term, Non, of the program and of the plain answers.
-/
import Derived.Test.YtoohnkffclkmhaaProg
import Derived.Test.YtoohnkffclkmhaaGramPlain
import Derived.WalkKit
import Derived.WalkLawsBesides
import Derived.WalkSpells
import Derived.Deep.Light
import Derived.Deep.RegionHeld3
import Derived.Deep.QuietTactic
import Derived.BigQuiet
import Derived.IntWalk
import Derived.LoopTactic
namespace Go.Proofs.Ytoohnkffclkmhaa.Gr
open Go.RowKit Go.Maps

/-- Where the three lists of a grammar lie, and their capacities. -/
structure Sh where
  a1 : Option Addr
  c1 : Nat
  a2 : Option Addr
  c2 : Nat
  a3 : Option Addr
  c3 : Nat

/-- The value of a grammar. -/
abbrev gv (h : Sh) (G : Gram) : Value := .agg #[.slice h.a1 G.terms.length h.c1, .slice h.a2 G.nons.length h.c2, .slice h.a3 G.rules.length h.c3, .int .i64 G.start]

/-- Rules read: two cells each. -/
def RulesAt (a : Option Addr) (R : List (Int × List Int)) (w : World) : Prop :=
  ∀ i (h : i < R.length), ∃ b o ra rc, a = some ⟨b, o, none⟩ ∧ w.cell? ⟨b, o + i * 2, none⟩ = some (.int .i64 R[i].1) ∧ w.cell? ⟨b, o + i * 2 + 1, none⟩ = some (.slice ra R[i].2.length rc) ∧
    Sep.Reads ra (R[i].2.map (.int .i64)) w ∧ R[i].2.length ≤ rc ∧ R[i].2.length ≤ 17592186044416

theorem RulesAt.below {a : Option Addr} {R : List (Int × List Int)} {m : Nat} {w w' : World} (h : RulesAt a R w) (hb : Below m w w') (hm : w.heap.size ≤ m) : RulesAt a R w' := fun i hi => by
  obtain ⟨b, o, ra, rc, e, h1, h2, h3, h4⟩ := h i hi
  have k := World.block_lt_of_cell? w ⟨b, o + i * 2, none⟩ h1
  refine ⟨b, o, ra, rc, e, ?_, ?_, h3.below hb hm, h4⟩
  · exact (hb.cell (p := ⟨b, o + i * 2, none⟩) (by simp at k ⊢; omega)).trans h1
  · exact (hb.cell (p := ⟨b, o + i * 2 + 1, none⟩) (by simp at k ⊢; omega)).trans h2

/-- A number fits a machine. -/
def Fits (x : Int) : Prop := -9223372036854775808 ≤ x ∧ x ≤ 9223372036854775807

/-- A grammar fits a machine. -/
structure GOk (G : Gram) : Prop where
  terms : ∀ s ∈ G.terms, s.size ≤ 140737488355328
  nons : ∀ s ∈ G.nons, s.size ≤ 140737488355328
  start : Fits G.start
  left : ∀ r ∈ G.rules, Fits r.1
  right : ∀ r ∈ G.rules, ∀ x ∈ r.2, Fits x

/-- A grammar reads in memory. -/
structure GAt (h : Sh) (G : Gram) (w : World) : Prop where
  terms : Sep.Reads h.a1 (G.terms.map .string) w
  nons : Sep.Reads h.a2 (G.nons.map .string) w
  rules : RulesAt h.a3 G.rules w
  t1 : G.terms.length ≤ h.c1
  t2 : G.terms.length ≤ 8796093022208
  n2 : G.nons.length ≤ 8796093022208
  r1 : G.rules.length ≤ h.c3
  r2 : G.rules.length ≤ 4398046511104
  ok : GOk G

theorem GAt.below {h : Sh} {G : Gram} {m : Nat} {w w' : World} (k : GAt h G w) (hb : Below m w w') (hm : w.heap.size ≤ m) : GAt h G w' :=
  ⟨k.terms.below hb hm, k.nons.below hb hm, k.rules.below hb hm, k.t1, k.t2, k.n2, k.r1, k.r2, k.ok⟩
theorem GAt.went {h : Sh} {G : Gram} {w w' : World} (k : GAt h G w) (hb : Below w.heap.size w w') : GAt h G w' := k.below hb (Nat.le_refl _)

/-- One value comes back; nothing that was there is written. -/
def Is (v : Value) (w : World) (e : Ending) (w' : World) : Prop := e = .returned v ∧ Below w.heap.size w w'
theorem Is.step {v : Value} {w w1 : World} (h : Below w.heap.size w w1) {e : Ending} {w' : World} (k : Is v w1 e w') : Is v w e w' := ⟨k.1, h.trans (k.2.mono h.size)⟩
theorem step {w w1 w2 : World} (h : Below w.heap.size w w1) (k : Below w1.heap.size w1 w2) : Below w.heap.size w w2 := h.trans (k.mono h.size)
theorem cell_later {a b : World} {p : Addr} {v : Value} (h : Below a.heap.size a b) (hc : a.cell? p = some v) : b.cell? p = some v := (h.cell (World.block_lt_of_cell? a p hc)).trans hc
theorem boxed (w : World) (o : Obj) : Below w.heap.size w (w.alloc o) := (Below.refl _ _).alloc (Nat.le_refl _) o
theorem cell_new {w : World} {cs : Array Value} {T : TypeId} {n j : Nat} {v : Value} (hn : n = w.heap.size) (hv : cs[j]? = some v) : (w.alloc (.cells cs T)).cell? ⟨n, j, none⟩ = some v := by
  subst hn
  simpa using hv
theorem cell_old {w : World} {o : Obj} {p : Addr} {v : Value} (h : w.cell? p = some v) : (w.alloc o).cell? p = some v := cell_later (boxed _ _) h
theorem free_new {w : World} {cs : Array Value} {T : TypeId} {n j : Nat} (hn : n = w.heap.size) : (w.alloc (.cells cs T)).frozen? ⟨n, j, none⟩ = false := by
  subst hn
  simp
theorem free_old {w w' : World} {n i j : Nat} {v : Value} (hb : Below w.heap.size w w') (h : w.frozen? ⟨n, j, none⟩ = false) (hc : w.cell? ⟨n, i, none⟩ = some v) : w'.frozen? ⟨n, j, none⟩ = false :=
  (hb.frozen (p := ⟨n, j, none⟩) (World.block_lt_of_cell? w ⟨n, i, none⟩ hc)).trans h
theorem drawn (w : World) : Below w.heap.size w w.drew := (Below.refl _ _).drew

/-- The cells of a boxed grammar. -/
structure Box (q : Nat) (h : Sh) (G : Gram) (w : World) : Prop where
  x0 : w.cell? ⟨q, 0, none⟩ = some (.slice h.a1 G.terms.length h.c1)
  x1 : w.cell? ⟨q, 1, none⟩ = some (.slice h.a2 G.nons.length h.c2)
  x2 : w.cell? ⟨q, 2, none⟩ = some (.slice h.a3 G.rules.length h.c3)
  x3 : w.cell? ⟨q, 3, none⟩ = some (.int .i64 G.start)
theorem Box.later {q : Nat} {h : Sh} {G : Gram} {w w' : World} (k : Box q h G w) (hb : Below w.heap.size w w') : Box q h G w' :=
  ⟨cell_later hb k.x0, cell_later hb k.x1, cell_later hb k.x2, cell_later hb k.x3⟩
theorem Box.mk' (h : Sh) (G : Gram) (w : World) (T : TypeId) : Box w.heap.size h G (w.alloc (.cells #[.slice h.a1 G.terms.length h.c1, .slice h.a2 G.nons.length h.c2, .slice h.a3 G.rules.length h.c3, .int .i64 G.start] T)) :=
  ⟨by simp, by simp, by simp, by simp⟩

/-- Behind the box of a grammar, made first: nothing older is written, the box stands. -/
structure Bx (W : World) (h : Sh) (G : Gram) (w : World) : Prop where
  below : Below W.heap.size W w
  box : Box W.heap.size h G w
theorem Bx.start (h : Sh) (G : Gram) (w : World) (T : TypeId) : Bx w h G (w.alloc (.cells #[.slice h.a1 G.terms.length h.c1, .slice h.a2 G.nons.length h.c2, .slice h.a3 G.rules.length h.c3, .int .i64 G.start] T)) :=
  ⟨boxed _ _, Box.mk' h G w T⟩
theorem Bx.went {W : World} {h : Sh} {G : Gram} {w w' : World} (k : Bx W h G w) (hb : Below w.heap.size w w') : Bx W h G w' := ⟨step k.below hb, k.box.later hb⟩
theorem Bx.alloc {W : World} {h : Sh} {G : Gram} {w : World} (k : Bx W h G w) (o : Obj) : Bx W h G (w.alloc o) := k.went (boxed _ _)

theorem Bx.grown {W : World} {h : Sh} {G : Gram} {w w' : World} {row : Option Nat} (k : Bx W h G w) (hg : w.grownBy w' row) (hr : ∀ g, row = some g → W.heap.size + 1 ≤ g) : Bx W h G w' := by
  have e : w'.heap[W.heap.size]? = w.heap[W.heap.size]? := hg.block _ (World.block_lt_of_cell? w ⟨W.heap.size, 0, none⟩ k.box.x0) (fun e => by have := hr _ e.symm; omega)
  refine ⟨k.below.grown hg k.below.size (fun g hg => by have := hr g hg; omega), ?_⟩
  exact ⟨(World.cell?_of_block (a := ⟨W.heap.size, 0, none⟩) e).trans k.box.x0, (World.cell?_of_block (a := ⟨W.heap.size, 1, none⟩) e).trans k.box.x1,
    (World.cell?_of_block (a := ⟨W.heap.size, 2, none⟩) e).trans k.box.x2, (World.cell?_of_block (a := ⟨W.heap.size, 3, none⟩) e).trans k.box.x3⟩
theorem Bx.size {W : World} {h : Sh} {G : Gram} {w : World} (k : Bx W h G w) : W.heap.size + 1 ≤ w.heap.size := World.block_lt_of_cell? w ⟨W.heap.size, 0, none⟩ k.box.x0

theorem int_of {x r : Int} (h : x = r) : Ending.returned (.int .i64 r) = .returned (.int .i64 x) := by rw [h]
theorem bool_of {x r : Bool} (h : x = r) : Ending.returned (.bool r) = .returned (.bool x) := by rw [h]

/-! ### Top, Term, Non -/

theorem top_any (h : Sh) (G : Gram) (w : World) (k : GAt h G w) :
    Calls Try.prog 52 #[gv h G] w (Is (.int .i64 (top G)) w) := by
  have t := k.t2
  have n := k.n2
  clear k
  unfold gv
  go_enter Try.func52, Try.ntmps52
  go_wp2
  go_ret
  exact ⟨int_of (by unfold top; omega), boxed _ _⟩

theorem term_any (h : Sh) (G : Gram) (s : Int) (w : World) (k : GAt h G w) :
    Calls Try.prog 41 #[gv h G, .int .i64 s] w (Is (.bool (termB G s)) w) := by
  have t := k.t2
  clear k
  unfold gv
  go_enter Try.func41, Try.ntmps41
  go_wp2
  all_goals
    go_ret
    refine ⟨bool_of ?_, boxed _ _⟩
    go_light
    unfold termB
    first | (rw [decide_eq_true_iff]; omega) | (rw [decide_eq_false_iff_not]; omega) | (rw [Bool.eq_iff_iff]; simp only [decide_eq_true_eq]; omega)

theorem non_any (h : Sh) (G : Gram) (s : Int) (w : World) (k : GAt h G w) :
    Calls Try.prog 47 #[gv h G, .int .i64 s] w (Is (.bool (nonB G s)) w) := by
  have t := k.t2
  have T := Lib.hid (fun w1 (b : Below w.heap.size w w1) => top_any h G w1 (k.went b))
  clear k
  unfold gv
  go_enter Try.func47, Try.ntmps47
  go_wp2_with (go_at_call 52; refine (T.out _ (boxed _ _)).mono ?_; rintro e w1 ⟨rfl, hb⟩; have HB := Lib.hid (step (boxed _ _) hb); clear hb)
  all_goals
    go_ret
    refine ⟨bool_of ?_, by first | exact HB.out | exact boxed _ _⟩
    go_light
    unfold nonB
    first | (rw [decide_eq_true_iff]; omega) | (rw [decide_eq_false_iff_not]; omega) | (rw [Bool.eq_iff_iff]; simp only [decide_eq_true_eq]; omega)

end Go.Proofs.Ytoohnkffclkmhaa.Gr
