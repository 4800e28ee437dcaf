/- A part of the proof. -/
import Derived.Test.YtnfbjlainpenaaaGreatProg
import Derived.WalkKit
import Derived.WalkLawsBesides
import Derived.WalkSpells
import Derived.Deep.Light
import Derived.Deep.RegionHeld3
import Derived.Deep.QuietTactic
import Derived.BigQuiet
import Derived.IntWalk
import Derived.LoopTactic
import Derived.Test.YtnfbjlainpenaaaGreatPk04
set_option maxHeartbeats 2000000
set_option maxRecDepth 100000
set_option linter.unusedVariables false
namespace Go.Proofs.YtnfbjlainpenaaaGreat
open Go.RowKit Go.Maps
namespace Gr
structure Sh where
 a1 : Option Addr
 c1 : Nat
 a2 : Option Addr
 c2 : Nat
 a3 : Option Addr
 c3 : Nat
abbrev gv (h : Sh) (G : Gram) : Value := .agg #[.slice h.a1 G.terms.length h.c1, .slice h.a2 G.nons.length h.c2, .slice h.a3 G.rules.length h.c3, .int .i64 G.start]
def zAm (a : Option Addr) (R : List (Int × List Int)) (w : World) : Prop :=
 ∀ i (h : i < R.length), ∃ b o ra rc, a = some ⟨b, o, none⟩ /\ w.cell? ⟨b, o + i * 2, none⟩ = some (.int .i64 R[i].1) /\ w.cell? ⟨b, o + i * 2 + 1, none⟩ = some (.slice ra R[i].2.length rc) /\
  Sep.Reads ra (R[i].2.map (.int .i64)) w /\ R[i].2.length <= rc /\ R[i].2.length <= 17592186044416
theorem zAm.below {a : Option Addr} {R : List (Int × List Int)} {m : Nat} {w w' : World} (h : zAm a R w) (hb : Below m w w') (hm : w.heap.size <= m) : zAm a R w' := fun i hi => by
 obtain ⟨b, o, ra, rc, e, h1, h2, h3, h4⟩ := h i hi
 have k := World.block_lt_of_cell? w ⟨b, o + i * 2, none⟩ h1
 refine ⟨b, o, ra, rc, e, ?_, ?_, h3.below hb hm, h4⟩
 ·exact (hb.cell (p := ⟨b, o + i * 2, none⟩) (by simp at k ⊢; omega)).trans h1
 ·exact (hb.cell (p := ⟨b, o + i * 2 + 1, none⟩) (by simp at k ⊢; omega)).trans h2
def Fits (x : Int) : Prop := -9223372036854775808 <= x /\ x <= 9223372036854775807
structure GOk (G : Gram) : Prop where
 terms : ∀ s ∈ G.terms, s.size <= 140737488355328
 nons : ∀ s ∈ G.nons, s.size <= 140737488355328
 start : Fits G.start
 left : ∀ r ∈ G.rules, Fits r.1
 right : ∀ r ∈ G.rules, ∀ x ∈ r.2, Fits x
structure GAt (h : Sh) (G : Gram) (w : World) : Prop where
 terms : Sep.Reads h.a1 (G.terms.map .string) w
 nons : Sep.Reads h.a2 (G.nons.map .string) w
 rules : zAm h.a3 G.rules w
 t1 : G.terms.length <= h.c1
 t2 : G.terms.length <= 8796093022208
 n2 : G.nons.length <= 8796093022208
 r1 : G.rules.length <= h.c3
 r2 : G.rules.length <= 4398046511104
 ok : GOk G
theorem GAt.below {h : Sh} {G : Gram} {m : Nat} {w w' : World} (k : GAt h G w) (hb : Below m w w') (hm : w.heap.size <= m) : GAt h G w' :=
 ⟨k.terms.below hb hm, k.nons.below hb hm, k.rules.below hb hm, k.t1, k.t2, k.n2, k.r1, k.r2, k.ok⟩
theorem GAt.went {h : Sh} {G : Gram} {w w' : World} (k : GAt h G w) (hb : Below w.heap.size w w') : GAt h G w' := k.below hb (Nat.le_refl _)
def Is (v : Value) (w : World) (e : Ending) (w' : World) : Prop := e = .returned v /\ Below w.heap.size w w'
theorem step {w w1 w2 : World} (h : Below w.heap.size w w1) (k : Below w1.heap.size w1 w2) : Below w.heap.size w w2 := h.trans (k.mono h.size)
theorem cell_later {a b : World} {p : Addr} {v : Value} (h : Below a.heap.size a b) (hc : a.cell? p = some v) : b.cell? p = some v := (h.cell (World.block_lt_of_cell? a p hc)).trans hc
theorem boxed (w : World) (o : Obj) : Below w.heap.size w (w.alloc o) := (Below.refl _ _).alloc (Nat.le_refl _) o
theorem zAB {w : World} {cs : Array Value} {T : TypeId} {n j : Nat} {v : Value} (hn : n = w.heap.size) (hv : cs[j]? = some v) : (w.alloc (.cells cs T)).cell? ⟨n, j, none⟩ = some v := by
 subst hn
 simpa using hv
theorem zAF {w : World} {o : Obj} {p : Addr} {v : Value} (h : w.cell? p = some v) : (w.alloc o).cell? p = some v := cell_later (boxed _ _) h
theorem zBy {w : World} {cs : Array Value} {T : TypeId} {n j : Nat} (hn : n = w.heap.size) : (w.alloc (.cells cs T)).frozen? ⟨n, j, none⟩ = false := by
 subst hn
 simp
theorem zBh {w w' : World} {n i j : Nat} {v : Value} (hb : Below w.heap.size w w') (h : w.frozen? ⟨n, j, none⟩ = false) (hc : w.cell? ⟨n, i, none⟩ = some v) : w'.frozen? ⟨n, j, none⟩ = false :=
 (hb.frozen (p := ⟨n, j, none⟩) (World.block_lt_of_cell? w ⟨n, i, none⟩ hc)).trans h
theorem drawn (w : World) : Below w.heap.size w w.drew := (Below.refl _ _).drew
structure Box (q : Nat) (h : Sh) (G : Gram) (w : World) : Prop where
 x0 : w.cell? ⟨q, 0, none⟩ = some (.slice h.a1 G.terms.length h.c1)
 x1 : w.cell? ⟨q, 1, none⟩ = some (.slice h.a2 G.nons.length h.c2)
 x2 : w.cell? ⟨q, 2, none⟩ = some (.slice h.a3 G.rules.length h.c3)
 x3 : w.cell? ⟨q, 3, none⟩ = some (.int .i64 G.start)
theorem Box.later {q : Nat} {h : Sh} {G : Gram} {w w' : World} (k : Box q h G w) (hb : Below w.heap.size w w') : Box q h G w' :=
 ⟨cell_later hb k.x0, cell_later hb k.x1, cell_later hb k.x2, cell_later hb k.x3⟩
theorem Box.mk' (h : Sh) (G : Gram) (w : World) (T : TypeId) : Box w.heap.size h G (w.alloc (.cells #[.slice h.a1 G.terms.length h.c1, .slice h.a2 G.nons.length h.c2, .slice h.a3 G.rules.length h.c3, .int .i64 G.start] T)) :=
 ⟨by simp, by simp, by simp, by simp⟩
structure Bx (W : World) (h : Sh) (G : Gram) (w : World) : Prop where
 below : Below W.heap.size W w
 box : Box W.heap.size h G w
theorem Bx.start (h : Sh) (G : Gram) (w : World) (T : TypeId) : Bx w h G (w.alloc (.cells #[.slice h.a1 G.terms.length h.c1, .slice h.a2 G.nons.length h.c2, .slice h.a3 G.rules.length h.c3, .int .i64 G.start] T)) :=
 ⟨boxed _ _, Box.mk' h G w T⟩
theorem Bx.went {W : World} {h : Sh} {G : Gram} {w w' : World} (k : Bx W h G w) (hb : Below w.heap.size w w') : Bx W h G w' := ⟨step k.below hb, k.box.later hb⟩
theorem Bx.alloc {W : World} {h : Sh} {G : Gram} {w : World} (k : Bx W h G w) (o : Obj) : Bx W h G (w.alloc o) := k.went (boxed _ _)
theorem Bx.grown {W : World} {h : Sh} {G : Gram} {w w' : World} {row : Option Nat} (k : Bx W h G w) (hg : w.grownBy w' row) (hr : ∀ g, row = some g -> W.heap.size + 1 <= g) : Bx W h G w' := by
 have e : w'.heap[W.heap.size]? = w.heap[W.heap.size]? := hg.block _ (World.block_lt_of_cell? w ⟨W.heap.size, 0, none⟩ k.box.x0) (fun e => by have := hr _ e.symm; omega)
 refine ⟨k.below.grown hg k.below.size (fun g hg => by have := hr g hg; omega), ?_⟩
 exact ⟨(World.cell?_of_block (a := ⟨W.heap.size, 0, none⟩) e).trans k.box.x0, (World.cell?_of_block (a := ⟨W.heap.size, 1, none⟩) e).trans k.box.x1,
  (World.cell?_of_block (a := ⟨W.heap.size, 2, none⟩) e).trans k.box.x2, (World.cell?_of_block (a := ⟨W.heap.size, 3, none⟩) e).trans k.box.x3⟩
theorem Bx.size {W : World} {h : Sh} {G : Gram} {w : World} (k : Bx W h G w) : W.heap.size + 1 <= w.heap.size := World.block_lt_of_cell? w ⟨W.heap.size, 0, none⟩ k.box.x0
theorem zAH {x r : Int} (h : x = r) : Ending.returned (.int .i64 r) = .returned (.int .i64 x) := by rw [h]
theorem zAA {x r : Bool} (h : x = r) : Ending.returned (.bool r) = .returned (.bool x) := by rw [h]
theorem zBS (h : Sh) (G : Gram) (w : World) (k : GAt h G w) :
  Calls Tryz.prog 70 #[gv h G] w (Is (.int .i64 (top G)) w) := by
 have t := k.t2
 have n := k.n2
 clear k
 unfold gv
 go_enter Tryz.func70, Tryz.ntmps70
 go_wp2
 go_ret
 exact ⟨zAH (by unfold top; omega), boxed _ _⟩
theorem zGX (h : Sh) (G : Gram) (s : Int) (w : World) (k : GAt h G w) :
  Calls Tryz.prog 71 #[gv h G, .int .i64 s] w (Is (.bool (zBJ G s)) w) := by
 have t := k.t2
 clear k
 unfold gv
 go_enter Tryz.func71, Tryz.ntmps71
 go_wp2
 all_goals
  go_ret
  refine ⟨zAA ?_, boxed _ _⟩
  go_light
  unfold zBJ
  first | (rw [decide_eq_true_iff]; omega) | (rw [decide_eq_false_iff_not]; omega) | (rw [Bool.eq_iff_iff]; simp only [decide_eq_true_eq]; omega)
theorem zFT (h : Sh) (G : Gram) (s : Int) (w : World) (k : GAt h G w) :
  Calls Tryz.prog 72 #[gv h G, .int .i64 s] w (Is (.bool (nonB G s)) w) := by
 have t := k.t2
 have T := zNR (fun w1 (b : Below w.heap.size w w1) => zBS h G w1 (k.went b))
 clear k
 unfold gv
 go_enter Tryz.func72, Tryz.ntmps72
 go_wp2_with (go_at_call 70; refine (T.out _ (boxed _ _)).mono ?_; rintro e w1 ⟨rfl, hb⟩; have HB := zNR (step (boxed _ _) hb); clear hb)
 all_goals
  go_ret
  refine ⟨zAA ?_, by first | exact HB.out | exact boxed _ _⟩
  go_light
  unfold nonB
  first | (rw [decide_eq_true_iff]; omega) | (rw [decide_eq_false_iff_not]; omega) | (rw [Bool.eq_iff_iff]; simp only [decide_eq_true_eq]; omega)
theorem zGQ (h : Sh) (G : Gram) (w : World) (k : GAt h G w) :
  Calls Tryz.prog 33 #[gv h G] w (Is (.int .i64 (top G)) w) := by
 have t := k.t2
 have n := k.n2
 clear k
 unfold gv
 go_enter Tryz.func33, Tryz.ntmps33
 go_wp2
 go_ret
 exact ⟨zAH (by unfold top; omega), boxed _ _⟩
theorem zJE (h : Sh) (G : Gram) (s : Int) (w : World) (k : GAt h G w) :
  Calls Tryz.prog 82 #[gv h G, .int .i64 s] w (Is (.bool (zBJ G s)) w) := by
 have t := k.t2
 clear k
 unfold gv
 go_enter Tryz.func82, Tryz.ntmps82
 go_wp2
 all_goals
  go_ret
  refine ⟨zAA ?_, boxed _ _⟩
  go_light
  unfold zBJ
  first | (rw [decide_eq_true_iff]; omega) | (rw [decide_eq_false_iff_not]; omega) | (rw [Bool.eq_iff_iff]; simp only [decide_eq_true_eq]; omega)
theorem zKg (h : Sh) (G : Gram) (s : Int) (w : World) (k : GAt h G w) :
  Calls Tryz.prog 81 #[gv h G, .int .i64 s] w (Is (.bool (nonB G s)) w) := by
 have t := k.t2
 have T := zNR (fun w1 (b : Below w.heap.size w w1) => zGQ h G w1 (k.went b))
 clear k
 unfold gv
 go_enter Tryz.func81, Tryz.ntmps81
 go_wp2_with (go_at_call 33; refine (T.out _ (boxed _ _)).mono ?_; rintro e w1 ⟨rfl, hb⟩; have HB := zNR (step (boxed _ _) hb); clear hb)
 all_goals
  go_ret
  refine ⟨zAA ?_, by first | exact HB.out | exact boxed _ _⟩
  go_light
  unfold nonB
  first | (rw [decide_eq_true_iff]; omega) | (rw [decide_eq_false_iff_not]; omega) | (rw [Bool.eq_iff_iff]; simp only [decide_eq_true_eq]; omega)
theorem zE1 {x r : ByteArray} (h : x = r) : Ending.returned (.string r) = .returned (.string x) := by rw [h]
theorem zEA (h : Sh) (G : Gram) (s : Int) (w : World) (k : GAt h G w) :
  Calls Tryz.prog 90 #[gv h G, .int .i64 s] w (Is (.string (zCq G s)) w) := by
 have T := zNR (fun w1 (b : Below w.heap.size w w1) => zGX h G s w1 (k.went b))
 have N := zNR (fun w1 (b : Below w.heap.size w w1) => zFT h G s w1 (k.went b))
 have X := zNR (Bx.start h G w 25)
 have t := k.t2
 have n := k.n2
 by_cases h0 : s = 0
 ·subst h0
  have E := zNR (zIl G)
  clear k T N
  unfold gv
  go_enter Tryz.func90, Tryz.ntmps90
  go_wp2
  go_ret
  exact ⟨zE1 E.out, X.out.below⟩
 ·by_cases h1 : 1 <= s /\ s <= (G.terms.length : Int)
  ·obtain ⟨j, rfl⟩ : ∃ j : Nat, s = (j : Int) + 1 := ⟨(s - 1).toNat, by omega⟩
   have hj : j < G.terms.length := by omega
   have E := zNR (zIj hj)
   have e1 := zAN.2 h1
   rw [e1] at T
   obtain ⟨a1, c1, a2, c2, a3, c3⟩ := h
   obtain ⟨b, o, e, hc⟩ := k.terms j (by simpa using hj)
   dsimp only at e
   subst e
   simp only [List.getElem_map] at hc
   have HC := zNR (fun w1 (b : Below w.heap.size w w1) => cell_later b hc)
   clear hc k N e1 h1 h0
   generalize zCq G ((j : Int) + 1) = x at E ⊢
   have hx := E.out
   subst hx
   unfold gv
   dsimp only
   go_enter Tryz.func90, Tryz.ntmps90
   go_wp2_with (go_at_call 71; refine (T.out _ X.out.below).mono ?_; rintro e w1 ⟨rfl, hb⟩; have X := zNR (X.out.went hb); obtain ⟨x0, x1, x2, x3⟩ := X.out.box; have hc := HC.out _ X.out.below; clear hb)
   go_ret
   exact ⟨rfl, X.out.below⟩
  ·have e1 : zBJ G s = false := by rw [← Bool.not_eq_true, zAN]; exact h1
   rw [e1] at T
   by_cases h2 : (G.terms.length : Int) < s /\ s <= (G.terms.length : Int) + (G.nons.length : Int)
   ·obtain ⟨j, rfl⟩ : ∃ j : Nat, s = ((G.terms.length + j : Nat) : Int) + 1 := ⟨(s - 1 - G.terms.length).toNat, by omega⟩
    have hj : j < G.nons.length := by omega
    have E := zNR (zKM hj)
    have e2 := zAW.2 h2
    rw [e2] at N
    obtain ⟨a1, c1, a2, c2, a3, c3⟩ := h
    obtain ⟨b, o, e, hc⟩ := k.nons j (by simpa using hj)
    dsimp only at e
    subst e
    simp only [List.getElem_map] at hc
    have HC := zNR (fun w1 (b : Below w.heap.size w w1) => cell_later b hc)
    clear hc k e1 e2 h1 h2 h0
    generalize zCq G (((G.terms.length + j : Nat) : Int) + 1) = x at E ⊢
    have hx := E.out
    subst hx
    unfold gv
    dsimp only
    have hi1 : ((G.terms.length + j : Nat) : Int) + 1 - (G.terms.length : Int) = (j : Int) + 1 := by omega
    have hi2 : (G.terms.length : Int) + (j : Int) + 1 - (G.terms.length : Int) = (j : Int) + 1 := by omega
    go_enter Tryz.func90, Tryz.ntmps90
    go_wp2_with (first
     | (go_at_call 71; refine (T.out _ X.out.below).mono ?_; rintro e w1 ⟨rfl, hb⟩; have X := zNR (X.out.went hb); obtain ⟨x0, x1, x2, x3⟩ := X.out.box; clear hb)
     | (go_at_call 72; refine (N.out _ X.out.below).mono ?_; rintro e w1 ⟨rfl, hb⟩; have X := zNR (X.out.went hb); obtain ⟨x0, x1, x2, x3⟩ := X.out.box; have hc := HC.out _ X.out.below; clear hb))
    go_ret
    exact ⟨rfl, X.out.below⟩
   ·have e2 : nonB G s = false := by rw [← Bool.not_eq_true, zAW]; exact h2
    rw [e2] at N
    have E := zNR (zKN (G := G) (s := s) (by unfold top; omega))
    clear k e1 e2 h1 h2
    unfold gv
    go_enter Tryz.func90, Tryz.ntmps90
    go_wp2_with (first
     | (go_at_call 71; refine (T.out _ X.out.below).mono ?_; rintro e w1 ⟨rfl, hb⟩; have X := zNR (X.out.went hb); obtain ⟨x0, x1, x2, x3⟩ := X.out.box; clear hb)
     | (go_at_call 72; refine (N.out _ X.out.below).mono ?_; rintro e w1 ⟨rfl, hb⟩; have X := zNR (X.out.went hb); obtain ⟨x0, x1, x2, x3⟩ := X.out.box; clear hb))
    go_ret
    exact ⟨zE1 E.out, X.out.below⟩
def zGc (L : List ByteArray) (s : ByteArray) (k : Nat) : Prop := ∀ j (hj : j < L.length), j < k -> L[j] ≠ s
theorem ahead_zero (L : List ByteArray) (s : ByteArray) : zGc L s 0 := fun _ _ h => absurd h (by omega)
theorem zGh {L : List ByteArray} {s : ByteArray} {k : Nat} (h : zGc L s k) (hk : k < L.length) (hn : L[k] ≠ s) : zGc L s (k + 1) := fun j hj h1 => by
 by_cases e : j = k
 ·subst e
  exact hn
 ·exact h j hj (by omega)
theorem zHe {L : List ByteArray} {s : ByteArray} {k : Nat} (h : zGc L s k) (hk : k < L.length) (he : L[k] = s) : It.place L s = (k : Int) := by
 have hp := It.zNN hk he (fun j hj => h j (by omega) hj)
 rw [It.zED (by simp [It.isIn, hp])]
 simp [It.num, hp]
theorem zHd {L : List ByteArray} {s : ByteArray} {k : Nat} (h : zGc L s k) (hk : ¬ k < L.length) : It.place L s = -1 := by
 refine It.zCt ?_
 cases hi : It.isIn L s with
 | false => rfl
 | true =>
  obtain ⟨h1, h2⟩ := It.zGG hi
  exact absurd h2 (h _ h1 (by omega))
theorem zJp {x s : ByteArray} (h : x ≠ s) : (x.toList == s.toList) = false := by
 rw [beq_eq_false_iff_ne, ByteArray.toList_eq, ByteArray.toList_eq]
 exact fun e => h (It.zDu e)
theorem zAq : (Tryz.prog.info? 3).map (fun i => (i.zero, i.size, i.bytes)) = some (some (.int .i64 0), 1, 8) := by kernel_rfl
def iv (i : Int) : Value := .int .i64 i
def ivs (l : List Int) : List Value := l.map iv
theorem zGx (l : List Int) : (ivs l).length = l.length := by simp [ivs]
def ofI (R : List (Int × List Int)) (s : Int) (k : Nat) : List Int := (ofTo R s k).map fun i : Nat => (i : Int)
def ofL (G : Gram) (s : Int) : List Int := ofI G.rules s G.rules.length
theorem zAw (G : Gram) (s : Int) : (ofL G s).length = (ofN G s).length := by simp [ofL, ofI, ofN]
theorem zIp (R : List (Int × List Int)) (s : Int) (k : Nat) : (ofI R s k).length <= k := by
 have := zIq R s k
 simpa [ofI] using this
theorem zIo {R : List (Int × List Int)} {s : Int} {k : Nat} (h : leftOf R k = s) : ofI R s (k + 1) = ofI R s k ++ [(k : Int)] := by simp [ofI, zKS h]
theorem zGH {R : List (Int × List Int)} {s : Int} {k : Nat} (h : ¬ leftOf R k = s) : ofI R s (k + 1) = ofI R s k := by simp [ofI, zIr h]
def New (a : Option Addr) (w : World) : Prop := ∀ x, a = some x -> w.heap.size <= x.block
theorem zEF {W w : World} {base n c : Nat} {e : TypeId} {a : Option Addr} {xs : List Value} (h : w.ownsRow base e 1 (.slice a n c) n xs) (hb : W.heap.size <= base) : New a W := by
 rintro x rfl
 rcases h.2 with ⟨h1, _⟩ | ⟨g, cap, cur, h1, h2, _⟩
 ·cases h1
 ·simp only [Value.slice.injEq, Option.some.injEq] at h1
  obtain ⟨rfl, _⟩ := h1
  simp
  omega
def Listed (l : List Int) (w : World) (e : Ending) (w' : World) : Prop :=
 ∃ a c, e = .returned (.slice a l.length c) /\ Sep.Reads a (ivs l) w' /\ New a w /\ Below w.heap.size w w'
theorem zCW (h : Sh) (G : Gram) (s : Int) (w : World) (k : GAt h G w) (hr : G.rules.length <= 65536) :
  Calls Tryz.prog 93 #[gv h G, .int .i64 s] w (Listed (ofL G s) w) := by
 obtain ⟨i0, hi, hz0, hz1, hz2⟩ := info_parts zAq
 obtain ⟨a1, c1, a2, c2, a3, c3⟩ := h
 have hc3 := k.r2
 have X := zNR (Bx.start ⟨a1, c1, a2, c2, a3, c3⟩ G w 25)
 have K := zNR (fun w1 (b : Below w.heap.size w w1) => (k.went b).rules)
 clear k
 have HO := zNR (show (w.alloc (.cells #[.slice a1 G.terms.length c1, .slice a2 G.nons.length c2, .slice a3 G.rules.length c3, .int .i64 G.start] 25)).ownsRow (w.heap.size + 1) 3 1 (.slice none 0 0) (ofI G.rules s 0).length (ivs (ofI G.rules s 0)) from ⟨rfl, .inl ⟨rfl, rfl⟩⟩)
 unfold gv
 dsimp only
 go_enter Tryz.func93, Tryz.ntmps93
 go_wp2
 go_loopw [5, 11] (fun v i wr => ∃ j : Nat, j <= G.rules.length /\ i = .int .i64 j /\ wr.ownsRow (w.heap.size + 1) 3 1 v (ofI G.rules s j).length (ivs (ofI G.rules s j)) /\ Bx w ⟨a1, c1, a2, c2, a3, c3⟩ G wr) (fun _ i _ => G.rules.length - (intOf i).toNat)
 case atStart => exact ⟨0, Nat.zero_le _, rfl, HO.out, X.out⟩
 case round =>
  obtain ⟨j, hj, rfl, hO, hX⟩ := hrel
  obtain ⟨a', c', rfl⟩ := Sep.zAX hO
  clear HO X
  have X := zNR hX
  have HO := zNR hO
  have hle := zIp G.rules s j
  clear hO hX
  by_cases hlt : j < G.rules.length
  ·obtain ⟨b, o, ra, rc, e, h1, h2, h3, h4, h5⟩ := K.out _ X.out.below j hlt
   have e1 := zBj hlt
   rw [← e1] at h1
   generalize G.rules[j].2 = rr at h2 h3 h4 h5
   try dsimp only at e
   subst e
   clear e1 h3
   by_cases hs : leftOf G.rules j = s
   ·have HI := zNR (zIo hs)
    subst hs
    generalize leftOf G.rules j = s at *
    go_wp2_with (at_builtin; go_loud (refine wpList_append_own _ rfl _ _ 40 rfl (w.heap.size + 1) 3 i0 (.int .i64 0) 1 8 Tryz.underlying40 hi hz0 hz1 hz2 rfl (by decide) _ _ _ rfl ((HO.out.alloc _).alloc _) ⟨wr.heap.size + 1, 0, none⟩ 1 1 [iv j] rfl rfl ?c1 ?c2 ?c3 ?c4 ?c5 ?_))
    case c1 =>
     intro i u hi
     match i, hi with
     | 0, hi => simp at hi; subst hi; simp [Addr.add, iv]
    case c2 => intro u hu; simp at hu; subst hu; rfl
    case c3 => unfold maxLen; omega
    case c4 => omega
    case c5 => have := X.out.size; simp; omega
    intro v' w2 hown' hgrow _
    have X := zNR (((X.out.alloc _).alloc _).grown hgrow fun q hq => (HO.out.lt q hq).1)
    have HO := zNR (show w2.ownsRow (w.heap.size + 1) 3 1 v' (ofI G.rules s (j + 1)).length (ivs (ofI G.rules s (j + 1))) by rw [HI.out]; simpa [ivs] using hown')
    clear hown' hgrow
    go_wp2
    go_roundw
    case rel => exact ⟨j + 1, by omega, by go_num, HO.out, X.out⟩
    case measure => simp [intOf]; omega
   ·have HI := zNR (zGH hs)
    have hb : (leftOf G.rules j == s) = false := by simpa using hs
    clear hs
    go_wp2_with (at_builtin; fail)
    go_roundw
    case rel => exact ⟨j + 1, by omega, by go_num, by rw [HI.out]; exact HO.out.alloc _, X.out.alloc _⟩
    case measure => simp [intOf]; omega
  ·have hE : j = G.rules.length := by omega
   subst hE
   have HR := zNR (Sep.Reads.of_row HO.out)
   have HN := zNR (zEF (W := w) HO.out (by omega))
   go_wp2
   go_ret
   exact ⟨_, _, rfl, HR.out, HN.out, X.out.below⟩
