/- A part of the proof. -/
import Derived.RangeFuncBox
import Derived.Test.YtbcgmiocolpjoaaGreatPk20
set_option maxHeartbeats 2000000
set_option maxRecDepth 100000
set_option linter.unusedVariables false
namespace Go.Proofs.YtbcgmiocolpjoaaGreat
namespace Au
open Go.RowKit Go.Maps Go.WideShapes Go.ChangeShapes Go.Joins Go.Deep
open Gr (cell_later)
open Im
abbrev Sta := List Itm × List (Int × Int)
def zFy (a : Option Addr) (i : Nat) (s : Sta) (w : World) : Prop :=
 ∃ b o a1 c1 a2 c2, a = some ⟨b, o, none⟩ /\ w.cell? ⟨b, o + i * 2, none⟩ = some (.slice a1 s.1.length c1) /\ w.cell? ⟨b, o + i * 2 + 1, none⟩ = some (.slice a2 s.2.length c2) /\ ItsA a1 s.1 w /\ ItsA a2 s.2 w /\ s.1.length <= c1 /\ s.2.length <= c2
def StaA (a : Option Addr) (X : List Sta) (w : World) : Prop := ∀ i (h : i < X.length), zFy a i X[i] w
theorem zFy.went {a : Option Addr} {i : Nat} {s : Sta} {w w' : World} (h : zFy a i s w) (hb : Below w.heap.size w w') : zFy a i s w' := by
 obtain ⟨b, o, a1, c1, a2, c2, e, h1, h2, h3, h4, h5, h6⟩ := h
 exact ⟨b, o, a1, c1, a2, c2, e, cell_later hb h1, cell_later hb h2, h3.went hb, h4.went hb, h5, h6⟩
theorem StaA.went {a : Option Addr} {X : List Sta} {w w' : World} (h : StaA a X w) (hb : Below w.heap.size w w') : StaA a X w' := fun i hi => (h i hi).went hb
theorem StaA.nil (a : Option Addr) (w : World) : StaA a [] w := fun i hi => absurd hi (Nat.not_lt_zero i)
end Au
namespace Au
open Go.RowKit Go.Maps
open Im
structure Small (X : List Sta) : Prop where
 len : X.length <= 1000000
 items : ∀ s ∈ X, s.1.length <= 1000000
 trans : ∀ s ∈ X, s.2.length <= 1000000
def inB (X : List Sta) (i : Int) : Bool := decide (0 <= i /\ i < (X.length : Int))
def zKh (X : List Sta) (i : Nat) : List (Int × Int) := (X.getD i ([], [])).2
def zCy (X : List Sta) (i s : Int) : Int := if inB X i then leads (zKh X i.toNat) s else -1
theorem zGB {X : List Sta} {i : Nat} (h : i < X.length) : inB X (i : Int) = true := decide_eq_true ⟨by omega, by omega⟩
theorem zGA {X : List Sta} {i : Int} : inB X i = true ↔ 0 <= i /\ i < (X.length : Int) := decide_eq_true_iff
theorem zEg {X : List Sta} {i : Nat} (h : i < X.length) (s : Int) : zCy X (i : Int) s = leads X[i].2 s := by
 unfold zCy zKh
 rw [zGB h, if_pos rfl, Int.toNat_natCast, List.getD_eq_getElem?_getD, List.getElem?_eq_getElem h]
 rfl
theorem zCH {X : List Sta} {i : Int} (h : inB X i = false) (s : Int) : zCy X i s = -1 := by
 unfold zCy
 rw [h, if_neg Bool.false_ne_true]
def zHb (tr : List (Int × Int)) (s : Int) (k : Nat) : Prop := ∀ j (h : j < tr.length), j < k -> tr[j].1 ≠ s
theorem zIA (tr : List (Int × Int)) (s : Int) : zHb tr s 0 := fun _ _ h => absurd h (by omega)
theorem zH9 {tr : List (Int × Int)} {s : Int} {k : Nat} (h : zHb tr s k) (hk : k < tr.length) (e : tr[k].1 ≠ s) : zHb tr s (k + 1) := fun j hj hl => by
 by_cases he : j = k
 ·subst he
  exact e
 ·exact h j hj (by omega)
theorem zFY {tr : List (Int × Int)} {s : Int} {k : Nat} (h : zHb tr s k) (hk : k < tr.length) (e : tr[k].1 = s) : leads tr s = tr[k].2 := by
 unfold leads
 have : tr.find? (fun x => decide (x.1 = s)) = some tr[k] := by
  rw [List.find?_eq_some_iff_getElem]
  exact ⟨decide_eq_true e, k, hk, rfl, fun j hj => by
   have := h j (by omega) hj
   simpa using this⟩
 rw [this]
 rfl
theorem zJZ {tr : List (Int × Int)} {s : Int} {k : Nat} (h : zHb tr s k) (hk : ¬ k < tr.length) : leads tr s = -1 := by
 unfold leads
 have : tr.find? (fun x => decide (x.1 = s)) = none := by
  rw [List.find?_eq_none]
  intro x hx
  obtain ⟨j, hj, rfl⟩ := List.mem_iff_getElem.1 hx
  have := h j hj (by omega)
  simpa using this
 rw [this]
 rfl
def zBM (X : List Sta) (i : Int) : List Int -> Int
 | [] => if inB X i then i else -1
 | s :: way => if inB X i then zBM X (zCy X i s) way else -1
theorem zGC (X : List Sta) : inB X (-1) = false := decide_eq_false (fun h => by omega)
theorem zBN {X : List Sta} {i : Int} (h : inB X i = false) (way : List Int) : zBM X i way = -1 := by
 cases way with
 | nil => simp [zBM, h]
 | cons s way => simp [zBM, h]
theorem zCZ {X : List Sta} {i : Int} (h : inB X i = true) : zBM X i [] = i := by simp [zBM, h]
theorem zBB (X : List Sta) (i s : Int) (way : List Int) : zBM X i (s :: way) = zBM X (zCy X i s) way := by
 cases h : inB X i with
 | true => simp [zBM, h]
 | false => rw [zBN h, zCH h, zBN (zGC X)]
theorem zIW {X : List Sta} {L : List Int} {j : Nat} (h : j < L.length) (v : Int) : zBM X v (L.drop j) = zBM X (zCy X v L[j]) (L.drop (j + 1)) := by
 rw [List.drop_eq_getElem_cons h, zBB]
theorem zKl {X : List Sta} {ts : List (List (Int × Int))} (e : ∀ i (h : i < X.length), X[i].2 = ts.getD i []) : ∀ (way : List Int) (i : Int), zCz X.length ts i way = zBM X i way
 | [], i => by
  unfold zCz zBM inB
  by_cases hi : 0 <= i /\ i < (X.length : Int)
  ·rw [if_pos hi, decide_eq_true hi, if_pos rfl]
  ·rw [if_neg hi, decide_eq_false hi, if_neg Bool.false_ne_true]
 | s :: way, i => by
  have hw : zCz X.length ts i (s :: way) = if 0 <= i /\ i < (X.length : Int) then zCz X.length ts (zI7 X.length ts i s) way else -1 := rfl
  rw [hw, zBB]
  by_cases hi : 0 <= i /\ i < (X.length : Int)
  ·rw [if_pos hi, zKl e way]
   obtain ⟨n, rfl⟩ := Int.eq_ofNat_of_zero_le hi.1
   have hn : n < X.length := by omega
   congr 1
   rw [zEg hn, e n hn]
   unfold zI7
   rw [if_pos hi, Int.toNat_natCast]
  ·rw [if_neg hi, zCH (decide_eq_false hi), zBN (zGC X)]
end Au
namespace Au
open Go.RowKit Go.Maps
open Im
def LOk (Y : List Itm) (u v : Value) (w : World) : Prop := ∃ a c, u = .slice a Y.length c /\ Y.length <= c /\ ItsA a Y w /\ (Y ≠ [] -> ∀ b o, a = some ⟨b, o, none⟩ -> v.ownBlock ≠ some b)
theorem zCK {a : Option Addr} {Y : List Itm} {w : World} (h : ItsA a Y w) (hn : Y ≠ []) {b o : Nat} (e : a = some ⟨b, o, none⟩) : b < w.heap.size := by
 cases Y with
 | nil => exact absurd rfl hn
 | cons y Y =>
  obtain ⟨b', o', e', hc⟩ := h 0 (by rw [zAO]; simp)
  rw [e] at e'
  injection e' with e'
  injection e' with e1 e2
  subst e1
  exact World.block_lt_of_cell? _ _ hc
theorem LOk.to {Y : List Itm} {u v v' : Value} {w w' : World} (h : LOk Y u v w) (hb : ∀ b, b < w.heap.size -> v.ownBlock ≠ some b -> w'.heap[b]? = w.heap[b]?) (hv : ∀ b, b < w.heap.size -> v.ownBlock ≠ some b -> v'.ownBlock ≠ some b) : LOk Y u v' w' := by
 obtain ⟨a, c, h1, h2, h3, h4⟩ := h
 by_cases hn : Y = []
 ·subst hn
  exact ⟨a, c, h1, h2, .nil _ _, fun q => absurd rfl q⟩
 ·exact ⟨a, c, h1, h2, h3.keep fun b o e => hb b (zCK h3 hn e) (h4 hn b o e), fun _ b o e => hv b (zCK h3 hn e) (h4 hn b o e)⟩
theorem LOk.went {Y : List Itm} {u v : Value} {w w' : World} (h : LOk Y u v w) (hb : Below w.heap.size w w') : LOk Y u v w' := h.to (fun b hl _ => hb.block b hl) fun _ _ q => q
theorem LOk.grown {Y : List Itm} {u v v' : Value} {w w' : World} (h : LOk Y u v w) (hg : w.grownBy w' v.ownBlock) (hv : v'.ownBlock = v.ownBlock \/ ∃ n, w.heap.size <= n /\ v'.ownBlock = some n) : LOk Y u v' w' :=
 h.to (fun b hl q => hg.block b hl fun e => q e.symm) fun b hl q e => by
  rcases hv with h1 | ⟨n, hn, h1⟩
  ·exact q (h1.symm.trans e)
  ·rw [h1] at e
   injection e with e
   omega
theorem LOk.set {Y : List Itm} {u v : Value} {w : World} (h : LOk Y u v w) {p : Addr} (hp : v.ownBlock = some p.block) (x : Value) : LOk Y u v (w.setCell p x) :=
 h.to (fun b hl q => Below.heap_setCell _ _ _ _ fun e => q (by rw [hp]; exact congrArg some e.symm)) fun _ _ q => q
theorem LOk.nil (v : Value) (w : World) : LOk [] (.slice none 0 0) v w := ⟨none, 0, rfl, Nat.le_refl _, .nil _ _, fun q => absurd rfl q⟩
abbrev StC := Sta × (Value × Value)
def sc (x : StC) : List Value := [x.2.1, x.2.2]
theorem zCX (x : StC) : (sc x).length = 2 := rfl
structure StV (T : TypeId) (base : Nat) (L : List StC) (v : Value) (w : World) : Prop where
 row : w.ownsRow base T 2 v L.length (L.flatMap sc)
 lists : ∀ x ∈ L, LOk x.1.1 x.2.1 v w /\ LOk x.1.2 x.2.2 v w
theorem StV.went {T : TypeId} {base : Nat} {L : List StC} {v : Value} {w w' : World} (h : StV T base L v w) (hb : Below w.heap.size w w') : StV T base L v w' :=
 ⟨Sep.zAH h.row fun g hg => hb.block g (h.row.lt g hg).2, fun x hx => ⟨(h.lists x hx).1.went hb, (h.lists x hx).2.went hb⟩⟩
theorem StV.nil (T : TypeId) (base : Nat) (w : World) : StV T base [] (.slice none 0 0) w := ⟨World.ownsRow_nil _ _ _ _, fun x hx => by cases hx⟩
theorem StV.len {T : TypeId} {base : Nat} {L : List StC} {v : Value} {w : World} (h : StV T base L v w) : ∃ a c, v = .slice a L.length c /\ L.length <= c := by
 rcases h.row.2 with ⟨rfl, h0⟩ | ⟨g, cap, cur, rfl, _, _, h5, _⟩
 ·exact ⟨none, 0, by rw [h0], by rw [h0]; exact Nat.le_refl _⟩
 ·exact ⟨_, cap, rfl, h5⟩
theorem StV.at {T : TypeId} {base : Nat} {L : List StC} {a : Option Addr} {c : Nat} {w : World} (h : StV T base L (.slice a L.length c) w) : StaA a (L.map Prod.fst) w := by
 intro i hi
 have hi' : i < L.length := by simpa using hi
 rcases h.row.2 with ⟨_, h0⟩ | ⟨g, cap, cur, he, _⟩
 ·omega
 ·simp only [Value.slice.injEq] at he
  obtain ⟨rfl, _, _⟩ := he
  have hc := World.ownsRow.cells h.row (g := g) rfl
  obtain ⟨⟨a1, c1, u1, l1, i1, _⟩, ⟨a2, c2, u2, l2, i2, _⟩⟩ := h.lists _ (List.getElem_mem hi')
  have t0 := hc (i * 2 + 0) _ (Rw.zET sc zCX L i hi' 0 (by omega))
  have t1 := hc (i * 2 + 1) _ (Rw.zET sc zCX L i hi' 1 (by omega))
  rw [WideShapes.add_plain] at t0 t1
  rw [List.getElem_map]
  refine ⟨g, 0, a1, c1, a2, c2, rfl, ?_, ?_, i1, i2, l1, l2⟩
  ·rw [← u1]
   simpa using t0
  ·rw [← u2]
   simpa using t1
theorem StV.snoc {T : TypeId} {base : Nat} {L : List StC} {v v' : Value} {w w' : World} (h : StV T base L v w) (x : StC) (hx : LOk x.1.1 x.2.1 v w /\ LOk x.1.2 x.2.2 v w) (hr : w'.ownsRow base T 2 v' (L.length + 1) (L.flatMap sc ++ sc x)) (hg : w.grownBy w' v.ownBlock) (hv : v'.ownBlock = v.ownBlock \/ ∃ n, w.heap.size <= n /\ v'.ownBlock = some n) : StV T base (L ++ [x]) v' w' := by
 refine ⟨?_, fun y hy => ?_⟩
 ·rw [List.length_append, List.flatMap_append]
  simpa using hr
 ·have key : LOk y.1.1 y.2.1 v w /\ LOk y.1.2 y.2.2 v w := by
   rcases List.mem_append.1 hy with q | q
   ·exact h.lists y q
   ·rw [List.mem_singleton] at q
    rw [q]
    exact hx
  exact ⟨key.1.grown hg hv, key.2.grown hg hv⟩
theorem zLC {L : List StC} {i : Nat} (hi : i < L.length) (u : Value) (t : List (Int × Int)) : (L.flatMap sc).set (i * 2 + 1) u = (L.set i ((L[i].1.1, t), (L[i].2.1, u))).flatMap sc := by
 induction L generalizing i with
 | nil => simp at hi
 | cons x L ih =>
  cases i with
  | zero => simp [sc]
  | succ i =>
   have hi' : i < L.length := by simpa using hi
   rw [List.flatMap_cons, List.set_cons_succ, List.flatMap_cons, List.getElem_cons_succ, ← ih hi']
   rw [show (i + 1) * 2 + 1 = (sc x).length + (i * 2 + 1) by rw [zCX]; omega, List.set_append_right _ _ (by omega)]
   simp
theorem StV.put {T : TypeId} {base : Nat} {L : List StC} {g c : Nat} {w : World} (h : StV T base L (.slice (some ⟨g, 0, none⟩) L.length c) w) {i : Nat} (hi : i < L.length) {u : Value} {t : List (Int × Int)} (ht : LOk t u (.slice (some ⟨g, 0, none⟩) L.length c) w) :
  StV T base (L.set i ((L[i].1.1, t), (L[i].2.1, u))) (.slice (some ⟨g, 0, none⟩) L.length c) (w.setCell ⟨g, i * 2 + 1, none⟩ u) := by
 refine ⟨?_, fun y hy => ?_⟩
 ·rw [List.length_set, ← zLC hi]
  exact (World.ownsRow.stored h.row _ _).1
 ·have key : LOk y.1.1 y.2.1 (.slice (some ⟨g, 0, none⟩) L.length c) w /\ LOk y.1.2 y.2.2 (.slice (some ⟨g, 0, none⟩) L.length c) w := by
   rcases List.mem_or_eq_of_mem_set hy with q | q
   ·exact h.lists y q
   ·rw [q]
    exact ⟨(h.lists _ (List.getElem_mem hi)).1, ht⟩
  exact ⟨key.1.set (p := ⟨g, i * 2 + 1, none⟩) rfl u, key.2.set (p := ⟨g, i * 2 + 1, none⟩) rfl u⟩
end Au
namespace Au
open Go.RowKit Go.Maps
open Gr (cell_later)
open Im
def upd {α : Type} (f : Nat -> α) (s : Nat) (x : α) : Nat -> α := fun r => if r = s then x else f r
theorem upd_same {α : Type} (f : Nat -> α) (s : Nat) (x : α) : upd f s x s = x := if_pos rfl
theorem zAE {α : Type} {f : Nat -> α} {s r : Nat} {x : α} (h : r ≠ s) : upd f s x r = f r := if_neg h
structure Fam (T : TypeId) (b m n : Nat) (F : Nat -> List Itm) (D : Nat -> Value) (w : World) : Prop where
 cell : ∀ s, s < n -> w.cell? ⟨b, s, none⟩ = some (D s)
 free : ∀ s, w.frozen? ⟨b, s, none⟩ = false
 row : ∀ s, s < n -> ItsV T m (F s) (D s) w
 off : ∀ s r, s < n -> r < n -> s ≠ r -> ∀ g, (D s).ownBlock = some g -> (D r).ownBlock ≠ some g
 bm : b < m
 le : m <= w.heap.size
theorem Fam.went {T : TypeId} {b m n : Nat} {F : Nat -> List Itm} {D : Nat -> Value} {w w' : World} (h : Fam T b m n F D w) (hb : Below w.heap.size w w') : Fam T b m n F D w' :=
 have hl : b < w.heap.size := Nat.lt_of_lt_of_le h.bm h.le
 ⟨fun s hs => cell_later hb (h.cell s hs), fun s => (World.frozen?_of_block (a := ⟨b, s, none⟩) (hb.block b hl)).trans (h.free s), fun s hs => (h.row s hs).went hb, h.off, h.bm, Nat.le_trans h.le hb.size⟩
theorem Fam.congr {T : TypeId} {b m n : Nat} {F F' : Nat -> List Itm} {D : Nat -> Value} {w : World} (h : Fam T b m n F D w) (e : ∀ s, s < n -> F s = F' s) : Fam T b m n F' D w :=
 ⟨h.cell, h.free, fun s hs => by rw [← e s hs]; exact h.row s hs, h.off, h.bm, h.le⟩
theorem Fam.put {T : TypeId} {b m n : Nat} {F : Nat -> List Itm} {D : Nat -> Value} {w w' : World} (h : Fam T b m n F D w) {s : Nat} (hs : s < n) {y : Itm} {v' : Value} (hr : ItsV T m (F s ++ [y]) v' w') (hg : w.grownBy w' (D s).ownBlock) (hv : v'.ownBlock = (D s).ownBlock \/ v'.ownBlock = some w.heap.size) :
  Fam T b m n (upd F s (F s ++ [y])) (upd D s v') (w'.setCell ⟨b, s, none⟩ v') := by
 have hl : b < w.heap.size := Nat.lt_of_lt_of_le h.bm h.le
 have own : ∀ r, r < n -> ∀ g, (D r).ownBlock = some g -> m <= g /\ g < w.heap.size := fun r hr g hg => World.ownsRow.lt (h.row r hr) g hg
 have eb : w'.heap[b]? = w.heap[b]? := hg.block b hl fun e => by
  have := (own s hs b e.symm).1
  have := h.bm
  omega
 have own' : ∀ g, v'.ownBlock = some g -> m <= g := fun g hg => (World.ownsRow.lt hr g hg).1
 have other : ∀ g, g ≠ b -> (w'.setCell ⟨b, s, none⟩ v').heap[g]? = w'.heap[g]? := fun g hg => Below.heap_setCell _ _ _ _ hg
 refine ⟨fun r hr' => ?_, fun r => ?_, fun r hr' => ?_, fun r z hr' hq hne g e1 e2 => ?_, h.bm, ?_⟩
 ·by_cases e : r = s
  ·subst e
   rw [upd_same]
   exact World.cell?_setCell_same _ _ _ ((World.cell?_of_block (a := ⟨b, r, none⟩) eb).trans (h.cell r hr'))
  ·rw [zAE e, World.cell?_setCell_other _ _ _ _ (fun q => e (congrArg Addr.off q).symm)]
   exact (World.cell?_of_block (a := ⟨b, r, none⟩) eb).trans (h.cell r hr')
 ·rw [World.frozen?_setCell]
  exact (World.frozen?_of_block (a := ⟨b, r, none⟩) eb).trans (h.free r)
 ·by_cases e : r = s
  ·subst e
   rw [upd_same, upd_same]
   exact hr.keep fun g e => other g (by have := own' g e; have := h.bm; omega)
  ·rw [zAE e, zAE e]
   refine (h.row r hr').keep fun g hg' => ?_
   have h1 := own r hr' g hg'
   rw [other g (by have := h.bm; omega)]
   exact hg.block g h1.2 fun q => h.off r s hr' hs e g hg' q.symm
 ·by_cases er : r = s
  ·subst er
   rw [upd_same] at e1
   rw [zAE (fun q => hne q.symm)] at e2
   rcases hv with k | k
   ·exact h.off r z hr' hq hne g (k ▸ e1) e2
   ·have := (own _ hq g e2).2
    rw [k] at e1
    injection e1 with e1
    omega
  ·rw [zAE er] at e1
   by_cases eq : z = s
   ·subst eq
    rw [upd_same] at e2
    rcases hv with q' | q'
    ·exact h.off r z hr' hq hne g e1 (q' ▸ e2)
    ·have := (own _ hr' g e1).2
     rw [q'] at e2
     injection e2 with e2
     omega
   ·rw [zAE eq] at e2
    exact h.off r z hr' hq hne g e1 e2
 ·rw [show (w'.setCell ⟨b, s, none⟩ v').heap.size = w'.heap.size by simp [World.setCell]]
  exact Nat.le_trans h.le hg.size
theorem Fam.fr {T : TypeId} {b m n : Nat} {F : Nat -> List Itm} {D : Nat -> Value} {w w' : World} {v' : Value} (h : Fam T b m n F D w) {s : Nat} (hs : s < n) (hg : w.grownBy w' (D s).ownBlock) {w0 : World} (f : Sep.Fr (· = b) w0 w) (hm : w0.heap.size <= m) : Sep.Fr (· = b) w0 (w'.setCell ⟨b, s, none⟩ v') :=
 (f.grown hg fun k hk => .inr (Nat.le_trans hm (World.ownsRow.lt (h.row s hs) k hk).1)).setCell _ rfl _
end Au
namespace Im
open Go.RowKit Go.Maps
attribute [local go_sem] Oper.semAt_some
theorem zDD : (Tryz.prog.info? 108).map (fun i => (i.zero, i.size, i.bytes)) = some (some (.agg #[.int .i64 0, .int .i64 0]), 2, 16) := by kernel_rfl
abbrev seqv (Bm : Nat) : Value := .func (.func 129) #[] #[.pointer (some ⟨Bm, 0, none⟩)]
def zMi (X : Itm -> Prop) (w : World) (e : Ending) (w' : World) : Prop := ∃ (v : Value) (ss : List Itm), e = .returned v /\ All X ss /\ ItsV 108 w.heap.size ss v w' /\ Below w.heap.size w w'
def AxI (w : World) (Bm : Nat) (x : Itm) (a' : Act) (W : World) : Prop := ∃ Bx, w.heap.size <= Bx /\ W.heap[Bx]? = some (.cells #[.int .i64 x.1, .int .i64 x.2] 108 (0, 0)) /\
 a' = { tmps := #[.slice none 0 0, seqv Bm, .pointer (some ⟨w.heap.size, 0, none⟩), undef, .slice none 0 0, .pointer (some ⟨Bx, 0, none⟩), seqv Bm, iv x, undef, undef, undef, undef, undef], defers := [] }
theorem zMm (w : World) (Bm : Nat) (x : Itm) (a' : Act) (B : Nat) : OwnFrom B (fun (_ : Unit) W => AxI w Bm x a' W) := by
 rintro s W W' row ⟨Bx, h1, h2, h3⟩ hg hr
 refine ⟨Bx, h1, (hg.block Bx (Array.getElem?_eq_some_iff.1 h2).1 fun e => ?_).trans h2, h3⟩
 obtain ⟨_, o, ho, hc⟩ := hr Bx e.symm
 rw [h2] at ho
 cases ho
 cases hc
theorem appendSeq_in (F : Fence) (n : Nat) (h68 : F.fn 131) (h53 : F.fn 129) (hro : F.round = none) (hn : 3 <= n) (Bm b nn : Nat) (X : Itm -> Prop) (w : World) (hBm : Bm < w.heap.size) (hm : w.cell? ⟨Bm, 0, none⟩ = some (.map (some b))) (hs : MS b nn X w) (hnn : nn <= 1000000) :
  CallsIn F n Tryz.prog 131 #[.slice none 0 0, seqv Bm] w (zMi X w) := by
 have h1 : 1 <= n := by omega
 obtain ⟨i0, hi, hz0, hz1, hz2⟩ := info_parts zDD
 refine callsIn_of_wp_marks Tryz.func131 rfl h68 ?_ hro
 simp only [Tryz.ntmps131, List.size_toArray, List.length_cons, List.length_nil, Nat.reduceAdd, Nat.reduceSub, Array.replicate_succ, Array.replicate_zero, List.push_toArray, List.append_toArray, List.nil_append, List.cons_append]
 gi_wp2
 have bO := Boxed.new w 50 (.slice none 0 0)
 have hb0 : Below w.heap.size w (w.alloc (.cells #[.slice none 0 0] 50)) := Gr.boxed _ _
 have hsz : (w.alloc (.cells #[.slice none 0 0] 50)).heap.size = w.heap.size + 1 := by simp
 have hst := keys_stops F (n - 1) h53 hro (by omega) Bm b nn X _ (by rw [hsz]; omega) (Gr.cell_later hb0 hm) (hs.went hb0)
 clear hm hs
 refine wpIn_rangeFunc_ownH hro h1 (gf := 129) (lb := #[.pointer (some ⟨Bm, 0, none⟩)]) rfl h53 (enters_of Tryz.func129 (by kernel_rfl) rfl)
  hst walksK_t walksK_b (Below.refl _ _) (fun _ => rfl)
  (fun (pre : List Itm) W => (∃ v, Boxed W w.heap.size 50 v /\ W.ownsRow w.heap.size 108 2 v pre.length (pre.flatMap ic) /\ True) /\ Below w.heap.size w W)
  (fun _ _ _ => False)
  (OwnFrom.and (Own.from (holdsRow_own w.heap.size w.heap.size 50 108 2 (fun (pre : List Itm) => pre.length) (fun (pre : List Itm) => pre.flatMap ic) (fun _ _ => True)) _) (ownFrom_below (Nat.le_refl _) (by rw [hsz]; omega)))
  (fun _ _ _ _ _ hs _ _ => hs)
  ⟨⟨_, bO, World.ownsRow_nil _ _ _ _, trivial⟩, hb0⟩
  (AxI w Bm) (fun x a' => zMm w Bm x a' _) ?assign ?body ?done ?stop
 case assign =>
  rintro l pre x W K ⟨⟨v, hv, hrow, _⟩, hB⟩ hK
  have hx : iv x = .agg #[.int .i64 x.1, .int .i64 x.2] := rfl
  rw [hx] at *
  gi_wp2
  exact hK _ _ ((KeepsOthers.alloc _ _).from _) (KeepsWalks.alloc _ _) ⟨⟨v, hv.alloc _, hrow.alloc _, trivial⟩, hB.alloc hB.size _⟩ ⟨W.heap.size, hB.size, World.alloc_heap_new _ _, rfl⟩
 case body =>
  rintro l pre x a' W hl ⟨r, hr⟩ ⟨⟨v, hv, hrow, _⟩, hB⟩ ⟨Bx, hBx, bX, rfl⟩ hlt
  have hc := hv.cell
  have c0 : W.cell? ⟨Bx, 0, none⟩ = some (.int .i64 x.1) := by simp [World.cell?, bX]
  have c1 : W.cell? ⟨Bx, 1, none⟩ = some (.int .i64 x.2) := by simp [World.cell?, bX]
  have hx : iv x = .agg #[.int .i64 x.1, .int .i64 x.2] := rfl
  rw [hx]
  clear hr bX hx
  gi_wp2_with (gi_at_builtin; refine wpListIn_append_own _ rfl _ _ 50 rfl w.heap.size 108 i0 (.agg #[.int .i64 0, .int .i64 0]) 2 16 Tryz.underlying50 hi hz0 hz1 hz2 rfl (by decide) _ _ _ rfl (hrow.alloc _) ⟨W.heap.size, 0, none⟩ 1 1 (ic x) rfl rfl ?c1 ?c2 (by unfold maxLen; omega) (by omega) (by have := hB.size; simp; omega) ?_)
  case c1 =>
   intro i u hu
   match i, hu with
   | 0, hu =>
    simp [ic] at hu
    subst hu
    simp [Addr.add]
   | 1, hu =>
    simp [ic] at hu
    subst hu
    simp [Addr.add]
   | i + 2, hu => simp [ic] at hu
  case c2 =>
   intro u hu
   simp only [ic, List.mem_cons, List.not_mem_nil, or_false] at hu
   rcases hu with rfl | rfl <;> rfl
  intro v' w1 hown' hgrow _
  obtain ⟨g', cap', rfl⟩ := ownsRow_succ hown'
  obtain ⟨hv1, hv2, hr2, hk2, hb2⟩ := hv.appended (by decide) hrow hB.size (Nat.le_refl _) hown' hgrow
  have hc1 := hv1.cell
  have hf1 := hv1.frozen
  gi_wp2
  exact ⟨hk2.from _, hk2.walks, ⟨_, hv2, by simpa [ic] using hr2, trivial⟩, hB.trans hb2⟩
 case done =>
  rintro D ys W hD hS ⟨⟨v, hv, hrow, _⟩, hB⟩ hK
  have hc := hv.cell
  gi_wp2
  refine ⟨by simp, .inl ⟨_, _, rfl, run_takeDeferred hK, ?_⟩⟩
  exact ⟨_, results_tmp rfl _ _ _, v, ys, rfl, hS, ownsRow_putObj hrow _ hK rfl, hB.trans (belowK_b (w := w) (Nat.le_refl _) W D _ _ (by rw [hsz] at hD; omega) hK rfl rfl)⟩
 case stop =>
  rintro D c pre W _ _ h _
  exact h.elim
