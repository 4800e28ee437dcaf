/- A part of the proof. -/
import Derived.Test.YtnfbjlainpenaaaGreatPk37
set_option linter.unusedVariables false
namespace Go.Proofs.YtnfbjlainpenaaaGreat
namespace Au
open Go.RowKit Go.Maps
open Gr (Gram Sh Bx)
open Im
def mkSt (ks : List (List Itm)) (ts : List (List (Int × Int))) : List Sta := (List.range ks.length).map fun j => (zAE ks j, ts.getD j [])
theorem zAI (ks : List (List Itm)) (ts : List (List (Int × Int))) : (mkSt ks ts).length = ks.length := by simp [mkSt]
theorem zAs {ks : List (List Itm)} {ts : List (List (Int × Int))} {i : Nat} (h : i < (mkSt ks ts).length) (h' : i < ks.length) : (mkSt ks ts)[i] = (ks[i], ts.getD i []) := by
 simp only [mkSt, List.getElem_map, List.getElem_range, zAV h']
theorem zIh {ks : List (List Itm)} {ts : List (List (Int × Int))} (h : ts.length <= ks.length) (K : List Itm) : mkSt (ks ++ [K]) ts = mkSt ks ts ++ [(K, [])] := by
 refine List.ext_getElem (by simp [zAI]) fun i h1 h2 => ?_
 rw [zAI, List.length_append, List.length_singleton] at h1
 rw [zAs _ (by simp; omega)]
 by_cases hi : i < ks.length
 ·have hi' : i < (mkSt ks ts).length := by rw [zAI]; exact hi
  rw [List.getElem_append_left hi, List.getElem_append_left hi', zAs _ hi]
 ·obtain rfl : i = ks.length := by omega
  have hn : (mkSt ks ts).length <= ks.length := by rw [zAI]; exact Nat.le_refl _
  rw [List.getElem_append_right (Nat.le_refl _), List.getElem_append_right hn]
  simp only [zAI, Nat.sub_self, List.getElem_cons_zero]
  rw [List.getD_eq_getElem?_getD, List.getElem?_eq_none h]
  rfl
theorem zKL {ks : List (List Itm)} {ts : List (List (Int × Int))} (h : ts.length < ks.length) (tr : List (Int × Int)) : mkSt ks (ts ++ [tr]) = (mkSt ks ts).set ts.length (ks[ts.length], tr) := by
 refine List.ext_getElem (by simp [zAI]) fun i h1 h2 => ?_
 rw [zAI] at h1
 rw [zAs _ h1, List.getElem_set]
 by_cases hi : ts.length = i
 ·subst hi
  rw [if_pos rfl, List.getD_eq_getElem?_getD, List.getElem?_append_right (Nat.le_refl _)]
  simp
 ·rw [if_neg hi, zAs _ h1, List.getD_eq_getElem?_getD, List.getD_eq_getElem?_getD]
  rcases Nat.lt_trichotomy i ts.length with q | q | q
  ·rw [List.getElem?_append_left q]
  ·exact absurd q.symm hi
  ·rw [List.getElem?_eq_none (by simp; omega), List.getElem?_eq_none (by omega)]
theorem zIg {q : Whole} (h : q.2.length = q.1.length) : mkSt q.1 q.2 = states q := by
 refine List.ext_getElem (by rw [zAI, zAp h]) fun i h1 h2 => ?_
 rw [zAI] at h1
 have e := zBI h h1
 rw [List.getElem?_eq_getElem h2, Option.some.injEq] at e
 rw [e, zAs _ h1, zAV h1]
theorem zLd {ks : List (List Itm)} {ts : List (List (Int × Int))} {K : List Itm} (hn : ks.Nodup) (h : K ∈ ks) : zFE (mkSt ks ts) K = (ks.idxOf K : Int) := by
 have hl := List.idxOf_lt_length_of_mem h
 refine zEa (k := ks.idxOf K) (fun j hj hlt e => ?_) (by rw [zAI]; exact hl) ?_
 ·rw [zAI] at hj
  rw [zAs _ hj] at e
  have e' : ks[j] = K := e
  have := hn.idxOf_getElem j hj
  rw [e'] at this
  omega
 ·rw [zAs _ hl]
  exact List.getElem_idxOf hl
theorem zLe {ks : List (List Itm)} {ts : List (List (Int × Int))} {K : List Itm} (h : K ∉ ks) : zFE (mkSt ks ts) K = -1 := by
 refine zEZ (k := (mkSt ks ts).length) (fun j hj _ e => ?_) (Nat.lt_irrefl _)
 rw [zAI] at hj
 rw [zAs _ hj] at e
 exact h (e ▸ List.getElem_mem hj)
theorem zKm {ks : List (List Itm)} {ts : List (List (Int × Int))} (h : ks.length <= 1000000) (h1 : ∀ k ∈ ks, k.length <= 1000000) (h2 : ∀ t ∈ ts, t.length <= 1000000) : Small (mkSt ks ts) := by
 refine ⟨by rw [zAI]; exact h, fun s hs => ?_, fun s hs => ?_⟩
 ·obtain ⟨i, hi, rfl⟩ := List.mem_iff_getElem.1 hs
  rw [zAs hi (by rw [zAI] at hi; exact hi)]
  exact h1 _ (List.getElem_mem _)
 ·obtain ⟨i, hi, rfl⟩ := List.mem_iff_getElem.1 hs
  rw [zAs hi (by rw [zAI] at hi; exact hi)]
  dsimp only
  rw [List.getD_eq_getElem?_getD]
  cases e : ts[i]? with
  | none => simp
  | some t => exact h2 t (List.mem_of_getElem? e)
def L2 (Y : List Itm) (u v5 v8 : Value) (w : World) : Prop := ∃ a c, u = .slice a Y.length c /\ Y.length <= c /\ ItsA a Y w /\ (Y ≠ [] -> ∀ b o, a = some ⟨b, o, none⟩ -> v5.ownBlock ≠ some b /\ v8.ownBlock ≠ some b)
theorem L2.one {Y : List Itm} {u v5 v8 : Value} {w : World} (h : L2 Y u v5 v8 w) : LOk Y u v5 w := by
 obtain ⟨a, c, h1, h2, h3, h4⟩ := h
 exact ⟨a, c, h1, h2, h3, fun hn b o e => (h4 hn b o e).1⟩
theorem L2.to {Y : List Itm} {u v5 v8 v5' v8' : Value} {w w' : World} (h : L2 Y u v5 v8 w) (hb : ∀ b, b < w.heap.size -> v5.ownBlock ≠ some b -> v8.ownBlock ≠ some b -> w'.heap[b]? = w.heap[b]?)
  (hv : ∀ b, b < w.heap.size -> v5.ownBlock ≠ some b -> v8.ownBlock ≠ some b -> v5'.ownBlock ≠ some b /\ v8'.ownBlock ≠ some b) : L2 Y u v5' v8' w' := by
 obtain ⟨a, c, h1, h2, h3, h4⟩ := h
 by_cases hn : Y = []
 ·subst hn
  exact ⟨a, c, h1, h2, .nil _ _, fun q => absurd rfl q⟩
 ·exact ⟨a, c, h1, h2, h3.keep fun b o e => hb b (zB2 h3 hn e) (h4 hn b o e).1 (h4 hn b o e).2, fun _ b o e => hv b (zB2 h3 hn e) (h4 hn b o e).1 (h4 hn b o e).2⟩
theorem L2.went {Y : List Itm} {u v5 v8 : Value} {w w' : World} (h : L2 Y u v5 v8 w) (hb : Below w.heap.size w w') : L2 Y u v5 v8 w' := h.to (fun b hl _ _ => hb.block b hl) fun _ _ p q => ⟨p, q⟩
theorem zFV {v v' : Value} {m : Nat} (hv : v'.ownBlock = v.ownBlock \/ v'.ownBlock = some m) {b : Nat} (hb : b < m) (h : v.ownBlock ≠ some b) : v'.ownBlock ≠ some b := fun e => by
 rcases hv with q | q
 ·exact h (q.symm.trans e)
 ·rw [q] at e
  injection e with e
  omega
theorem L2.grow5 {Y : List Itm} {u v5 v8 v5' : Value} {w w' : World} (h : L2 Y u v5 v8 w) (hg : w.grownBy w' v5.ownBlock) (hv : v5'.ownBlock = v5.ownBlock \/ v5'.ownBlock = some w.heap.size) : L2 Y u v5' v8 w' :=
 h.to (fun b hl p _ => hg.block b hl fun e => p e.symm) fun b hl p q => ⟨zFV hv hl p, q⟩
theorem L2.grow8 {Y : List Itm} {u v5 v8 v8' : Value} {w w' : World} (h : L2 Y u v5 v8 w) (hg : w.grownBy w' v8.ownBlock) (hv : v8'.ownBlock = v8.ownBlock \/ v8'.ownBlock = some w.heap.size) : L2 Y u v5 v8' w' :=
 h.to (fun b hl _ q => hg.block b hl fun e => q e.symm) fun b hl p q => ⟨p, zFV hv hl q⟩
structure RbH (TS TT : TypeId) (W : World) (h : Sh) (G : Gram) (ts : List (List (Int × Int))) (C : List Itm) (cv : Value) (p : Half) (v5 v8 : Value) (wr : World) : Prop where
 bx : Bx W h G wr
 sts : ∃ L : List StC, L.map Prod.fst = mkSt p.1 ts /\ wr.ownsRow (W.heap.size + 1) TS 2 v5 L.length (L.flatMap sc) /\ ∀ x ∈ L, L2 x.1.1 x.2.1 v5 v8 wr /\ L2 x.1.2 x.2.2 v5 v8 wr
 tr : ItsV TT (W.heap.size + 1) p.2 v8 wr
 off : ∀ g, v8.ownBlock = some g -> v5.ownBlock ≠ some g
 clo : L2 C cv v5 v8 wr
theorem RbH.went {TS TT : TypeId} {W : World} {h : Sh} {G : Gram} {ts : List (List (Int × Int))} {C : List Itm} {cv : Value} {p : Half} {v5 v8 : Value} {w w' : World} (k : RbH TS TT W h G ts C cv p v5 v8 w) (hb : Below w.heap.size w w') : RbH TS TT W h G ts C cv p v5 v8 w' := by
 obtain ⟨L, e, r, l⟩ := k.sts
 exact ⟨k.bx.went hb, ⟨L, e, Sep.zAG r fun g hg => hb.block g (r.lt g hg).2, fun x hx => ⟨(l x hx).1.went hb, (l x hx).2.went hb⟩⟩, k.tr.went hb, k.off, k.clo.went hb⟩
theorem RbH.at {TS TT : TypeId} {W : World} {h : Sh} {G : Gram} {ts : List (List (Int × Int))} {C : List Itm} {cv : Value} {p : Half} {v5 v8 : Value} {w : World} (k : RbH TS TT W h G ts C cv p v5 v8 w) : ∃ a c, v5 = .slice a p.1.length c /\ p.1.length <= c /\ StaA a (mkSt p.1 ts) w := by
 obtain ⟨L, e, r, l⟩ := k.sts
 have V : StV TS (W.heap.size + 1) L v5 w := ⟨r, fun x hx => ⟨(l x hx).1.one, (l x hx).2.one⟩⟩
 obtain ⟨a, c, e1, h1⟩ := V.len
 have hl : L.length = p.1.length := by
  have := congrArg List.length e
  rwa [List.length_map, zAI] at this
 subst e1
 exact ⟨a, c, by rw [hl], by omega, e ▸ V.at⟩
theorem RbH.state {TS TT : TypeId} {W : World} {h : Sh} {G : Gram} {ts : List (List (Int × Int))} {C : List Itm} {cv : Value} {p : Half} {v5 v8 v5' : Value} {w w' : World} (k : RbH TS TT W h G ts C cv p v5 v8 w) (hts : ts.length <= p.1.length) {K : List Itm} {u : Value} (hu : L2 K u v5 v8 w)
  {L : List StC} (e : L.map Prod.fst = mkSt p.1 ts) (r : w.ownsRow (W.heap.size + 1) TS 2 v5 L.length (L.flatMap sc)) (l : ∀ x ∈ L, L2 x.1.1 x.2.1 v5 v8 w /\ L2 x.1.2 x.2.2 v5 v8 w)
  (hr : w'.ownsRow (W.heap.size + 1) TS 2 v5' (L.length + 1) (L.flatMap sc ++ [u, .slice none 0 0])) (hg : w.grownBy w' v5.ownBlock) (hv : v5'.ownBlock = v5.ownBlock \/ v5'.ownBlock = some w.heap.size) :
  RbH TS TT W h G ts C cv (p.1 ++ [K], p.2) v5' v8 w' := by
 have own5 : ∀ g, v5.ownBlock = some g -> W.heap.size + 1 <= g /\ g < w.heap.size := fun g hg' => r.lt g hg'
 have own8 : ∀ g, v8.ownBlock = some g -> W.heap.size + 1 <= g /\ g < w.heap.size := fun g hg' => World.ownsRow.lt k.tr g hg'
 refine ⟨k.bx.grown hg fun g q => (own5 g q).1, ⟨L ++ [((K, []), (u, .slice none 0 0))], ?_, ?_, fun x hx => ?_⟩, ?_, fun g q q5 => ?_, k.clo.grow5 hg hv⟩
 ·rw [List.map_append, e, zIh hts]
  rfl
 ·rw [List.length_append, List.flatMap_append]
  simpa [sc] using hr
 ·rcases List.mem_append.1 hx with q | q
  ·exact ⟨(l x q).1.grow5 hg hv, (l x q).2.grow5 hg hv⟩
  ·rw [List.mem_singleton] at q
   subst q
   exact ⟨hu.grow5 hg hv, none, 0, rfl, Nat.le_refl _, .nil _ _, fun q => absurd rfl q⟩
 ·refine k.tr.keep fun g q => hg.block g (own8 g q).2 fun e5 => k.off g q e5.symm
 ·exact zFV hv (own8 g q).2 (k.off g q) q5
theorem RbH.trans {TS TT : TypeId} {W : World} {h : Sh} {G : Gram} {ts : List (List (Int × Int))} {C : List Itm} {cv : Value} {p : Half} {v5 v8 v8' : Value} {w w' : World} (k : RbH TS TT W h G ts C cv p v5 v8 w) {s t : Int}
  (hr : w'.ownsRow (W.heap.size + 1) TT 2 v8' (p.2.length + 1) (p.2.flatMap ic ++ ic (s, t))) (hg : w.grownBy w' v8.ownBlock) (hv : v8'.ownBlock = v8.ownBlock \/ v8'.ownBlock = some w.heap.size) :
  RbH TS TT W h G ts C cv (p.1, p.2 ++ [(s, t)]) v5 v8' w' := by
 obtain ⟨L, e, r, l⟩ := k.sts
 have own8 : ∀ g, v8.ownBlock = some g -> W.heap.size + 1 <= g /\ g < w.heap.size := fun g hg' => World.ownsRow.lt k.tr g hg'
 refine ⟨k.bx.grown hg fun g q => (own8 g q).1, ⟨L, e, Sep.zAG r fun g q => hg.block g (r.lt g q).2 fun e8 => k.off g e8.symm q, fun x hx => ⟨(l x hx).1.grow8 hg hv, (l x hx).2.grow8 hg hv⟩⟩, ItsV.of_append (Y := [(s, t)]) (by simpa using hr) rfl rfl, fun g q q5 => ?_, k.clo.grow8 hg hv⟩
 rcases hv with a | a
 ·exact k.off g (a ▸ q) q5
 ·rw [a] at q
  injection q with q
  have := (r.lt g q5).2
  omega
structure RbR (TS : TypeId) (W : World) (h : Sh) (G : Gram) (q : Whole) (v5 : Value) (wr : World) : Prop where
 bx : Bx W h G wr
 sts : ∃ L : List StC, L.map Prod.fst = mkSt q.1 q.2 /\ StV TS (W.heap.size + 1) L v5 wr
theorem RbR.went {TS : TypeId} {W : World} {h : Sh} {G : Gram} {q : Whole} {v5 : Value} {w w' : World} (k : RbR TS W h G q v5 w) (hb : Below w.heap.size w w') : RbR TS W h G q v5 w' := by
 obtain ⟨L, e, V⟩ := k.sts
 exact ⟨k.bx.went hb, L, e, V.went hb⟩
theorem RbR.at {TS : TypeId} {W : World} {h : Sh} {G : Gram} {q : Whole} {v5 : Value} {w : World} (k : RbR TS W h G q v5 w) : ∃ a c, v5 = .slice a q.1.length c /\ q.1.length <= c /\ StaA a (mkSt q.1 q.2) w := by
 obtain ⟨L, e, V⟩ := k.sts
 obtain ⟨a, c, e1, h1⟩ := V.len
 have hl : L.length = q.1.length := by
  have := congrArg List.length e
  rwa [List.length_map, zAI] at this
 subst e1
 exact ⟨a, c, by rw [hl], by omega, e ▸ V.at⟩
theorem RbR.lt {TS : TypeId} {W : World} {h : Sh} {G : Gram} {q : Whole} {v5 : Value} {w : World} (k : RbR TS W h G q v5 w) : ∀ g, v5.ownBlock = some g -> g < w.heap.size := fun g hg => by
 obtain ⟨L, e, V⟩ := k.sts
 exact (V.row.lt g hg).2
theorem RbR.begin {TS TT : TypeId} {W : World} {h : Sh} {G : Gram} {q : Whole} {v5 : Value} {w w' : World} (k : RbR TS W h G q v5 w) (hb : Below w.heap.size w w') {C : List Itm} {a : Option Addr} {c : Nat} (hc : C.length <= c) (hC : ItsA a C w') (hn : ∀ b o, a = some ⟨b, o, none⟩ -> w.heap.size <= b) :
  RbH TS TT W h G q.2 C (.slice a C.length c) (q.1, []) v5 (.slice none 0 0) w' := by
 obtain ⟨L, e, V⟩ := (k.went hb).sts
 refine ⟨k.bx.went hb, ⟨L, e, V.row, fun x hx => ?_⟩, ItsV.nil _ _ _, fun g q => by simp [Value.ownBlock] at q, a, c, rfl, hc, hC, fun _ b o e' => ⟨fun q => ?_, by simp [Value.ownBlock]⟩⟩
 ·have up : ∀ {Y : List Itm} {u : Value}, LOk Y u v5 w' -> L2 Y u v5 (.slice none 0 0) w' := fun {Y u} ⟨a, c, h1, h2, h3, h4⟩ => ⟨a, c, h1, h2, h3, fun hn b o e => ⟨h4 hn b o e, by simp [Value.ownBlock]⟩⟩
  exact ⟨up (V.lists x hx).1, up (V.lists x hx).2⟩
 ·have := k.lt b q
  have := hn b o e'
  omega
theorem RbH.put {TS TT : TypeId} {W : World} {h : Sh} {G : Gram} {ts : List (List (Int × Int))} {C : List Itm} {cv : Value} {p : Half} {g c : Nat} {v8 : Value} {w : World} (k : RbH TS TT W h G ts C cv p (.slice (some ⟨g, 0, none⟩) p.1.length c) v8 w) (hts : ts.length < p.1.length) :
  RbR TS W h G (p.1, ts ++ [p.2]) (.slice (some ⟨g, 0, none⟩) p.1.length c) (w.setCell ⟨g, ts.length * 2 + 1, none⟩ v8) /\ (∃ u, w.cell? ⟨g, ts.length * 2 + 1, none⟩ = some u) /\ w.frozen? ⟨g, ts.length * 2 + 1, none⟩ = false := by
 obtain ⟨L, e, r, l⟩ := k.sts
 have hl : L.length = p.1.length := by
  have := congrArg List.length e
  rwa [List.length_map, zAI] at this
 have hi : ts.length < L.length := by omega
 rw [← hl] at r l ⊢
 have V : StV TS (W.heap.size + 1) L (.slice (some ⟨g, 0, none⟩) L.length c) w := ⟨r, fun x hx => ⟨(l x hx).1.one, (l x hx).2.one⟩⟩
 have hT : LOk p.2 v8 (.slice (some ⟨g, 0, none⟩) L.length c) w := by
  obtain ⟨a8, c8, e8, h8⟩ := k.tr.shape
  refine ⟨a8, c8, e8, h8, (e8 ▸ k.tr).reads, fun _ b o q q5 => ?_⟩
  have : (.slice (some ⟨g, 0, none⟩) p.1.length c : Value).ownBlock = some b := q5
  exact k.off b (by rw [e8, q]; rfl) this
 have hg : W.heap.size + 1 <= g := (r.lt g rfl).1
 have P := V.put hi hT
 refine ⟨⟨?_, _, ?_, P⟩, ?_, ?_⟩
 ·have f : Sep.Fr (· = g) w (w.setCell ⟨g, ts.length * 2 + 1, none⟩ v8) := (Sep.Fr.refl (fun k => k = g) w).setCell ⟨g, ts.length * 2 + 1, none⟩ rfl _
  have hn : ¬ W.heap.size = g := by omega
  exact ⟨k.bx.below.trans (f.below (fun i hi => by omega) k.bx.below.size), ⟨f.cell k.bx.box.x0 hn, f.cell k.bx.box.x1 hn, f.cell k.bx.box.x2 hn, f.cell k.bx.box.x3 hn⟩⟩
 ·rw [List.map_set, e, zKL hts]
  congr 2
  have e1 : (L.map Prod.fst)[ts.length]'(by simpa using hi) = (mkSt p.1 ts)[ts.length]'(by rw [zAI]; exact hts) := by simp only [e]
  rw [List.getElem_map, zAs _ hts] at e1
  rw [e1]
 ·have := World.ownsRow.cells r (g := g) rfl (ts.length * 2 + 1) _ (Rw.zDm sc zCC L ts.length hi 1 (by omega))
  rw [WideShapes.add_plain] at this
  exact ⟨_, by simpa using this⟩
 ·rcases r.2 with ⟨q, _⟩ | ⟨g', cap, cur, q, _, hgg, _⟩
  ·simp at q
  ·simp only [Value.slice.injEq, Option.some.injEq, Addr.mk.injEq, and_true] at q
   obtain ⟨rfl, _⟩ := q
   simp [World.frozen?, hgg]
