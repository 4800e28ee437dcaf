/- A part of the proof. -/
import Derived.Test.YtbcgmiocolpjoaaGreatPk24
set_option maxHeartbeats 2000000
set_option maxRecDepth 100000
set_option linter.unusedVariables false
namespace Go.Proofs.YtbcgmiocolpjoaaGreat
open Go.RowKit Go.Maps
namespace Au
open Gr (Gram Sh Bx)
open Im
def mkSt (ks : List (List Itm)) (ts : List (List (Int × Int))) : List Sta := (List.range ks.length).map fun j => (zAI ks j, ts.getD j [])
theorem zAM (ks : List (List Itm)) (ts : List (List (Int × Int))) : (mkSt ks ts).length = ks.length := by simp [mkSt]
theorem zA4 {ks : List (List Itm)} {ts : List (List (Int × Int))} {i : Nat} (h : i < (mkSt ks ts).length) (h' : i < ks.length) : (mkSt ks ts)[i] = (ks[i], ts.getD i []) := by
 simp only [mkSt, List.getElem_map, List.getElem_range, zAd h']
theorem zJl {ks : List (List Itm)} {ts : List (List (Int × Int))} (h : ts.length <= ks.length) (K : List Itm) : mkSt (ks ++ [K]) ts = mkSt ks ts ++ [(K, [])] := by
 refine List.ext_getElem (by simp [zAM]) fun i h1 h2 => ?_
 rw [zAM, List.length_append, List.length_singleton] at h1
 rw [zA4 _ (by simp; omega)]
 by_cases hi : i < ks.length
 ·have hi' : i < (mkSt ks ts).length := by rw [zAM]; exact hi
  rw [List.getElem_append_left hi, List.getElem_append_left hi', zA4 _ hi]
 ·obtain rfl : i = ks.length := by omega
  have hn : (mkSt ks ts).length <= ks.length := by rw [zAM]; exact Nat.le_refl _
  rw [List.getElem_append_right (Nat.le_refl _), List.getElem_append_right hn]
  simp only [zAM, Nat.sub_self, List.getElem_cons_zero]
  rw [List.getD_eq_getElem?_getD, List.getElem?_eq_none h]
  rfl
theorem zLd {ks : List (List Itm)} {ts : List (List (Int × Int))} (h : ts.length < ks.length) (tr : List (Int × Int)) : mkSt ks (ts ++ [tr]) = (mkSt ks ts).set ts.length (ks[ts.length], tr) := by
 refine List.ext_getElem (by simp [zAM]) fun i h1 h2 => ?_
 rw [zAM] at h1
 rw [zA4 _ h1, List.getElem_set]
 by_cases hi : ts.length = i
 ·subst hi
  rw [if_pos rfl, List.getD_eq_getElem?_getD, List.getElem?_append_right (Nat.le_refl _)]
  simp
 ·rw [if_neg hi, zA4 _ h1, List.getD_eq_getElem?_getD, List.getD_eq_getElem?_getD]
  rcases Nat.lt_trichotomy i ts.length with q | q | q
  ·rw [List.getElem?_append_left q]
  ·exact absurd q.symm hi
  ·rw [List.getElem?_eq_none (by simp; omega), List.getElem?_eq_none (by omega)]
theorem zJk {q : Whole} (h : q.2.length = q.1.length) : mkSt q.1 q.2 = states q := by
 refine List.ext_getElem (by rw [zAM, zAg h]) fun i h1 h2 => ?_
 rw [zAM] at h1
 have e := zBJ h h1
 rw [List.getElem?_eq_getElem h2, Option.some.injEq] at e
 rw [e, zA4 _ h1, zAd h1]
theorem zM3 {ks : List (List Itm)} {ts : List (List (Int × Int))} {K : List Itm} (hn : ks.Nodup) (h : K ∈ ks) : zF7 (mkSt ks ts) K = (ks.idxOf K : Int) := by
 have hl := List.idxOf_lt_length_of_mem h
 refine zFQ (k := ks.idxOf K) (fun j hj hlt e => ?_) (by rw [zAM]; exact hl) ?_
 ·rw [zAM] at hj
  rw [zA4 _ hj] at e
  have e' : ks[j] = K := e
  have := hn.idxOf_getElem j hj
  rw [e'] at this
  omega
 ·rw [zA4 _ hl]
  exact List.getElem_idxOf hl
theorem zM4 {ks : List (List Itm)} {ts : List (List (Int × Int))} {K : List Itm} (h : K ∉ ks) : zF7 (mkSt ks ts) K = -1 := by
 refine zFP (k := (mkSt ks ts).length) (fun j hj _ e => ?_) (Nat.lt_irrefl _)
 rw [zAM] at hj
 rw [zA4 _ hj] at e
 exact h (e ▸ List.getElem_mem hj)
theorem zMB {ks : List (List Itm)} {ts : List (List (Int × Int))} (h : ks.length <= 1000000) (h1 : ∀ k ∈ ks, k.length <= 1000000) (h2 : ∀ t ∈ ts, t.length <= 1000000) : Small (mkSt ks ts) := by
 refine ⟨by rw [zAM]; exact h, fun s hs => ?_, fun s hs => ?_⟩
 ·obtain ⟨i, hi, rfl⟩ := List.mem_iff_getElem.1 hs
  rw [zA4 hi (by rw [zAM] at hi; exact hi)]
  exact h1 _ (List.getElem_mem _)
 ·obtain ⟨i, hi, rfl⟩ := List.mem_iff_getElem.1 hs
  rw [zA4 hi (by rw [zAM] at hi; exact hi)]
  dsimp only
  rw [List.getD_eq_getElem?_getD]
  cases e : ts[i]? with
  | none => simp
  | some t => exact h2 t (List.mem_of_getElem? e)
def L2 (Y : List Itm) (u v5 v8 : Value) (w : World) : Prop := ∃ a c, u = .slice a Y.length c /\ Y.length <= c /\ ItsA a Y w /\ (Y ≠ [] -> ∀ b o, a = some ⟨b, o, none⟩ -> v5.ownBlock ≠ some b /\ v8.ownBlock ≠ some b)
theorem L2.one {Y : List Itm} {u v5 v8 : Value} {w : World} (h : L2 Y u v5 v8 w) : LOk Y u v5 w := by
 obtain ⟨a, c, h1, h2, h3, h4⟩ := h
 exact ⟨a, c, h1, h2, h3, fun hn b o e => (h4 hn b o e).1⟩
theorem L2.to {Y : List Itm} {u v5 v8 v5' v8' : Value} {w w' : World} (h : L2 Y u v5 v8 w) (hb : ∀ b, b < w.heap.size -> v5.ownBlock ≠ some b -> v8.ownBlock ≠ some b -> w'.heap[b]? = w.heap[b]?)
  (hv : ∀ b, b < w.heap.size -> v5.ownBlock ≠ some b -> v8.ownBlock ≠ some b -> v5'.ownBlock ≠ some b /\ v8'.ownBlock ≠ some b) : L2 Y u v5' v8' w' := by
 obtain ⟨a, c, h1, h2, h3, h4⟩ := h
 by_cases hn : Y = []
 ·subst hn
  exact ⟨a, c, h1, h2, .nil _ _, fun q => absurd rfl q⟩
 ·exact ⟨a, c, h1, h2, h3.keep fun b o e => hb b (zCK h3 hn e) (h4 hn b o e).1 (h4 hn b o e).2, fun _ b o e => hv b (zCK h3 hn e) (h4 hn b o e).1 (h4 hn b o e).2⟩
theorem L2.went {Y : List Itm} {u v5 v8 : Value} {w w' : World} (h : L2 Y u v5 v8 w) (hb : Below w.heap.size w w') : L2 Y u v5 v8 w' := h.to (fun b hl _ _ => hb.block b hl) fun _ _ p q => ⟨p, q⟩
theorem zGN {v v' : Value} {m : Nat} (hv : v'.ownBlock = v.ownBlock \/ v'.ownBlock = some m) {b : Nat} (hb : b < m) (h : v.ownBlock ≠ some b) : v'.ownBlock ≠ some b := fun e => by
 rcases hv with q | q
 ·exact h (q.symm.trans e)
 ·rw [q] at e
  injection e with e
  omega
theorem L2.grow5 {Y : List Itm} {u v5 v8 v5' : Value} {w w' : World} (h : L2 Y u v5 v8 w) (hg : w.grownBy w' v5.ownBlock) (hv : v5'.ownBlock = v5.ownBlock \/ v5'.ownBlock = some w.heap.size) : L2 Y u v5' v8 w' :=
 h.to (fun b hl p _ => hg.block b hl fun e => p e.symm) fun b hl p q => ⟨zGN hv hl p, q⟩
theorem L2.grow8 {Y : List Itm} {u v5 v8 v8' : Value} {w w' : World} (h : L2 Y u v5 v8 w) (hg : w.grownBy w' v8.ownBlock) (hv : v8'.ownBlock = v8.ownBlock \/ v8'.ownBlock = some w.heap.size) : L2 Y u v5 v8' w' :=
 h.to (fun b hl _ q => hg.block b hl fun e => q e.symm) fun b hl p q => ⟨p, zGN hv hl q⟩
structure RbH (TS TT : TypeId) (W : World) (h : Sh) (G : Gram) (ts : List (List (Int × Int))) (C : List Itm) (cv : Value) (p : Half) (v5 v8 : Value) (wr : World) : Prop where
 bx : Bx W h G wr
 sts : ∃ L : List StC, L.map Prod.fst = mkSt p.1 ts /\ wr.ownsRow (W.heap.size + 1) TS 2 v5 L.length (L.flatMap sc) /\ ∀ x ∈ L, L2 x.1.1 x.2.1 v5 v8 wr /\ L2 x.1.2 x.2.2 v5 v8 wr
 tr : ItsV TT (W.heap.size + 1) p.2 v8 wr
 off : ∀ g, v8.ownBlock = some g -> v5.ownBlock ≠ some g
 clo : L2 C cv v5 v8 wr
theorem RbH.went {TS TT : TypeId} {W : World} {h : Sh} {G : Gram} {ts : List (List (Int × Int))} {C : List Itm} {cv : Value} {p : Half} {v5 v8 : Value} {w w' : World} (k : RbH TS TT W h G ts C cv p v5 v8 w) (hb : Below w.heap.size w w') : RbH TS TT W h G ts C cv p v5 v8 w' := by
 obtain ⟨L, e, r, l⟩ := k.sts
 exact ⟨k.bx.went hb, ⟨L, e, Sep.zAH r fun g hg => hb.block g (r.lt g hg).2, fun x hx => ⟨(l x hx).1.went hb, (l x hx).2.went hb⟩⟩, k.tr.went hb, k.off, k.clo.went hb⟩
theorem RbH.at {TS TT : TypeId} {W : World} {h : Sh} {G : Gram} {ts : List (List (Int × Int))} {C : List Itm} {cv : Value} {p : Half} {v5 v8 : Value} {w : World} (k : RbH TS TT W h G ts C cv p v5 v8 w) : ∃ a c, v5 = .slice a p.1.length c /\ p.1.length <= c /\ StaA a (mkSt p.1 ts) w := by
 obtain ⟨L, e, r, l⟩ := k.sts
 have V : StV TS (W.heap.size + 1) L v5 w := ⟨r, fun x hx => ⟨(l x hx).1.one, (l x hx).2.one⟩⟩
 obtain ⟨a, c, e1, h1⟩ := V.len
 have hl : L.length = p.1.length := by
  have := congrArg List.length e
  rwa [List.length_map, zAM] at this
 subst e1
 exact ⟨a, c, by rw [hl], by omega, e ▸ V.at⟩
theorem RbH.state {TS TT : TypeId} {W : World} {h : Sh} {G : Gram} {ts : List (List (Int × Int))} {C : List Itm} {cv : Value} {p : Half} {v5 v8 v5' : Value} {w w' : World} (k : RbH TS TT W h G ts C cv p v5 v8 w) (hts : ts.length <= p.1.length) {K : List Itm} {u : Value} (hu : L2 K u v5 v8 w)
  {L : List StC} (e : L.map Prod.fst = mkSt p.1 ts) (r : w.ownsRow (W.heap.size + 1) TS 2 v5 L.length (L.flatMap sc)) (l : ∀ x ∈ L, L2 x.1.1 x.2.1 v5 v8 w /\ L2 x.1.2 x.2.2 v5 v8 w)
  (hr : w'.ownsRow (W.heap.size + 1) TS 2 v5' (L.length + 1) (L.flatMap sc ++ [u, .slice none 0 0])) (hg : w.grownBy w' v5.ownBlock) (hv : v5'.ownBlock = v5.ownBlock \/ v5'.ownBlock = some w.heap.size) :
  RbH TS TT W h G ts C cv (p.1 ++ [K], p.2) v5' v8 w' := by
 have own5 : ∀ g, v5.ownBlock = some g -> W.heap.size + 1 <= g /\ g < w.heap.size := fun g hg' => r.lt g hg'
 have own8 : ∀ g, v8.ownBlock = some g -> W.heap.size + 1 <= g /\ g < w.heap.size := fun g hg' => World.ownsRow.lt k.tr g hg'
 refine ⟨k.bx.grown hg fun g q => (own5 g q).1, ⟨L ++ [((K, []), (u, .slice none 0 0))], ?_, ?_, fun x hx => ?_⟩, ?_, fun g q q5 => ?_, k.clo.grow5 hg hv⟩
 ·rw [List.map_append, e, zJl hts]
  rfl
 ·rw [List.length_append, List.flatMap_append]
  simpa [sc] using hr
 ·rcases List.mem_append.1 hx with q | q
  ·exact ⟨(l x q).1.grow5 hg hv, (l x q).2.grow5 hg hv⟩
  ·rw [List.mem_singleton] at q
   subst q
   exact ⟨hu.grow5 hg hv, none, 0, rfl, Nat.le_refl _, .nil _ _, fun q => absurd rfl q⟩
 ·refine k.tr.keep fun g q => hg.block g (own8 g q).2 fun e5 => k.off g q e5.symm
 ·exact zGN hv (own8 g q).2 (k.off g q) q5
theorem RbH.trans {TS TT : TypeId} {W : World} {h : Sh} {G : Gram} {ts : List (List (Int × Int))} {C : List Itm} {cv : Value} {p : Half} {v5 v8 v8' : Value} {w w' : World} (k : RbH TS TT W h G ts C cv p v5 v8 w) {s t : Int}
  (hr : w'.ownsRow (W.heap.size + 1) TT 2 v8' (p.2.length + 1) (p.2.flatMap ic ++ ic (s, t))) (hg : w.grownBy w' v8.ownBlock) (hv : v8'.ownBlock = v8.ownBlock \/ v8'.ownBlock = some w.heap.size) :
  RbH TS TT W h G ts C cv (p.1, p.2 ++ [(s, t)]) v5 v8' w' := by
 obtain ⟨L, e, r, l⟩ := k.sts
 have own8 : ∀ g, v8.ownBlock = some g -> W.heap.size + 1 <= g /\ g < w.heap.size := fun g hg' => World.ownsRow.lt k.tr g hg'
 refine ⟨k.bx.grown hg fun g q => (own8 g q).1, ⟨L, e, Sep.zAH r fun g q => hg.block g (r.lt g q).2 fun e8 => k.off g e8.symm q, fun x hx => ⟨(l x hx).1.grow8 hg hv, (l x hx).2.grow8 hg hv⟩⟩, ItsV.of_append (Y := [(s, t)]) (by simpa using hr) rfl rfl, fun g q q5 => ?_, k.clo.grow8 hg hv⟩
 rcases hv with a | a
 ·exact k.off g (a ▸ q) q5
 ·rw [a] at q
  injection q with q
  have := (r.lt g q5).2
  omega
structure RbR (TS : TypeId) (W : World) (h : Sh) (G : Gram) (q : Whole) (v5 : Value) (wr : World) : Prop where
 bx : Bx W h G wr
 sts : ∃ L : List StC, L.map Prod.fst = mkSt q.1 q.2 /\ StV TS (W.heap.size + 1) L v5 wr
theorem RbR.went {TS : TypeId} {W : World} {h : Sh} {G : Gram} {q : Whole} {v5 : Value} {w w' : World} (k : RbR TS W h G q v5 w) (hb : Below w.heap.size w w') : RbR TS W h G q v5 w' := by
 obtain ⟨L, e, V⟩ := k.sts
 exact ⟨k.bx.went hb, L, e, V.went hb⟩
theorem RbR.at {TS : TypeId} {W : World} {h : Sh} {G : Gram} {q : Whole} {v5 : Value} {w : World} (k : RbR TS W h G q v5 w) : ∃ a c, v5 = .slice a q.1.length c /\ q.1.length <= c /\ StaA a (mkSt q.1 q.2) w := by
 obtain ⟨L, e, V⟩ := k.sts
 obtain ⟨a, c, e1, h1⟩ := V.len
 have hl : L.length = q.1.length := by
  have := congrArg List.length e
  rwa [List.length_map, zAM] at this
 subst e1
 exact ⟨a, c, by rw [hl], by omega, e ▸ V.at⟩
theorem RbR.lt {TS : TypeId} {W : World} {h : Sh} {G : Gram} {q : Whole} {v5 : Value} {w : World} (k : RbR TS W h G q v5 w) : ∀ g, v5.ownBlock = some g -> g < w.heap.size := fun g hg => by
 obtain ⟨L, e, V⟩ := k.sts
 exact (V.row.lt g hg).2
theorem RbR.begin {TS TT : TypeId} {W : World} {h : Sh} {G : Gram} {q : Whole} {v5 : Value} {w w' : World} (k : RbR TS W h G q v5 w) (hb : Below w.heap.size w w') {C : List Itm} {a : Option Addr} {c : Nat} (hc : C.length <= c) (hC : ItsA a C w') (hn : ∀ b o, a = some ⟨b, o, none⟩ -> w.heap.size <= b) :
  RbH TS TT W h G q.2 C (.slice a C.length c) (q.1, []) v5 (.slice none 0 0) w' := by
 obtain ⟨L, e, V⟩ := (k.went hb).sts
 refine ⟨k.bx.went hb, ⟨L, e, V.row, fun x hx => ?_⟩, ItsV.nil _ _ _, fun g q => by simp [Value.ownBlock] at q, a, c, rfl, hc, hC, fun _ b o e' => ⟨fun q => ?_, by simp [Value.ownBlock]⟩⟩
 ·have up : ∀ {Y : List Itm} {u : Value}, LOk Y u v5 w' -> L2 Y u v5 (.slice none 0 0) w' := fun {Y u} ⟨a, c, h1, h2, h3, h4⟩ => ⟨a, c, h1, h2, h3, fun hn b o e => ⟨h4 hn b o e, by simp [Value.ownBlock]⟩⟩
  exact ⟨up (V.lists x hx).1, up (V.lists x hx).2⟩
 ·have := k.lt b q
  have := hn b o e'
  omega
theorem RbH.put {TS TT : TypeId} {W : World} {h : Sh} {G : Gram} {ts : List (List (Int × Int))} {C : List Itm} {cv : Value} {p : Half} {g c : Nat} {v8 : Value} {w : World} (k : RbH TS TT W h G ts C cv p (.slice (some ⟨g, 0, none⟩) p.1.length c) v8 w) (hts : ts.length < p.1.length) :
  RbR TS W h G (p.1, ts ++ [p.2]) (.slice (some ⟨g, 0, none⟩) p.1.length c) (w.setCell ⟨g, ts.length * 2 + 1, none⟩ v8) /\ (∃ u, w.cell? ⟨g, ts.length * 2 + 1, none⟩ = some u) /\ w.frozen? ⟨g, ts.length * 2 + 1, none⟩ = false := by
 obtain ⟨L, e, r, l⟩ := k.sts
 have hl : L.length = p.1.length := by
  have := congrArg List.length e
  rwa [List.length_map, zAM] at this
 have hi : ts.length < L.length := by omega
 rw [← hl] at r l ⊢
 have V : StV TS (W.heap.size + 1) L (.slice (some ⟨g, 0, none⟩) L.length c) w := ⟨r, fun x hx => ⟨(l x hx).1.one, (l x hx).2.one⟩⟩
 have hT : LOk p.2 v8 (.slice (some ⟨g, 0, none⟩) L.length c) w := by
  obtain ⟨a8, c8, e8, h8⟩ := k.tr.shape
  refine ⟨a8, c8, e8, h8, (e8 ▸ k.tr).reads, fun _ b o q q5 => ?_⟩
  have : (.slice (some ⟨g, 0, none⟩) p.1.length c : Value).ownBlock = some b := q5
  exact k.off b (by rw [e8, q]; rfl) this
 have hg : W.heap.size + 1 <= g := (r.lt g rfl).1
 have P := V.put hi hT
 refine ⟨⟨?_, _, ?_, P⟩, ?_, ?_⟩
 ·have f : Sep.Fr (· = g) w (w.setCell ⟨g, ts.length * 2 + 1, none⟩ v8) := (Sep.Fr.refl (fun k => k = g) w).setCell ⟨g, ts.length * 2 + 1, none⟩ rfl _
  have hn : ¬ W.heap.size = g := by omega
  exact ⟨k.bx.below.trans (f.below (fun i hi => by omega) k.bx.below.size), ⟨f.cell k.bx.box.x0 hn, f.cell k.bx.box.x1 hn, f.cell k.bx.box.x2 hn, f.cell k.bx.box.x3 hn⟩⟩
 ·rw [List.map_set, e, zLd hts]
  congr 2
  have e1 : (L.map Prod.fst)[ts.length]'(by simpa using hi) = (mkSt p.1 ts)[ts.length]'(by rw [zAM]; exact hts) := by simp only [e]
  rw [List.getElem_map, zA4 _ hts] at e1
  rw [e1]
 ·have := World.ownsRow.cells r (g := g) rfl (ts.length * 2 + 1) _ (Rw.zET sc zCX L ts.length hi 1 (by omega))
  rw [WideShapes.add_plain] at this
  exact ⟨_, by simpa using this⟩
 ·rcases r.2 with ⟨q, _⟩ | ⟨g', cap, cur, q, _, hgg, _⟩
  ·simp at q
  ·simp only [Value.slice.injEq, Option.some.injEq, Addr.mk.injEq, and_true] at q
   obtain ⟨rfl, _⟩ := q
   simp [World.frozen?, hgg]
end Au
namespace Im
open Gr (Gram Sh gv GAt Bx zAW zAN zBp zBP zC4 zBn ivs zKy zAB zAJ cell_later zAA)
theorem Gw.trans {a b c : World} (h : Gw a b) (k : Gw b c) : Gw a c := by
 obtain ⟨n, os, rfl⟩ := h
 obtain ⟨m, os', rfl⟩ := k
 exact ⟨n + m, os ++ os', by
  show Go.Sort.grow (Go.Sort.grow ((a.drewN n).drewN m) os) os' = _
  rw [Go.Sort.grow_grow, World.drewN_drewN]⟩
theorem zHJ (h : Sh) (G : Gram) (i : Int) (w : World) (k : GAt h G w) :
  Calls Tryz.prog 84 #[gv h G, .int .i64 i] w (fun e w' => zKy (zAN G i) (zAW G i) w e w' /\ Gw w w') := by
 have X := zPB (Bx.start h G w 25)
 have hc3 := k.r2
 by_cases h0 : i < 0 \/ (G.rules.length : Int) < i
 ·obtain ⟨e1, e2⟩ := zC4 h0
  rw [e1, e2]
  clear k e1 e2
  by_cases h1 : i < 0
  ·clear h0
   unfold gv
   go_enter Tryz.func84, Tryz.ntmps84
   go_wp2
   exact bodyPost_ret (v := .tuple #[.agg #[.int .i64 0, .slice Option.none 0 0], .bool false]) (by simp [results, Tryz.results84, go_sem]) rfl ⟨⟨_, _, rfl, .nil _ _, (X.out.alloc _).below⟩, (by first | exact ((Gw.refl w).alloc _).alloc _ | exact (((Gw.refl w).alloc _).alloc _).alloc _)⟩
  ·have h2 : (G.rules.length : Int) < i := by omega
   clear h0
   unfold gv
   go_enter Tryz.func84, Tryz.ntmps84
   go_wp2
   exact bodyPost_ret (v := .tuple #[.agg #[.int .i64 0, .slice Option.none 0 0], .bool false]) (by simp [results, Tryz.results84, go_sem]) rfl ⟨⟨_, _, rfl, .nil _ _, (X.out.alloc _).below⟩, (by first | exact ((Gw.refl w).alloc _).alloc _ | exact (((Gw.refl w).alloc _).alloc _).alloc _)⟩
 ·by_cases h1 : i = (G.rules.length : Int)
  ·subst h1
   obtain ⟨e1, e2⟩ := zBP G
   rw [e1, e2]
   clear k e1 e2 h0
   unfold gv
   go_enter Tryz.func84, Tryz.ntmps84
   go_wp2
   refine bodyPost_ret (v := .tuple #[.agg #[.int .i64 0, .slice (some ⟨w.heap.size + 1 + 1, 0, Option.none⟩) 1 1], .bool true]) (by simp [results, Tryz.results84, go_sem]) rfl ⟨⟨_, _, rfl, zBn (zAB (by simp) rfl), ((X.out.alloc _).alloc _).below⟩, (by first | exact ((Gw.refl w).alloc _).alloc _ | exact (((Gw.refl w).alloc _).alloc _).alloc _)⟩
  ·obtain ⟨j, rfl⟩ : ∃ j : Nat, i = (j : Int) := ⟨i.toNat, by omega⟩
   have hj : j < G.rules.length := by omega
   obtain ⟨e1, e2⟩ := zBp hj
   rw [e1, e2]
   obtain ⟨a1, c1, a2, c2, a3, c3⟩ := h
   obtain ⟨b, o, ra, rc, e, g1, g2, g3, g4, g5⟩ := k.rules j hj
   dsimp only at e
   subst e
   generalize G.rules[j] = r at g1 g2 g3 g4 g5 ⊢
   have hblt : b < w.heap.size := World.block_lt_of_cell? w ⟨b, o + j * 2, Option.none⟩ g1
   have HR := zPB (show Sep.Reads ra (ivs r.2) w from g3)
   clear k e1 e2 h0 h1 g3
   unfold gv
   dsimp only
   go_enter Tryz.func84, Tryz.ntmps84
   go_wp2
   exact bodyPost_ret (v := .tuple #[.agg #[.int .i64 r.1, .slice ra r.2.length rc], .bool true]) (by simp [results, Tryz.results84, go_sem]) rfl ⟨⟨_, _, rfl, HR.out.below (X.out.alloc _).below (Nat.le_refl _), (X.out.alloc _).below⟩, (by first | exact ((Gw.refl w).alloc _).alloc _ | exact (((Gw.refl w).alloc _).alloc _).alloc _)⟩
theorem zFm (h : Sh) (G : Gram) (x : Itm) (w : World) (k : GAt h G w) :
  Calls Tryz.prog 56 #[gv h G, iv x] w (fun e w' => e = .returned (.bool (zAD G x)) /\ Gw w w') := by
 have R := zPB (fun w1 (b : Below w.heap.size w w1) => zHJ h G x.1 w1 (k.went b))
 clear k
 rw [zE3]
 obtain ⟨xr, xd⟩ := x
 generalize zAN G (xr, xd).1 = r at R ⊢
 generalize zAW G (xr, xd).1 = rb at R ⊢
 have G0 := zPB (((Gw.refl w).alloc (.cells #[.slice h.a1 G.terms.length h.c1, .slice h.a2 G.nons.length h.c2, .slice h.a3 G.rules.length h.c3, .int .i64 G.start] 25)).alloc (.cells #[.int .i64 xr, .int .i64 xd] 108))
 have X := zPB (Bi.start h G (xr, xd) w 25 108)
 unfold gv iv
 dsimp only at R X ⊢
 go_enter Tryz.func56, Tryz.ntmps56
 go_wp2_with (go_at_call 84; refine (R.out _ X.out.below).mono ?_; rintro e w1 ⟨⟨a, c, rfl, hr, hb⟩, hgw⟩; have GG := zPB ((G0.out.trans hgw).alloc (.cells #[.int .i64 r.1, .slice a r.2.length c] 59)); clear hgw; have X := zPB ((X.out.went hb).alloc (.cells #[.int .i64 r.1, .slice a r.2.length c] 59)); have HR := zPB hr; have y0 := X.out.i0; have y1 := X.out.i1; clear hb hr)
 all_goals
  go_ret
  exact ⟨zAA (by first | (simp_all; done) | (simp_all; omega)), GG.out⟩
theorem zEF (h : Sh) (G : Gram) (x : Itm) (w : World) (k : GAt h G w) :
  Calls Tryz.prog 58 #[gv h G, iv x] w (fun e w' => e = .returned (.tuple #[.int .i64 (behV G x), .bool (behB G x)]) /\ Gw w w') := by
 have R := zPB (fun w1 (b : Below w.heap.size w w1) => zHJ h G x.1 w1 (k.went b))
 have RR := zPB (fun w1 (b : Below w.heap.size w w1) => zFm h G x w1 (k.went b))
 have HR := zPB (zAc (G := G) (x := x))
 have HT := zPB (zIg (G := G) (x := x))
 have HF := zPB (zHf (G := G) (x := x))
 clear k
 unfold behV
 have G0 := zPB (((Gw.refl w).alloc (.cells #[.slice h.a1 G.terms.length h.c1, .slice h.a2 G.nons.length h.c2, .slice h.a3 G.rules.length h.c3, .int .i64 G.start] 25)).alloc (.cells #[.int .i64 x.1, .int .i64 x.2] 108))
 have X := zPB (Bi.start h G x w 25 108)
 unfold rlen at HR
 generalize zAN G x.1 = r at R HR HT ⊢
 generalize zAW G x.1 = rb at R ⊢
 generalize behB G x = bb at HT HF ⊢
 generalize zAD G x = rr at RR HR HT HF
 obtain ⟨xr, xd⟩ := x
 unfold gv iv at *
 dsimp only at R RR X HR HT HF ⊢
 cases rr with
 | false =>
  obtain rfl := HF.out rfl
  clear HT HF HR
  go_enter Tryz.func58, Tryz.ntmps58
  go_wp2_with (first
   | (go_at_call 84; refine (R.out _ X.out.below).mono ?_; rintro e w1 ⟨⟨a, c, rfl, hr, hb⟩, hgw⟩; have GG := zPB ((G0.out.trans hgw).alloc (.cells #[.int .i64 r.1, .slice a r.2.length c] 59)); clear hgw; have X1 := zPB ((X.out.went hb).alloc (.cells #[.int .i64 r.1, .slice a r.2.length c] 59)); have y0 := X1.out.i0; have y1 := X1.out.i1; obtain ⟨g0, g1, g2, g3⟩ := X1.out.bx.box; clear hb hr)
   | (go_at_call 56; refine (RR.out _ X1.out.below).mono ?_; rintro e w2 ⟨rfl, hgw⟩; have hb := hgw.below; have GH := zPB (GG.out.trans hgw); clear hgw; have X2 := zPB (X1.out.went hb); clear hb))
  go_ret2
  exact ⟨rfl, GH.out⟩
 | true =>
  have hbb := HT.out rfl
  obtain ⟨_, h1, _⟩ := HR.out.1 rfl
  replace h1 : 0 <= xd := h1
  clear HT HF HR
  by_cases hlt : xd < (r.2.length : Int)
  ·obtain ⟨j, rfl⟩ := Int.eq_ofNat_of_zero_le h1
   have hj : j < r.2.length := by omega
   rw [decide_eq_true hlt] at hbb
   subst hbb
   rw [if_pos rfl, show r.2.getD (Int.toNat (j : Int)) 0 = r.2[j] by simp [hj]]
   go_enter Tryz.func58, Tryz.ntmps58
   go_wp2_with (first
    | (go_at_call 84; refine (R.out _ X.out.below).mono ?_; rintro e w1 ⟨⟨a, c, rfl, hr, hb⟩, hgw⟩; have GG := zPB ((G0.out.trans hgw).alloc (.cells #[.int .i64 r.1, .slice a r.2.length c] 59)); clear hgw; have X1 := zPB ((X.out.went hb).alloc (.cells #[.int .i64 r.1, .slice a r.2.length c] 59)); have y0 := X1.out.i0; have y1 := X1.out.i1; obtain ⟨g0, g1, g2, g3⟩ := X1.out.bx.box; obtain ⟨b2, o2, e2, z⟩ := hr j (by simpa [Gr.ivs] using hj); subst e2; have z := zAJ (o := .cells #[.int .i64 r.1, .slice (some ⟨b2, o2, none⟩) r.2.length c] 59) z; clear hb hr)
    | (go_at_call 56; refine (RR.out _ X1.out.below).mono ?_; rintro e w2 ⟨rfl, hgw⟩; have hb := hgw.below; have GH := zPB (GG.out.trans hgw); clear hgw; have X2 := zPB (X1.out.went hb); have z := cell_later hb z; have y0 := X2.out.i0; have y1 := X2.out.i1; have r0 := cell_later hb (zAB (w := w1) (cs := #[.int .i64 r.1, .slice (some ⟨b2, o2, none⟩) r.2.length c]) (T := 59) (n := w1.heap.size) (j := 1) rfl rfl); clear hb))
   go_ret2
   exact ⟨by simp [Gr.ivs, Gr.iv], GH.out⟩
  ·rw [decide_eq_false hlt] at hbb
   subst hbb
   have h3 : (r.2.length : Int) <= xd := by omega
   go_enter Tryz.func58, Tryz.ntmps58
   go_wp2_with (first
    | (go_at_call 84; refine (R.out _ X.out.below).mono ?_; rintro e w1 ⟨⟨a, c, rfl, hr, hb⟩, hgw⟩; have GG := zPB ((G0.out.trans hgw).alloc (.cells #[.int .i64 r.1, .slice a r.2.length c] 59)); clear hgw; have X1 := zPB ((X.out.went hb).alloc (.cells #[.int .i64 r.1, .slice a r.2.length c] 59)); have y0 := X1.out.i0; have y1 := X1.out.i1; obtain ⟨g0, g1, g2, g3⟩ := X1.out.bx.box; clear hb hr)
    | (go_at_call 56; refine (RR.out _ X1.out.below).mono ?_; rintro e w2 ⟨rfl, hgw⟩; have hb := hgw.below; have GH := zPB (GG.out.trans hgw); clear hgw; have X2 := zPB (X1.out.went hb); have y0 := X2.out.i0; have y1 := X2.out.i1; have r0 := cell_later hb (zAB (w := w1) (cs := #[.int .i64 r.1, .slice a r.2.length c]) (T := 59) (n := w1.heap.size) (j := 1) rfl rfl); clear hb))
   go_ret2
   exact ⟨rfl, GH.out⟩
