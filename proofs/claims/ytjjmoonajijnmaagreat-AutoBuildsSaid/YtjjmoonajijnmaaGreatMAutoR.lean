/-
  The plain answers of layer 13: Build, walked.
  The plain answers' automaton while it is built: the states so far and the transitions of those that are through; in memory two rows that grow beside one another. The elements' types are parameters.
  The plain answers of layer 13: Build.
-/
import Derived.Test.YtjjmoonajijnmaaGreatMAutoF
import Derived.Test.YtjjmoonajijnmaaGreatAutoRow
import Derived.Test.YtjjmoonajijnmaaGreatMAutoP
import Derived.Test.YtjjmoonajijnmaaGreatMAutoQ
import Derived.Test.YtjjmoonajijnmaaGreatMAutoB
import Derived.Test.YtjjmoonajijnmaaGreatAutoEnt
import Derived.Test.YtjjmoonajijnmaaGreatMRef
namespace Go.Proofs.YtjjmoonajijnmaaGreat.Au
open Go.RowKit Go.Maps
open Go.Proofs.YtjjmoonajijnmaaGreat.Gr (Gram Sh gv GAt Bx checkN top boxed drawn cell_new cell_old cell_later)
open Go.Proofs.YtjjmoonajijnmaaGreat.Im
set_option linter.unusedVariables false

/-! ### Plain -/

def mkSt (ks : List (List Itm)) (ts : List (List (Int × Int))) : List Sta := (List.range ks.length).map fun j => (stateK ks j, ts.getD j [])
theorem mkSt_len (ks : List (List Itm)) (ts : List (List (Int × Int))) : (mkSt ks ts).length = ks.length := by simp [mkSt]
theorem mkSt_at {ks : List (List Itm)} {ts : List (List (Int × Int))} {i : Nat} (h : i < (mkSt ks ts).length) (h' : i < ks.length) : (mkSt ks ts)[i] = (ks[i], ts.getD i []) := by
  simp only [mkSt, List.getElem_map, List.getElem_range, stateK_at h']
theorem mkSt_snoc {ks : List (List Itm)} {ts : List (List (Int × Int))} (h : ts.length ≤ ks.length) (K : List Itm) : mkSt (ks ++ [K]) ts = mkSt ks ts ++ [(K, [])] := by
  refine List.ext_getElem (by simp [mkSt_len]) fun i h1 h2 => ?_
  rw [mkSt_len, List.length_append, List.length_singleton] at h1
  rw [mkSt_at _ (by simp; omega)]
  by_cases hi : i < ks.length
  · have hi' : i < (mkSt ks ts).length := by rw [mkSt_len]; exact hi
    rw [List.getElem_append_left hi, List.getElem_append_left hi', mkSt_at _ hi]
  · obtain rfl : i = ks.length := by omega
    have hn : (mkSt ks ts).length ≤ ks.length := by rw [mkSt_len]; exact Nat.le_refl _
    rw [List.getElem_append_right (Nat.le_refl _), List.getElem_append_right hn]
    simp only [mkSt_len, Nat.sub_self, List.getElem_cons_zero]
    rw [List.getD_eq_getElem?_getD, List.getElem?_eq_none h]
    rfl
theorem mkSt_put {ks : List (List Itm)} {ts : List (List (Int × Int))} (h : ts.length < ks.length) (tr : List (Int × Int)) : mkSt ks (ts ++ [tr]) = (mkSt ks ts).set ts.length (ks[ts.length], tr) := by
  refine List.ext_getElem (by simp [mkSt_len]) fun i h1 h2 => ?_
  rw [mkSt_len] at h1
  rw [mkSt_at _ h1, List.getElem_set]
  by_cases hi : ts.length = i
  · subst hi
    rw [if_pos rfl, List.getD_eq_getElem?_getD, List.getElem?_append_right (Nat.le_refl _)]
    simp
  · rw [if_neg hi, mkSt_at _ h1, List.getD_eq_getElem?_getD, List.getD_eq_getElem?_getD]
    rcases Nat.lt_trichotomy i ts.length with q | q | q
    · rw [List.getElem?_append_left q]
    · exact absurd q.symm hi
    · rw [List.getElem?_eq_none (by simp; omega), List.getElem?_eq_none (by omega)]
theorem mkSt_done {q : Whole} (h : q.2.length = q.1.length) : mkSt q.1 q.2 = states q := by
  refine List.ext_getElem (by rw [mkSt_len, states_len h]) fun i h1 h2 => ?_
  rw [mkSt_len] at h1
  have e := states_at h h1
  rw [List.getElem?_eq_getElem h2, Option.some.injEq] at e
  rw [e, mkSt_at _ h1, stateK_at h1]
theorem find_mk {ks : List (List Itm)} {ts : List (List (Int × Int))} {K : List Itm} (hn : ks.Nodup) (h : K ∈ ks) : findS (mkSt ks ts) K = (ks.idxOf K : Int) := by
  have hl := List.idxOf_lt_length_of_mem h
  refine findS_hit (k := ks.idxOf K) (fun j hj hlt e => ?_) (by rw [mkSt_len]; exact hl) ?_
  · rw [mkSt_len] at hj
    rw [mkSt_at _ hj] at e
    have e' : ks[j] = K := e
    have := hn.idxOf_getElem j hj
    rw [e'] at this
    omega
  · rw [mkSt_at _ hl]
    exact List.getElem_idxOf hl
theorem find_no {ks : List (List Itm)} {ts : List (List (Int × Int))} {K : List Itm} (h : K ∉ ks) : findS (mkSt ks ts) K = -1 := by
  refine findS_end (k := (mkSt ks ts).length) (fun j hj _ e => ?_) (Nat.lt_irrefl _)
  rw [mkSt_len] at hj
  rw [mkSt_at _ hj] at e
  exact h (e ▸ List.getElem_mem hj)
theorem small_mk {ks : List (List Itm)} {ts : List (List (Int × Int))} (h : ks.length ≤ 1000000) (h1 : ∀ k ∈ ks, k.length ≤ 1000000) (h2 : ∀ t ∈ ts, t.length ≤ 1000000) : Small (mkSt ks ts) := by
  refine ⟨by rw [mkSt_len]; exact h, fun s hs => ?_, fun s hs => ?_⟩
  · obtain ⟨i, hi, rfl⟩ := List.mem_iff_getElem.1 hs
    rw [mkSt_at hi (by rw [mkSt_len] at hi; exact hi)]
    exact h1 _ (List.getElem_mem _)
  · obtain ⟨i, hi, rfl⟩ := List.mem_iff_getElem.1 hs
    rw [mkSt_at hi (by rw [mkSt_len] at hi; exact hi)]
    dsimp only
    rw [List.getD_eq_getElem?_getD]
    cases e : ts[i]? with
    | none => simp
    | some t => exact h2 t (List.mem_of_getElem? e)

/-! ### Two rows beside one another -/

/-- A list's value, in none of the blocks of two rows. -/
def L2 (Y : List Itm) (u v5 v8 : Value) (w : World) : Prop := ∃ a c, u = .slice a Y.length c ∧ Y.length ≤ c ∧ ItsA a Y w ∧ (Y ≠ [] → ∀ b o, a = some ⟨b, o, none⟩ → v5.ownBlock ≠ some b ∧ v8.ownBlock ≠ some b)
theorem L2.one {Y : List Itm} {u v5 v8 : Value} {w : World} (h : L2 Y u v5 v8 w) : LOk Y u v5 w := by
  obtain ⟨a, c, h1, h2, h3, h4⟩ := h
  exact ⟨a, c, h1, h2, h3, fun hn b o e => (h4 hn b o e).1⟩
theorem L2.to {Y : List Itm} {u v5 v8 v5' v8' : Value} {w w' : World} (h : L2 Y u v5 v8 w) (hb : ∀ b, b < w.heap.size → v5.ownBlock ≠ some b → v8.ownBlock ≠ some b → w'.heap[b]? = w.heap[b]?)
    (hv : ∀ b, b < w.heap.size → v5.ownBlock ≠ some b → v8.ownBlock ≠ some b → v5'.ownBlock ≠ some b ∧ v8'.ownBlock ≠ some b) : L2 Y u v5' v8' w' := by
  obtain ⟨a, c, h1, h2, h3, h4⟩ := h
  by_cases hn : Y = []
  · subst hn
    exact ⟨a, c, h1, h2, .nil _ _, fun q => absurd rfl q⟩
  · exact ⟨a, c, h1, h2, h3.keep fun b o e => hb b (its_lt h3 hn e) (h4 hn b o e).1 (h4 hn b o e).2, fun _ b o e => hv b (its_lt h3 hn e) (h4 hn b o e).1 (h4 hn b o e).2⟩
theorem L2.went {Y : List Itm} {u v5 v8 : Value} {w w' : World} (h : L2 Y u v5 v8 w) (hb : Below w.heap.size w w') : L2 Y u v5 v8 w' := h.to (fun b hl _ _ => hb.block b hl) fun _ _ p q => ⟨p, q⟩
theorem own_new {v v' : Value} {m : Nat} (hv : v'.ownBlock = v.ownBlock ∨ v'.ownBlock = some m) {b : Nat} (hb : b < m) (h : v.ownBlock ≠ some b) : v'.ownBlock ≠ some b := fun e => by
  rcases hv with q | q
  · exact h (q.symm.trans e)
  · rw [q] at e
    injection e with e
    omega
theorem L2.grow5 {Y : List Itm} {u v5 v8 v5' : Value} {w w' : World} (h : L2 Y u v5 v8 w) (hg : w.grownBy w' v5.ownBlock) (hv : v5'.ownBlock = v5.ownBlock ∨ v5'.ownBlock = some w.heap.size) : L2 Y u v5' v8 w' :=
  h.to (fun b hl p _ => hg.block b hl fun e => p e.symm) fun b hl p q => ⟨own_new hv hl p, q⟩
theorem L2.grow8 {Y : List Itm} {u v5 v8 v8' : Value} {w w' : World} (h : L2 Y u v5 v8 w) (hg : w.grownBy w' v8.ownBlock) (hv : v8'.ownBlock = v8.ownBlock ∨ v8'.ownBlock = some w.heap.size) : L2 Y u v5 v8' w' :=
  h.to (fun b hl _ q => hg.block b hl fun e => q e.symm) fun b hl p q => ⟨p, own_new hv hl q⟩

/-- Half of it in memory: the states' row, the row of the transitions of the one in work, its closure. -/
structure RbH (TS TT : TypeId) (W : World) (h : Sh) (G : Gram) (ts : List (List (Int × Int))) (C : List Itm) (cv : Value) (p : Half) (v5 v8 : Value) (wr : World) : Prop where
  bx : Bx W h G wr
  sts : ∃ L : List StC, L.map Prod.fst = mkSt p.1 ts ∧ wr.ownsRow (W.heap.size + 1) TS 2 v5 L.length (L.flatMap sc) ∧ ∀ x ∈ L, L2 x.1.1 x.2.1 v5 v8 wr ∧ L2 x.1.2 x.2.2 v5 v8 wr
  tr : ItsV TT (W.heap.size + 1) p.2 v8 wr
  off : ∀ g, v8.ownBlock = some g → v5.ownBlock ≠ some g
  clo : L2 C cv v5 v8 wr
theorem RbH.went {TS TT : TypeId} {W : World} {h : Sh} {G : Gram} {ts : List (List (Int × Int))} {C : List Itm} {cv : Value} {p : Half} {v5 v8 : Value} {w w' : World} (k : RbH TS TT W h G ts C cv p v5 v8 w) (hb : Below w.heap.size w w') : RbH TS TT W h G ts C cv p v5 v8 w' := by
  obtain ⟨L, e, r, l⟩ := k.sts
  exact ⟨k.bx.went hb, ⟨L, e, Sep.ownsRow_at r fun g hg => hb.block g (r.lt g hg).2, fun x hx => ⟨(l x hx).1.went hb, (l x hx).2.went hb⟩⟩, k.tr.went hb, k.off, k.clo.went hb⟩
/-- They read as states. -/
theorem RbH.at {TS TT : TypeId} {W : World} {h : Sh} {G : Gram} {ts : List (List (Int × Int))} {C : List Itm} {cv : Value} {p : Half} {v5 v8 : Value} {w : World} (k : RbH TS TT W h G ts C cv p v5 v8 w) : ∃ a c, v5 = .slice a p.1.length c ∧ p.1.length ≤ c ∧ StaA a (mkSt p.1 ts) w := by
  obtain ⟨L, e, r, l⟩ := k.sts
  have V : StV TS (W.heap.size + 1) L v5 w := ⟨r, fun x hx => ⟨(l x hx).1.one, (l x hx).2.one⟩⟩
  obtain ⟨a, c, e1, h1⟩ := V.len
  have hl : L.length = p.1.length := by
    have := congrArg List.length e
    rwa [List.length_map, mkSt_len] at this
  subst e1
  exact ⟨a, c, by rw [hl], by omega, e ▸ V.at⟩
/-- A state more. -/
theorem RbH.state {TS TT : TypeId} {W : World} {h : Sh} {G : Gram} {ts : List (List (Int × Int))} {C : List Itm} {cv : Value} {p : Half} {v5 v8 v5' : Value} {w w' : World} (k : RbH TS TT W h G ts C cv p v5 v8 w) (hts : ts.length ≤ p.1.length) {K : List Itm} {u : Value} (hu : L2 K u v5 v8 w)
    {L : List StC} (e : L.map Prod.fst = mkSt p.1 ts) (r : w.ownsRow (W.heap.size + 1) TS 2 v5 L.length (L.flatMap sc)) (l : ∀ x ∈ L, L2 x.1.1 x.2.1 v5 v8 w ∧ L2 x.1.2 x.2.2 v5 v8 w)
    (hr : w'.ownsRow (W.heap.size + 1) TS 2 v5' (L.length + 1) (L.flatMap sc ++ [u, .slice none 0 0])) (hg : w.grownBy w' v5.ownBlock) (hv : v5'.ownBlock = v5.ownBlock ∨ v5'.ownBlock = some w.heap.size) :
    RbH TS TT W h G ts C cv (p.1 ++ [K], p.2) v5' v8 w' := by
  have own5 : ∀ g, v5.ownBlock = some g → W.heap.size + 1 ≤ g ∧ g < w.heap.size := fun g hg' => r.lt g hg'
  have own8 : ∀ g, v8.ownBlock = some g → W.heap.size + 1 ≤ g ∧ g < w.heap.size := fun g hg' => World.ownsRow.lt k.tr g hg'
  refine ⟨k.bx.grown hg fun g q => (own5 g q).1, ⟨L ++ [((K, []), (u, .slice none 0 0))], ?_, ?_, fun x hx => ?_⟩, ?_, fun g q q5 => ?_, k.clo.grow5 hg hv⟩
  · rw [List.map_append, e, mkSt_snoc hts]
    rfl
  · rw [List.length_append, List.flatMap_append]
    simpa [sc] using hr
  · rcases List.mem_append.1 hx with q | q
    · exact ⟨(l x q).1.grow5 hg hv, (l x q).2.grow5 hg hv⟩
    · rw [List.mem_singleton] at q
      subst q
      exact ⟨hu.grow5 hg hv, none, 0, rfl, Nat.le_refl _, .nil _ _, fun q => absurd rfl q⟩
  · refine k.tr.keep fun g q => hg.block g (own8 g q).2 fun e5 => k.off g q e5.symm
  · exact own_new hv (own8 g q).2 (k.off g q) q5
/-- A transition more. -/
theorem RbH.trans {TS TT : TypeId} {W : World} {h : Sh} {G : Gram} {ts : List (List (Int × Int))} {C : List Itm} {cv : Value} {p : Half} {v5 v8 v8' : Value} {w w' : World} (k : RbH TS TT W h G ts C cv p v5 v8 w) {s t : Int}
    (hr : w'.ownsRow (W.heap.size + 1) TT 2 v8' (p.2.length + 1) (p.2.flatMap ic ++ ic (s, t))) (hg : w.grownBy w' v8.ownBlock) (hv : v8'.ownBlock = v8.ownBlock ∨ v8'.ownBlock = some w.heap.size) :
    RbH TS TT W h G ts C cv (p.1, p.2 ++ [(s, t)]) v5 v8' w' := by
  obtain ⟨L, e, r, l⟩ := k.sts
  have own8 : ∀ g, v8.ownBlock = some g → W.heap.size + 1 ≤ g ∧ g < w.heap.size := fun g hg' => World.ownsRow.lt k.tr g hg'
  refine ⟨k.bx.grown hg fun g q => (own8 g q).1, ⟨L, e, Sep.ownsRow_at r fun g q => hg.block g (r.lt g q).2 fun e8 => k.off g e8.symm q, fun x hx => ⟨(l x hx).1.grow8 hg hv, (l x hx).2.grow8 hg hv⟩⟩, ItsV.of_append (Y := [(s, t)]) (by simpa using hr) rfl rfl, fun g q q5 => ?_, k.clo.grow8 hg hv⟩
  rcases hv with a | a
  · exact k.off g (a ▸ q) q5
  · rw [a] at q
    injection q with q
    have := (r.lt g q5).2
    omega

/-! ### Between two rounds -/

structure RbR (TS : TypeId) (W : World) (h : Sh) (G : Gram) (q : Whole) (v5 : Value) (wr : World) : Prop where
  bx : Bx W h G wr
  sts : ∃ L : List StC, L.map Prod.fst = mkSt q.1 q.2 ∧ StV TS (W.heap.size + 1) L v5 wr
theorem RbR.went {TS : TypeId} {W : World} {h : Sh} {G : Gram} {q : Whole} {v5 : Value} {w w' : World} (k : RbR TS W h G q v5 w) (hb : Below w.heap.size w w') : RbR TS W h G q v5 w' := by
  obtain ⟨L, e, V⟩ := k.sts
  exact ⟨k.bx.went hb, L, e, V.went hb⟩
theorem RbR.at {TS : TypeId} {W : World} {h : Sh} {G : Gram} {q : Whole} {v5 : Value} {w : World} (k : RbR TS W h G q v5 w) : ∃ a c, v5 = .slice a q.1.length c ∧ q.1.length ≤ c ∧ StaA a (mkSt q.1 q.2) w := by
  obtain ⟨L, e, V⟩ := k.sts
  obtain ⟨a, c, e1, h1⟩ := V.len
  have hl : L.length = q.1.length := by
    have := congrArg List.length e
    rwa [List.length_map, mkSt_len] at this
  subst e1
  exact ⟨a, c, by rw [hl], by omega, e ▸ V.at⟩
/-- The row's own block, and that it is older than the world's end. -/
theorem RbR.lt {TS : TypeId} {W : World} {h : Sh} {G : Gram} {q : Whole} {v5 : Value} {w : World} (k : RbR TS W h G q v5 w) : ∀ g, v5.ownBlock = some g → g < w.heap.size := fun g hg => by
  obtain ⟨L, e, V⟩ := k.sts
  exact (V.row.lt g hg).2
/-- The work on a state begins. -/
theorem RbR.begin {TS TT : TypeId} {W : World} {h : Sh} {G : Gram} {q : Whole} {v5 : Value} {w w' : World} (k : RbR TS W h G q v5 w) (hb : Below w.heap.size w w') {C : List Itm} {a : Option Addr} {c : Nat} (hc : C.length ≤ c) (hC : ItsA a C w') (hn : ∀ b o, a = some ⟨b, o, none⟩ → w.heap.size ≤ b) :
    RbH TS TT W h G q.2 C (.slice a C.length c) (q.1, []) v5 (.slice none 0 0) w' := by
  obtain ⟨L, e, V⟩ := (k.went hb).sts
  refine ⟨k.bx.went hb, ⟨L, e, V.row, fun x hx => ?_⟩, ItsV.nil _ _ _, fun g q => by simp [Value.ownBlock] at q, a, c, rfl, hc, hC, fun _ b o e' => ⟨fun q => ?_, by simp [Value.ownBlock]⟩⟩
  · have up : ∀ {Y : List Itm} {u : Value}, LOk Y u v5 w' → L2 Y u v5 (.slice none 0 0) w' := fun {Y u} ⟨a, c, h1, h2, h3, h4⟩ => ⟨a, c, h1, h2, h3, fun hn b o e => ⟨h4 hn b o e, by simp [Value.ownBlock]⟩⟩
    exact ⟨up (V.lists x hx).1, up (V.lists x hx).2⟩
  · have := k.lt b q
    have := hn b o e'
    omega
/-- It ends: the transitions are put in their place. -/
theorem RbH.put {TS TT : TypeId} {W : World} {h : Sh} {G : Gram} {ts : List (List (Int × Int))} {C : List Itm} {cv : Value} {p : Half} {g c : Nat} {v8 : Value} {w : World} (k : RbH TS TT W h G ts C cv p (.slice (some ⟨g, 0, none⟩) p.1.length c) v8 w) (hts : ts.length < p.1.length) :
    RbR TS W h G (p.1, ts ++ [p.2]) (.slice (some ⟨g, 0, none⟩) p.1.length c) (w.setCell ⟨g, ts.length * 2 + 1, none⟩ v8) ∧ (∃ u, w.cell? ⟨g, ts.length * 2 + 1, none⟩ = some u) ∧ w.frozen? ⟨g, ts.length * 2 + 1, none⟩ = false := by
  obtain ⟨L, e, r, l⟩ := k.sts
  have hl : L.length = p.1.length := by
    have := congrArg List.length e
    rwa [List.length_map, mkSt_len] at this
  have hi : ts.length < L.length := by omega
  rw [← hl] at r l ⊢
  have V : StV TS (W.heap.size + 1) L (.slice (some ⟨g, 0, none⟩) L.length c) w := ⟨r, fun x hx => ⟨(l x hx).1.one, (l x hx).2.one⟩⟩
  have hT : LOk p.2 v8 (.slice (some ⟨g, 0, none⟩) L.length c) w := by
    obtain ⟨a8, c8, e8, h8⟩ := k.tr.shape
    refine ⟨a8, c8, e8, h8, (e8 ▸ k.tr).reads, fun _ b o q q5 => ?_⟩
    have : (.slice (some ⟨g, 0, none⟩) p.1.length c : Value).ownBlock = some b := q5
    exact k.off b (by rw [e8, q]; rfl) this
  have hg : W.heap.size + 1 ≤ g := (r.lt g rfl).1
  have P := V.put hi hT
  refine ⟨⟨?_, _, ?_, P⟩, ?_, ?_⟩
  · have f : Sep.Fr (· = g) w (w.setCell ⟨g, ts.length * 2 + 1, none⟩ v8) := (Sep.Fr.refl (fun k => k = g) w).setCell ⟨g, ts.length * 2 + 1, none⟩ rfl _
    have hn : ¬ W.heap.size = g := by omega
    exact ⟨k.bx.below.trans (f.below (fun i hi => by omega) k.bx.below.size), ⟨f.cell k.bx.box.x0 hn, f.cell k.bx.box.x1 hn, f.cell k.bx.box.x2 hn, f.cell k.bx.box.x3 hn⟩⟩
  · rw [List.map_set, e, mkSt_put hts]
    congr 2
    have e1 : (L.map Prod.fst)[ts.length]'(by simpa using hi) = (mkSt p.1 ts)[ts.length]'(by rw [mkSt_len]; exact hts) := by simp only [e]
    rw [List.getElem_map, mkSt_at _ hts] at e1
    rw [e1]
  · have := World.ownsRow.cells r (g := g) rfl (ts.length * 2 + 1) _ (Rw.two_at sc sc_length L ts.length hi 1 (by omega))
    rw [WideShapes.add_plain] at this
    exact ⟨_, by simpa using this⟩
  · rcases r.2 with ⟨q, _⟩ | ⟨g', cap, cur, q, _, hgg, _⟩
    · simp at q
    · simp only [Value.slice.injEq, Option.some.injEq, Addr.mk.injEq, and_true] at q
      obtain ⟨rfl, _⟩ := q
      simp [World.frozen?, hgg]

end Go.Proofs.YtjjmoonajijnmaaGreat.Au

namespace Go.Proofs.YtjjmoonajijnmaaGreat.Au
open Go.RowKit Go.Maps
open Go.Proofs.YtjjmoonajijnmaaGreat.Gr (Gram Sh gv GAt Bx checkN top boxed drawn cell_new cell_old cell_later bool_of int_of)
open Go.Proofs.YtjjmoonajijnmaaGreat.Im
open Go.Proofs.YtjjmoonajijnmaaGreat.Rw (wpList_append_rows)
set_option linter.unusedVariables false

theorem transL_len (G : Gram) (ks : List (List Itm)) (c : List Itm) (n : Nat) : (transL G ks c n).length ≤ n := by
  unfold transL
  exact Nat.le_trans (List.length_filterMap_le _ _) (by rw [List.length_range]; exact Nat.le_refl _)
theorem half_two {G : Gram} {c : List Itm} {ks : List (List Itm)} (h : ks.Nodup) (n : Nat) : (oneTo G c n (ks, [])).2.length ≤ n := by
  rw [(half_all (G := G) (c := c) h n).trans]
  exact transL_len _ _ _ _
/-- The states of the half are short, and stand once. -/
theorem half_short {G : Gram} (hv : checkN G = 0) {q : Whole} (h : WholeOk G (top G) q) (c : List Itm) (n : Nat) : (oneTo G c n (q.1, [])).1.Nodup ∧ ∀ x ∈ (oneTo G c n (q.1, [])).1, x.length ≤ 2709 := by
  have H := half_all (G := G) (c := c) h.nodup n
  refine ⟨H.nodup, fun x hx => ?_⟩
  obtain ⟨more, e, hm⟩ := H.front
  rw [e] at hx
  rcases List.mem_append.1 hx with k | k
  · exact Nat.le_trans (srt_len (h.good x k).2.1 (h.good x k).2.2) (all_small hv)
  · obtain ⟨i, _, h1, _⟩ := hm x k
    rw [h1]
    exact (st_fit hv c _).2
theorem whole_trans {G : Gram} {q : Whole} (h : WholeOk G (top G) q) : ∀ t ∈ q.2, t.length ≤ top G := fun t ht => by
  obtain ⟨i, hi, rfl⟩ := List.mem_iff_getElem.1 ht
  have := h.trans i hi
  rw [List.getD_eq_getElem?_getD, List.getElem?_eq_getElem hi] at this
  rw [show q.2[i] = transL G q.1 (clL G (stateK q.1 i)) (top G) from this]
  exact transL_len _ _ _ _
theorem half_small {G : Gram} (hv : checkN G = 0) {q : Whole} (h : WholeOk G (top G) q) (c : List Itm) (n : Nat) (hn : n ≤ top G) (hl : q.1.length ≤ 2000) : Small (mkSt (oneTo G c n (q.1, [])).1 q.2) := by
  have h1 := oneTo_len G c q.1 n
  have h2 := top_small hv
  exact small_mk (by omega) (fun k hk => Nat.le_trans ((half_short hv h c n).2 k hk) (by omega)) fun t ht => Nat.le_trans (whole_trans h t ht) (by omega)
theorem RbH.addr {TS TT : TypeId} {W : World} {h : Sh} {G : Gram} {ts : List (List (Int × Int))} {C : List Itm} {cv : Value} {p : Half} {v5 v8 : Value} {w : World} (k : RbH TS TT W h G ts C cv p v5 v8 w) (h0 : 0 < p.1.length) : ∃ g c, v5 = .slice (some ⟨g, 0, none⟩) p.1.length c := by
  obtain ⟨L, e, r, l⟩ := k.sts
  have hl : L.length = p.1.length := by
    have := congrArg List.length e
    rwa [List.length_map, mkSt_len] at this
  rcases r.2 with ⟨_, q⟩ | ⟨g, cap, cur, q, _⟩
  · omega
  · exact ⟨g, cap, by rw [q, hl]⟩
theorem RbH.own5 {TS TT : TypeId} {W : World} {h : Sh} {G : Gram} {ts : List (List (Int × Int))} {C : List Itm} {cv : Value} {p : Half} {v5 v8 : Value} {w : World} (k : RbH TS TT W h G ts C cv p v5 v8 w) : ∀ g, v5.ownBlock = some g → g < w.heap.size := fun g hg => by
  obtain ⟨L, e, r, l⟩ := k.sts
  exact (r.lt g hg).2
theorem RbH.own8 {TS TT : TypeId} {W : World} {h : Sh} {G : Gram} {ts : List (List (Int × Int))} {C : List Itm} {cv : Value} {p : Half} {v5 v8 : Value} {w : World} (k : RbH TS TT W h G ts C cv p v5 v8 w) : ∀ g, v8.ownBlock = some g → g < w.heap.size := fun g hg => (World.ownsRow.lt k.tr g hg).2
/-- A new list of items. -/
theorem RbH.new {TS TT : TypeId} {W : World} {h : Sh} {G : Gram} {ts : List (List (Int × Int))} {C : List Itm} {cv : Value} {p : Half} {v5 v8 : Value} {w w' : World} (k : RbH TS TT W h G ts C cv p v5 v8 w) {K : List Itm} {a : Option Addr} {c : Nat} (hc : K.length ≤ c) (hK : ItsA a K w') (hn : Nw w a) : L2 K (.slice a K.length c) v5 v8 w' :=
  ⟨a, c, rfl, hc, hK, fun _ b o e => by
    have h1 := hn b o e
    exact ⟨fun q => by have := k.own5 b q; omega, fun q => by have := k.own8 b q; omega⟩⟩

/-- The plain Build begins. -/
theorem rb_start {TS : TypeId} {w w3 : World} {h : Sh} {G : Gram} {Y : List Itm} {a : Option Addr} {c : Nat} (bx : Bx w h G w3) (e : Y = [((G.rules.length : Int), 0)]) (hc : Y.length ≤ c) (hY : ItsA a Y w3) :
    RbR TS w h G (runs G (top G) 0) (.slice (some ⟨w3.heap.size, 0, none⟩) 1 1) (w3.alloc (.cells #[.slice a Y.length c, .slice none 0 0] TS)) := by
  have hb := boxed w3 (.cells #[.slice a Y.length c, .slice none 0 0] TS)
  have hlt : w.heap.size < w3.heap.size := World.block_lt_of_cell? w3 ⟨w.heap.size, 0, none⟩ bx.box.x0
  refine ⟨bx.went hb, [((Y, []), (.slice a Y.length c, .slice none 0 0))], ?_, ?_, fun x hx => ?_⟩
  · subst e
    rfl
  · exact state_one TS (w.heap.size + 1) w3.heap.size (.slice a Y.length c) (.slice none 0 0) w3 rfl (by omega) rfl rfl
  · rw [List.mem_singleton] at hx
    subst hx
    refine ⟨⟨a, c, rfl, hc, hY.went hb, fun hn b o q q2 => ?_⟩, LOk.nil _ _⟩
    have := its_lt hY hn q
    have h2 : some w3.heap.size = some b := q2
    injection h2 with h2
    omega

end Go.Proofs.YtjjmoonajijnmaaGreat.Au

namespace Go.Proofs.YtjjmoonajijnmaaGreat.Au
open Go.RowKit Go.Maps
open Go.Proofs.YtjjmoonajijnmaaGreat.Gr (Gram Sh gv GAt Bx checkN top boxed drawn cell_new cell_old cell_later bool_of int_of)
open Go.Proofs.YtjjmoonajijnmaaGreat.Im
open Go.Proofs.YtjjmoonajijnmaaGreat.Rw (wpList_append_rows)
set_option linter.unusedVariables false

set_option maxRecDepth 100000 in
set_option maxHeartbeats 8000000 in
theorem rbuild_any (h : Sh) (G : Gram) (w : World) (k : GAt h G w) :
    Calls Tryz.prog 7 #[gv h G] w (BuildGave G w) := by
  have C0 := Lib.hid (fun w1 (b : Below w.heap.size w w1) => Gr.rcheck_any h G w1 (k.went b))
  have X := Lib.hid (Bx.start h G w 25)
  by_cases hc : checkN G = 0
  · have BG := Lib.hid (fun w1 (b : Below w.heap.size w w1) => rbegin_any h G w1 (k.went b))
    have TP := Lib.hid (fun w1 (b : Below w.heap.size w w1) => Gr.rtop_any h G w1 (k.went b))
    have hrl : G.rules.length ≤ 65536 := by
      have := (many_len (Gr.check_ok hc).1).1
      omega
    have CL := Lib.hid (fun w1 (b : Below w.heap.size w w1) (L : List Itm) (a : Option Addr) (c : Nat) (kl : ItsA a L w1) (hL : L.length ≤ 10000) => rclose_new h G hc L a c w1 (k.went b) kl hL hrl)
    have ST := Lib.hid (fun w1 (b : Below w.heap.size w w1) (L : List Itm) (a : Option Addr) (c : Nat) (s : Int) (kl : ItsA a L w1) (hL : L.length ≤ 10000) => rstep_new h G hc L a c s w1 (k.went b) kl hL)
    have ht := top_small hc
    rw [hc] at C0
    clear k
    unfold gv at *
    go_enter Tryz.func7, Tryz.ntmps7
    go_wp2_with (first
      | (go_at_call 17; refine (C0.out _ X.out.below).mono ?_; rintro e w1 ⟨rfl, hb⟩; have X1 := Lib.hid (X.out.went hb); obtain ⟨g0, g1, g2, g3⟩ := X1.out.box; clear hb)
      | (go_at_call 18; refine (BG.out _ X1.out.below).mono ?_; rintro e w3 ⟨Y, a3, c3, rfl, y1, y2, y3⟩; have HY := Lib.hid (show Y = [((G.rules.length : Int), 0)] from y1.uniq ⟨srt_one _, fun x => List.mem_singleton⟩); have X3 := Lib.hid (X1.out.went y3); have SC := Lib.hid (ItsV.shape y2); have IY := Lib.hid (ItsV.reads y2); clear y1 y2 y3 g0 g1 g2 g3))
    have hcap : Y.length ≤ c3 := by
      obtain ⟨a', c', e, hc'⟩ := SC.out
      simp only [Value.slice.injEq] at e
      rw [e.2.2]
      exact hc'
    have R0 := Lib.hid (rb_start (TS := 55) X3.out HY.out hcap IY.out)
    clear C0 BG X X1 SC IY HY hcap
    go_loopw [5, 6, 7, 8, 9, 10, 11] (fun v i _ _ _ _ _ wr => ∃ m : Nat, i = .int .i64 m ∧ m ≤ 2000 ∧ RbR 55 w h G (runs G (top G) m) v wr ∧ Going G m ∧ (runs G (top G) m).1.length ≤ 2000) (fun _ i _ _ _ _ _ _ => 2001 - (intOf i).toNat)
    case atStart => exact ⟨0, rfl, Nat.zero_le _, R0.out, going_zero G, by simp [runs]⟩
    case round =>
      obtain ⟨m, rfl, hm, hR, hg, hfew⟩ := hrel
      have R := Lib.hid hR
      clear hR R0
      have hok := Lib.hid (runs_ok G (top G) m)
      have hgl := hg.len
      obtain ⟨a5, c5, rfl, hc5, hS5⟩ := R.out.at
      by_cases hlt : m < (runs G (top G) m).1.length
      · have NX := Lib.hid (fun (hs : ¬ 2000 < (runs G (top G) (m + 1)).1.length) => (show Going G (m + 1) ∧ (runs G (top G) (m + 1)).1.length ≤ 2000 from ⟨hg.next (by unfold Stop; omega), by omega⟩))
        have MY := Lib.hid (fun (hs : 2000 < (runs G (top G) (m + 1)).1.length) => (hg.next (show ¬ Stop (runs G (top G) m) from by unfold Stop; omega)).stop (.inl hs))
        have RD := Lib.hid (hg.round hlt)
        have hst := stateK_at hlt
        have hgood := hok.out.good _ (stateK_mem hlt)
        obtain ⟨b0, o0, a1, c1, a2, c2, ea, z1, z2, i1, i2, l1, l2⟩ := hS5 m (by rw [mkSt_len]; exact hlt)
        rw [mkSt_at _ hlt, ← hst] at z1 i1 l1
        dsimp only at z1 i1 l1
        subst ea
        have hKl : (stateK (runs G (top G) m).1 m).length ≤ 10000 := Nat.le_trans (srt_len hgood.2.1 hgood.2.2) (Nat.le_trans (all_small hc) (by omega))
        have CI := Lib.hid (fun w1 (b : Below wr.heap.size wr w1) => CL.out w1 (R.out.bx.went b).below _ a1 c1 (i1.went b) hKl)
        have HQ := Lib.hid (fun w' (b : Below wr.heap.size wr w') => (show w'.cell? ⟨w.heap.size, 0, none⟩ = _ ∧ w'.cell? ⟨w.heap.size, 1, none⟩ = _ ∧ w'.cell? ⟨w.heap.size, 2, none⟩ = _ ∧ w'.cell? ⟨w.heap.size, 3, none⟩ = _ ∧ w'.cell? ⟨b0, o0 + m * 2, none⟩ = some (.slice a1 (stateK (runs G (top G) m).1 m).length c1) from ⟨(R.out.bx.went b).box.x0, (R.out.bx.went b).box.x1, (R.out.bx.went b).box.x2, (R.out.bx.went b).box.x3, cell_later b z1⟩))
        have kA := drawn wr
        have TL := Lib.hid (hgl)
        clear z1 z2 i1 i2 l1 l2 hS5 hst hgood hgl hKl
        generalize hKm : stateK (runs G (top G) m).1 m = Km at *
        clear hKm
        go_wp2_with fail
        go_region_held3 (fun w' => w'.cell? ⟨w.heap.size, 0, none⟩ = some (.slice h.a1 G.terms.length h.c1) ∧ w'.cell? ⟨w.heap.size, 1, none⟩ = some (.slice h.a2 G.nons.length h.c2) ∧ w'.cell? ⟨w.heap.size, 2, none⟩ = some (.slice h.a3 G.rules.length h.c3) ∧ w'.cell? ⟨w.heap.size, 3, none⟩ = some (.int .i64 G.start) ∧ w'.cell? ⟨b0, o0 + m * 2, none⟩ = some (.slice a1 Km.length c1))
          (exact HQ.out _ (by assumption))
          (first
            | (go_at_call 19; refine (CI.out _ kA).mono ?_; rintro e w4 ⟨C, a6, c6, rfl, hcc, hC, hCA, hb, hnw⟩; have HC := Lib.hid (hC.uniq (is_cl G Km)); have k4 : Below wr.heap.size wr w4 := Gr.step kA hb; have H0 := Lib.hid (RbR.begin (TT := 59) R.out k4 hcc hCA hnw); clear hb hC hCA hnw)
            | fail)
        have hCl : C.length ≤ 10000 := by
          rw [HC.out]
          exact Nat.le_trans (srt_len (is_cl G Km).1 fun x hx => clo_right (((is_cl G Km).2 x).1 hx)) (Nat.le_trans (all_small hc) (by omega))
        clear HQ CI kA R k4
        have OS := Lib.hid (fun n => half_short hc hok.out C n)
        have SMK := Lib.hid (fun n hn => half_small hc hok.out C n hn hfew)
        have TW := Lib.hid (fun n => half_two (G := G) (c := C) hok.out.nodup n)
        have OL := Lib.hid (fun n => oneTo_len G C (runs G (top G) m).1 n)
        have ON := Lib.hid (fun n => oneTo_succ G C n ((runs G (top G) m).1, []))
        have RE := Lib.hid (show runs G (top G) (m + 1) = ((oneTo G C (top G) ((runs G (top G) m).1, [])).1, (runs G (top G) m).2 ++ [(oneTo G C (top G) ((runs G (top G) m).1, [])).2]) from by rw [HC.out]; exact RD.out)
        have M0 := Lib.hid (fun n => half_mono G C ((runs G (top G) m).1, []) 0 n)
        have htl := TL.out
        clear RD HC hok
        generalize hts : (runs G (top G) m).2 = ts at *
        generalize hks : (runs G (top G) m).1 = ks at *
        clear hts hks
        go_wp2_with fail
        go_loopw [5, 8, 9, 10, 11] (fun v5 v8 s _ _ wx => ∃ j : Nat, s = .int .i64 ((j : Int) + 1) ∧ j ≤ top G ∧ RbH 55 59 w h G ts C (.slice a6 C.length c6) (oneTo G C j (ks, [])) v5 v8 wx) (fun _ _ s _ _ _ => top G + 2 - (intOf s).toNat)
        case atStart => exact ⟨0, rfl, Nat.zero_le _, H0.out⟩
        case round =>
          obtain ⟨j, rfl, hj, hH⟩ := hrel
          have H := Lib.hid hH
          clear hH H0
          obtain ⟨g0, g1, g2, g3⟩ := H.out.bx.box
          have TP2 := Lib.hid (TP.out wr H.out.bx.below)
          by_cases hlt : j < top G
          · obtain ⟨av, cv, rfl, hcv, hSv⟩ := H.out.at
            have SV := Lib.hid hSv
            obtain ⟨a8, c8, rfl, hc8⟩ := H.out.tr.shape
            have hp2 := TW.out j
            have hp1 := OL.out j
            have hshort := (OS.out j).1
            have SM := Lib.hid (SMK.out j (by omega))
            have hge := M0.out j
            rw [Nat.zero_add] at hge
            have hge2 : ks.length ≤ (oneTo G C j (ks, [])).1.length := hge
            have es : ((j + 1 : Nat) : Int) = (j : Int) + 1 := by omega
            have N0 := Lib.hid (fun (h0 : stL G C ((j : Int) + 1) = []) => (show oneTo G C (j + 1) (ks, []) = oneTo G C j (ks, []) from by rw [ON.out, oneS_none (by rw [es]; exact h0)]))
            have N1 := Lib.hid (fun (h0 : stL G C ((j : Int) + 1) ≠ []) (h1 : stL G C ((j : Int) + 1) ∈ (oneTo G C j (ks, [])).1) => (show oneTo G C (j + 1) (ks, []) = _ from by rw [ON.out, oneS_old (by rw [es]; exact h0) (by rw [es]; exact h1), es]))
            have N2 := Lib.hid (fun (h0 : stL G C ((j : Int) + 1) ≠ []) (h1 : stL G C ((j : Int) + 1) ∉ (oneTo G C j (ks, [])).1) => (show oneTo G C (j + 1) (ks, []) = _ from by rw [ON.out, oneS_new (by rw [es]; exact h0) (by rw [es]; exact h1), es]))
            clear hge es OS TW OL SMK hSv
            obtain ⟨p', hp'⟩ : ∃ p', oneTo G C (j + 1) (ks, []) = p' := ⟨_, rfl⟩
            have EP := Lib.hid hp'
            rw [hp'] at N0 N1 N2
            clear hp'
            have STH := Lib.hid (fun w1 (b : Below wr.heap.size wr w1) => ST.out w1 (H.out.bx.went b).below C a6 c6 ((j : Int) + 1) (by
              obtain ⟨a, c, e, _, h3, _⟩ := (H.out.went b).clo
              simp only [Value.slice.injEq] at e
              rw [e.1]
              exact h3) hCl)
            generalize oneTo G C j (ks, []) = p at *
            have FK := Lib.hid (find_mk (ts := ts) (K := stL G C ((j : Int) + 1)) hshort)
            have FN := Lib.hid (find_no (ks := p.1) (ts := ts) (K := stL G C ((j : Int) + 1)))
            have IST := Lib.hid (is_st G C ((j : Int) + 1))
            generalize stL G C ((j : Int) + 1) = K at *
            obtain ⟨i0, hi0, hz0, hz1, hz2⟩ := info_parts info_state
            obtain ⟨j0, hj0, hy0, hy1, hy2⟩ := info_parts info_trans
            have hml := mkSt_len p.1 ts
            by_cases h0 : K = []
            · have NE := Lib.hid (N0.out h0)
              have hz : K.length = 0 := by rw [h0]; rfl
              clear N0 N1 N2 FK FN h0
              go_wp2_with (first
                | (go_at_call 20; refine TP2.out.mono ?_; rintro e w5 ⟨rfl, b5⟩; have H5 := Lib.hid (H.out.went b5); obtain ⟨g0, g1, g2, g3⟩ := H5.out.bx.box)
                | (go_at_call 21; refine (STH.out _ b5).mono ?_; rintro e w6 ⟨Y, ak, ck, rfl, hck, hY, hYA, b6, hnw⟩; obtain rfl : Y = K := hY.uniq IST.out; have H6 := Lib.hid (H5.out.went b6); have U6 := Lib.hid (H5.out.new hck hYA hnw); have RK := Lib.hid hYA; have SV6 := Lib.hid (SV.out.went (Gr.step b5 b6)); have FD := Lib.hid (rfind_any (mkSt p.1 ts) Y av ak cv ck w6 SV6.out SM.out hYA); clear hck hY hYA hnw))
              go_roundw
              case rel => exact ⟨j + 1, by go_num, by omega, by rw [EP.out, NE.out]; exact H6.out⟩
              case measure => simp [intOf]; omega
            · have hz : 0 < K.length := List.length_pos_iff.2 h0
              by_cases hin : K ∈ p.1
              · have NE := Lib.hid (N1.out h0 hin)
                have FE := Lib.hid (FK.out hin)
                clear N0 N1 N2 FK FN h0 hin hshort
                generalize p.1.idxOf K = ix at *
                go_wp2_with (first
                  | (go_at_call 20; refine TP2.out.mono ?_; rintro e w5 ⟨rfl, b5⟩; have H5 := Lib.hid (H.out.went b5); obtain ⟨g0, g1, g2, g3⟩ := H5.out.bx.box)
                  | (go_at_call 21; refine (STH.out _ b5).mono ?_; rintro e w6 ⟨Y, ak, ck, rfl, hck, hY, hYA, b6, hnw⟩; obtain rfl : Y = K := hY.uniq IST.out; have H6 := Lib.hid (H5.out.went b6); have U6 := Lib.hid (H5.out.new hck hYA hnw); have RK := Lib.hid hYA; have SV6 := Lib.hid (SV.out.went (Gr.step b5 b6)); have FD := Lib.hid (rfind_any (mkSt p.1 ts) Y av ak cv ck w6 SV6.out SM.out hYA); clear hck hY hYA hnw; have FD2 := Lib.hid (show Calls Tryz.prog 22 #[.slice av p.1.length cv, .slice ak Y.length ck] w6 (Gr.Is (.int .i64 (ix : Int)) w6) from (by have q := FD.out; rw [FE.out, hml] at q; exact q)))
                  | (go_at_call 22; refine FD2.out.mono ?_; rintro e w7 ⟨rfl, b7⟩; have H7 := Lib.hid (H6.out.went b7); have U7 := Lib.hid (U6.out.went b7); have w9e : w7 = w7 := rfl; have H9 := H7; have bT := boxed w7 (.cells #[.int .i64 ((j : Int) + 1), .int .i64 (ix : Int)] 59); have H10 := Lib.hid (H9.out.went bT); have T10 := Lib.hid (show World.ownsRow (w7.alloc (.cells #[.int .i64 ((j : Int) + 1), .int .i64 (ix : Int)] 59)) (w.heap.size + 1) 59 2 (.slice a8 p.2.length c8) p.2.length (p.2.flatMap ic) from H10.out.tr); have h9 : w.heap.size + 1 ≤ w7.heap.size := World.block_lt_of_cell? w7 ⟨w.heap.size, 0, none⟩ H9.out.bx.box.x0; have h10 : w.heap.size + 1 ≤ (w7.alloc (.cells #[.int .i64 ((j : Int) + 1), .int .i64 (ix : Int)] 59)).heap.size := Nat.le_trans h9 bT.size; have ONT := Lib.hid (item_one 59 (w.heap.size + 1) w7.heap.size ((j : Int) + 1, (ix : Int)) w7 rfl h9); clear bT)
                  | (at_builtin; refine wpList_append_rows _ rfl _ _ 53 rfl (w.heap.size + 1) 59 j0 (.agg #[.int .i64 0, .int .i64 0]) 2 16 Tryz.underlying53 hj0 hy0 hy1 hy2 rfl (by decide) _ _ _ rfl T10.out (w.heap.size + 1) _ 1 (ic ((j : Int) + 1, (ix : Int))) rfl ONT.out (ic_one _) (by unfold maxLen; omega) (by omega) h10 ?_; intro v11 w11 hown hg hloc; have H11 := Lib.hid (H10.out.trans hown hg hloc); clear hown hg hloc))
                go_roundw
                case rel => exact ⟨j + 1, by go_num, by omega, by rw [EP.out, NE.out]; exact H11.out⟩
                case measure => simp [intOf]; omega
              · have NE := Lib.hid (N2.out h0 hin)
                have FE := Lib.hid (FN.out hin)
                clear N0 N1 N2 FK FN h0 hin hshort
                go_wp2_with (first
                  | (go_at_call 20; refine TP2.out.mono ?_; rintro e w5 ⟨rfl, b5⟩; have H5 := Lib.hid (H.out.went b5); obtain ⟨g0, g1, g2, g3⟩ := H5.out.bx.box)
                  | (go_at_call 21; refine (STH.out _ b5).mono ?_; rintro e w6 ⟨Y, ak, ck, rfl, hck, hY, hYA, b6, hnw⟩; obtain rfl : Y = K := hY.uniq IST.out; have H6 := Lib.hid (H5.out.went b6); have U6 := Lib.hid (H5.out.new hck hYA hnw); have RK := Lib.hid hYA; have SV6 := Lib.hid (SV.out.went (Gr.step b5 b6)); have FD := Lib.hid (rfind_any (mkSt p.1 ts) Y av ak cv ck w6 SV6.out SM.out hYA); clear hck hY hYA hnw; have FD2 := Lib.hid (show Calls Tryz.prog 22 #[.slice av p.1.length cv, .slice ak Y.length ck] w6 (Gr.Is (.int .i64 (-1)) w6) from (by have q := FD.out; rw [FE.out, hml] at q; exact q)))
                  | (go_at_call 22; refine FD2.out.mono ?_; rintro e w7 ⟨rfl, b7⟩; have H7 := Lib.hid (H6.out.went b7); have U7 := Lib.hid (U6.out.went b7); have bS := boxed w7 (.cells #[.slice ak Y.length ck, .slice none 0 0] 55); have H8 := Lib.hid (H7.out.went bS); have U8 := Lib.hid (U7.out.went bS); have h7 : w.heap.size + 1 ≤ w7.heap.size := World.block_lt_of_cell? w7 ⟨w.heap.size, 0, none⟩ H7.out.bx.box.x0; have h8 : w.heap.size + 1 ≤ (w7.alloc (.cells #[.slice ak Y.length ck, .slice none 0 0] 55)).heap.size := Nat.le_trans h7 bS.size; have ONS := Lib.hid (state_one 55 (w.heap.size + 1) w7.heap.size (.slice ak Y.length ck) (.slice none 0 0) w7 rfl h7 rfl rfl); obtain ⟨L, eL, rL, lL⟩ := H8.out.sts; have hLl : L.length = p.1.length := (by have q := congrArg List.length eL; rwa [List.length_map, mkSt_len] at q); have EL := Lib.hid eL; have RL := Lib.hid rL; have LL := Lib.hid lL; clear bS eL rL lL)
                  | (at_builtin; refine wpList_append_rows _ rfl _ _ 28 rfl (w.heap.size + 1) 55 i0 (.agg #[.slice none 0 0, .slice none 0 0]) 2 48 Tryz.underlying28 hi0 hz0 hz1 hz2 rfl (by decide) _ L.length _ rfl RL.out (w.heap.size + 1) _ 1 [.slice ak Y.length ck, .slice none 0 0] rfl ONS.out (by simp [Value.oneCell']) (by unfold maxLen; omega) (by omega) h8 ?_; intro v9 w9 hown hg hloc; have H9 := Lib.hid (H8.out.state (by omega) U8.out EL.out RL.out LL.out hown hg hloc); have bT := boxed w9 (.cells #[.int .i64 ((j : Int) + 1), .int .i64 (p.1.length : Int)] 59); have H10 := Lib.hid (H9.out.went bT); have T10 := Lib.hid (show World.ownsRow (w9.alloc (.cells #[.int .i64 ((j : Int) + 1), .int .i64 (p.1.length : Int)] 59)) (w.heap.size + 1) 59 2 (.slice a8 p.2.length c8) p.2.length (p.2.flatMap ic) from H10.out.tr); have h9 : w.heap.size + 1 ≤ w9.heap.size := World.block_lt_of_cell? w9 ⟨w.heap.size, 0, none⟩ H9.out.bx.box.x0; have h10 : w.heap.size + 1 ≤ (w9.alloc (.cells #[.int .i64 ((j : Int) + 1), .int .i64 (p.1.length : Int)] 59)).heap.size := Nat.le_trans h9 bT.size; have ONT := Lib.hid (item_one 59 (w.heap.size + 1) w9.heap.size ((j : Int) + 1, (p.1.length : Int)) w9 rfl h9); clear bT; clear hown hg hloc)
                  | (at_builtin; refine wpList_append_rows _ rfl _ _ 53 rfl (w.heap.size + 1) 59 j0 (.agg #[.int .i64 0, .int .i64 0]) 2 16 Tryz.underlying53 hj0 hy0 hy1 hy2 rfl (by decide) _ _ _ rfl T10.out (w.heap.size + 1) _ 1 (ic ((j : Int) + 1, (p.1.length : Int))) rfl ONT.out (ic_one _) (by unfold maxLen; omega) (by omega) h10 ?_; intro v11 w11 hown hg hloc; have H11 := Lib.hid (H10.out.trans hown hg hloc); clear hown hg hloc))
                go_roundw
                case rel => exact ⟨j + 1, by go_num, by omega, by rw [EP.out, NE.out]; exact H11.out⟩
                case measure => simp [intOf]; omega
          · have hE : j = top G := by omega
            subst hE
            have hge := M0.out (top G)
            rw [Nat.zero_add] at hge
            have hge2 : ks.length ≤ (oneTo G C (top G) (ks, [])).1.length := hge
            have hpl := OL.out (top G)
            clear hge OS SMK TW OL ON M0 ST CL
            generalize oneTo G C (top G) (ks, []) = p at *
            obtain ⟨gb, gc, rfl⟩ := H.out.addr (by omega)
            obtain ⟨a8, c8, rfl, hc8⟩ := H.out.tr.shape
            have PUT := Lib.hid (fun w1 (b : Below wr.heap.size wr w1) => (H.out.went b).put (show ts.length < p.1.length by omega))
            rw [htl] at PUT
            rw [RE.out] at NX MY
            have E1 := Lib.hid RE.out
            clear RE
            go_wp2_with (go_at_call 20; refine TP2.out.mono ?_; rintro e w5 ⟨rfl, b5⟩; obtain ⟨P1, ⟨u, P2⟩, P3⟩ := PUT.out w5 b5; have PR := Lib.hid P1; clear P1)
            · go_ret2
              exact ⟨[], 7, none, 0, rfl, .many hc (MY.out (by (try dsimp only); omega)) (by rw [E1.out]; (try dsimp only); omega), .nil _ _, Nat.le_refl _, PR.out.bx.below⟩
            · obtain ⟨n1, n2⟩ := NX.out (by (try dsimp only); omega)
              go_roundw
              case rel => exact ⟨m + 1, by go_num, by omega, by rw [E1.out]; exact PR.out, n1, by rw [E1.out]; exact n2⟩
              case measure => simp [intOf]; omega
      · have hE : StopAt G m ∧ ¬ 2000 < (runs G (top G) m).1.length := by
          have h3 := hok.out.le
          exact ⟨hg.stop (.inr (by omega)), by omega⟩
        have DN := Lib.hid (hE.1.done hE.2)
        have SE := Lib.hid (mkSt_done DN.out.all)
        have SL := Lib.hid (mkSt_len (runs G (top G) m).1 (runs G (top G) m).2)
        have HB := Lib.hid R.out.bx.below
        have HS := Lib.hid hS5
        clear hS5
        go_wp2_with fail
        go_ret2
        exact ⟨states (runs G (top G) m), 0, a5, c5, by rw [← SE.out, SL.out]; rfl, .all hc hE.1 hE.2, SE.out ▸ HS.out, by rw [← SE.out, SL.out]; exact hc5, HB.out⟩
  · have hcb : (checkN G != 0) = true := by simpa using hc
    clear k
    unfold gv at C0 ⊢
    go_enter Tryz.func7, Tryz.ntmps7
    go_wp2_with (go_at_call 17; refine (C0.out _ X.out.below).mono ?_; rintro e w1 ⟨rfl, hb⟩; have X1 := Lib.hid (X.out.went hb); clear hb)
    go_ret2
    exact ⟨[], checkN G, none, 0, rfl, .bad hc, .nil _ _, Nat.le_refl _, X1.out.below⟩

end Go.Proofs.YtjjmoonajijnmaaGreat.Au
