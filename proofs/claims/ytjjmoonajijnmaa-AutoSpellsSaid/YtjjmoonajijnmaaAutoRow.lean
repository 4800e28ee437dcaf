/-
  States that are one's own: a row of them, each state's lists in other blocks than the row's; a state more, a state's transitions put in their place. The element's type is a parameter.
-/
import Derived.Test.YtjjmoonajijnmaaAutoAt
namespace Go.Proofs.Ytjjmoonajijnmaa.Au
open Go.RowKit Go.Maps
open Go.Proofs.Ytjjmoonajijnmaa.Gr (cell_later)
open Go.Proofs.Ytjjmoonajijnmaa.Im
set_option linter.unusedVariables false

/-- A list's value that is no part of the block of v. -/
def LOk (Y : List Itm) (u v : Value) (w : World) : Prop := ∃ a c, u = .slice a Y.length c ∧ Y.length ≤ c ∧ ItsA a Y w ∧ (Y ≠ [] → ∀ b o, a = some ⟨b, o, none⟩ → v.ownBlock ≠ some b)
theorem its_lt {a : Option Addr} {Y : List Itm} {w : World} (h : ItsA a Y w) (hn : Y ≠ []) {b o : Nat} (e : a = some ⟨b, o, none⟩) : b < w.heap.size := by
  cases Y with
  | nil => exact absurd rfl hn
  | cons y Y =>
    obtain ⟨b', o', e', hc⟩ := h 0 (by rw [its_length]; simp)
    rw [e] at e'
    injection e' with e'
    injection e' with e1 e2
    subst e1
    exact World.block_lt_of_cell? _ _ hc
/-- Where all blocks of the list stay as they are, and v's own block is not one of them. -/
theorem LOk.to {Y : List Itm} {u v v' : Value} {w w' : World} (h : LOk Y u v w) (hb : ∀ b, b < w.heap.size → v.ownBlock ≠ some b → w'.heap[b]? = w.heap[b]?) (hv : ∀ b, b < w.heap.size → v.ownBlock ≠ some b → v'.ownBlock ≠ some b) : LOk Y u v' w' := by
  obtain ⟨a, c, h1, h2, h3, h4⟩ := h
  by_cases hn : Y = []
  · subst hn
    exact ⟨a, c, h1, h2, .nil _ _, fun q => absurd rfl q⟩
  · exact ⟨a, c, h1, h2, h3.keep fun b o e => hb b (its_lt h3 hn e) (h4 hn b o e), fun _ b o e => hv b (its_lt h3 hn e) (h4 hn b o e)⟩
theorem LOk.went {Y : List Itm} {u v : Value} {w w' : World} (h : LOk Y u v w) (hb : Below w.heap.size w w') : LOk Y u v w' := h.to (fun b hl _ => hb.block b hl) fun _ _ q => q
theorem LOk.grown {Y : List Itm} {u v v' : Value} {w w' : World} (h : LOk Y u v w) (hg : w.grownBy w' v.ownBlock) (hv : v'.ownBlock = v.ownBlock ∨ ∃ n, w.heap.size ≤ n ∧ v'.ownBlock = some n) : LOk Y u v' w' :=
  h.to (fun b hl q => hg.block b hl fun e => q e.symm) fun b hl q e => by
    rcases hv with h1 | ⟨n, hn, h1⟩
    · exact q (h1.symm.trans e)
    · rw [h1] at e
      injection e with e
      omega
theorem LOk.set {Y : List Itm} {u v : Value} {w : World} (h : LOk Y u v w) {p : Addr} (hp : v.ownBlock = some p.block) (x : Value) : LOk Y u v (w.setCell p x) :=
  h.to (fun b hl q => Below.heap_setCell _ _ _ _ fun e => q (by rw [hp]; exact congrArg some e.symm)) fun _ _ q => q
theorem LOk.nil (v : Value) (w : World) : LOk [] (.slice none 0 0) v w := ⟨none, 0, rfl, Nat.le_refl _, .nil _ _, fun q => absurd rfl q⟩

/-- A state and its cells. -/
abbrev StC := Sta × (Value × Value)
def sc (x : StC) : List Value := [x.2.1, x.2.2]
theorem sc_length (x : StC) : (sc x).length = 2 := rfl
/-- States in a row. -/
structure StV (T : TypeId) (base : Nat) (L : List StC) (v : Value) (w : World) : Prop where
  row : w.ownsRow base T 2 v L.length (L.flatMap sc)
  lists : ∀ x ∈ L, LOk x.1.1 x.2.1 v w ∧ LOk x.1.2 x.2.2 v w
theorem StV.went {T : TypeId} {base : Nat} {L : List StC} {v : Value} {w w' : World} (h : StV T base L v w) (hb : Below w.heap.size w w') : StV T base L v w' :=
  ⟨Sep.ownsRow_at h.row fun g hg => hb.block g (h.row.lt g hg).2, fun x hx => ⟨(h.lists x hx).1.went hb, (h.lists x hx).2.went hb⟩⟩
theorem StV.nil (T : TypeId) (base : Nat) (w : World) : StV T base [] (.slice none 0 0) w := ⟨World.ownsRow_nil _ _ _ _, fun x hx => by cases hx⟩
theorem StV.len {T : TypeId} {base : Nat} {L : List StC} {v : Value} {w : World} (h : StV T base L v w) : ∃ a c, v = .slice a L.length c ∧ L.length ≤ c := by
  rcases h.row.2 with ⟨rfl, h0⟩ | ⟨g, cap, cur, rfl, _, _, h5, _⟩
  · exact ⟨none, 0, by rw [h0], by rw [h0]; exact Nat.le_refl _⟩
  · exact ⟨_, cap, rfl, h5⟩
/-- They read as states. -/
theorem StV.at {T : TypeId} {base : Nat} {L : List StC} {a : Option Addr} {c : Nat} {w : World} (h : StV T base L (.slice a L.length c) w) : StaA a (L.map Prod.fst) w := by
  intro i hi
  have hi' : i < L.length := by simpa using hi
  rcases h.row.2 with ⟨_, h0⟩ | ⟨g, cap, cur, he, _⟩
  · omega
  · simp only [Value.slice.injEq] at he
    obtain ⟨rfl, _, _⟩ := he
    have hc := World.ownsRow.cells h.row (g := g) rfl
    obtain ⟨⟨a1, c1, u1, l1, i1, _⟩, ⟨a2, c2, u2, l2, i2, _⟩⟩ := h.lists _ (List.getElem_mem hi')
    have t0 := hc (i * 2 + 0) _ (Rw.two_at sc sc_length L i hi' 0 (by omega))
    have t1 := hc (i * 2 + 1) _ (Rw.two_at sc sc_length L i hi' 1 (by omega))
    rw [WideShapes.add_plain] at t0 t1
    rw [List.getElem_map]
    refine ⟨g, 0, a1, c1, a2, c2, rfl, ?_, ?_, i1, i2, l1, l2⟩
    · rw [← u1]
      simpa using t0
    · rw [← u2]
      simpa using t1
/-- A state more. -/
theorem StV.snoc {T : TypeId} {base : Nat} {L : List StC} {v v' : Value} {w w' : World} (h : StV T base L v w) (x : StC) (hx : LOk x.1.1 x.2.1 v w ∧ LOk x.1.2 x.2.2 v w) (hr : w'.ownsRow base T 2 v' (L.length + 1) (L.flatMap sc ++ sc x)) (hg : w.grownBy w' v.ownBlock) (hv : v'.ownBlock = v.ownBlock ∨ ∃ n, w.heap.size ≤ n ∧ v'.ownBlock = some n) : StV T base (L ++ [x]) v' w' := by
  refine ⟨?_, fun y hy => ?_⟩
  · rw [List.length_append, List.flatMap_append]
    simpa using hr
  · have key : LOk y.1.1 y.2.1 v w ∧ LOk y.1.2 y.2.2 v w := by
      rcases List.mem_append.1 hy with q | q
      · exact h.lists y q
      · rw [List.mem_singleton] at q
        rw [q]
        exact hx
    exact ⟨key.1.grown hg hv, key.2.grown hg hv⟩
theorem flat_set {L : List StC} {i : Nat} (hi : i < L.length) (u : Value) (t : List (Int × Int)) : (L.flatMap sc).set (i * 2 + 1) u = (L.set i ((L[i].1.1, t), (L[i].2.1, u))).flatMap sc := by
  induction L generalizing i with
  | nil => simp at hi
  | cons x L ih =>
    cases i with
    | zero => simp [sc]
    | succ i =>
      have hi' : i < L.length := by simpa using hi
      rw [List.flatMap_cons, List.set_cons_succ, List.flatMap_cons, List.getElem_cons_succ, ← ih hi']
      rw [show (i + 1) * 2 + 1 = (sc x).length + (i * 2 + 1) by rw [sc_length]; omega, List.set_append_right _ _ (by omega)]
      simp
/-- A state's transitions, put in their place. -/
theorem StV.put {T : TypeId} {base : Nat} {L : List StC} {g c : Nat} {w : World} (h : StV T base L (.slice (some ⟨g, 0, none⟩) L.length c) w) {i : Nat} (hi : i < L.length) {u : Value} {t : List (Int × Int)} (ht : LOk t u (.slice (some ⟨g, 0, none⟩) L.length c) w) :
    StV T base (L.set i ((L[i].1.1, t), (L[i].2.1, u))) (.slice (some ⟨g, 0, none⟩) L.length c) (w.setCell ⟨g, i * 2 + 1, none⟩ u) := by
  refine ⟨?_, fun y hy => ?_⟩
  · rw [List.length_set, ← flat_set hi]
    exact (World.ownsRow.stored h.row _ _).1
  · have key : LOk y.1.1 y.2.1 (.slice (some ⟨g, 0, none⟩) L.length c) w ∧ LOk y.1.2 y.2.2 (.slice (some ⟨g, 0, none⟩) L.length c) w := by
      rcases List.mem_or_eq_of_mem_set hy with q | q
      · exact h.lists y q
      · rw [q]
        exact ⟨(h.lists _ (List.getElem_mem hi)).1, ht⟩
    exact ⟨key.1.set (p := ⟨g, i * 2 + 1, none⟩) rfl u, key.2.set (p := ⟨g, i * 2 + 1, none⟩) rfl u⟩

end Go.Proofs.Ytjjmoonajijnmaa.Au
