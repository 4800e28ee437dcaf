/-
  Items in memory: a row of one's own (ItsV), a list that reads as items (ItsA), its parts, one item in a new block. The type's number is a parameter: no program in it.
-/
import Derived.Test.YtjjmoonajijnmaaItemPlain
import Derived.Test.YtjjmoonajijnmaaRowLie
namespace Go.Proofs.Ytjjmoonajijnmaa.Im
open Go.RowKit Go.Maps
set_option linter.unusedVariables false

/-- An item's cells. -/
def ic (x : Itm) : List Value := [.int .i64 x.1, .int .i64 x.2]
theorem ic_length (x : Itm) : (ic x).length = 2 := rfl
theorem its_length (X : List Itm) : (X.flatMap ic).length = X.length * 2 := by
  induction X with
  | nil => rfl
  | cons x X ih =>
    rw [List.flatMap_cons, List.length_append, ih, ic_length, List.length_cons]
    omega
theorem its_one (X : List Itm) : ∀ u ∈ X.flatMap ic, u.oneCell' = true := fun u hu => by
  rw [List.mem_flatMap] at hu
  obtain ⟨x, _, h⟩ := hu
  simp only [ic, List.mem_cons, List.not_mem_nil, or_false] at h
  rcases h with rfl | rfl <;> rfl
theorem its_append (X Y : List Itm) : (X ++ Y).flatMap ic = X.flatMap ic ++ Y.flatMap ic := List.flatMap_append
theorem its_drop (X : List Itm) (k : Nat) : (X.drop k).flatMap ic = (X.flatMap ic).drop (k * 2) := by
  induction X generalizing k with
  | nil => simp
  | cons x X ih =>
    cases k with
    | zero => simp
    | succ k =>
      rw [List.drop_succ_cons, ih, List.flatMap_cons, show (k + 1) * 2 = (ic x).length + k * 2 by rw [ic_length]; omega, List.drop_append]
      simp
theorem its_take (X : List Itm) (k : Nat) : (X.take k).flatMap ic = (X.flatMap ic).take (k * 2) := by
  induction X generalizing k with
  | nil => simp
  | cons x X ih =>
    cases k with
    | zero => simp
    | succ k =>
      rw [List.take_succ_cons, List.flatMap_cons, ih, List.flatMap_cons, show (k + 1) * 2 = (ic x).length + k * 2 by rw [ic_length]; omega, List.take_append, List.take_of_length_le (Nat.le_add_right ..)]
      simp

/-- The list reads as these items. -/
def ItsA (a : Option Addr) (X : List Itm) (w : World) : Prop := Sep.Reads a (X.flatMap ic) w
theorem ItsA.nil (a : Option Addr) (w : World) : ItsA a [] w := Sep.Reads.nil a w
theorem ItsA.keep {a : Option Addr} {X : List Itm} {w w' : World} (h : ItsA a X w) (hb : ∀ b o, a = some ⟨b, o, none⟩ → w'.heap[b]? = w.heap[b]?) : ItsA a X w' := Sep.Reads.keep h hb
theorem ItsA.below {a : Option Addr} {X : List Itm} {m : Nat} {w w' : World} (h : ItsA a X w) (hb : Below m w w') (hm : w.heap.size ≤ m) : ItsA a X w' := Sep.Reads.below h hb hm
theorem ItsA.went {a : Option Addr} {X : List Itm} {w w' : World} (h : ItsA a X w) (hb : Below w.heap.size w w') : ItsA a X w' := h.below hb (Nat.le_refl _)
/-- One item's two cells. -/
theorem ItsA.at {a : Option Addr} {X : List Itm} {w : World} (h : ItsA a X w) (i : Nat) (hi : i < X.length) :
    ∃ b o, a = some ⟨b, o, none⟩ ∧ w.cell? ⟨b, o + i * 2, none⟩ = some (.int .i64 X[i].1) ∧ w.cell? ⟨b, o + i * 2 + 1, none⟩ = some (.int .i64 X[i].2) := by
  have hl := its_length X
  obtain ⟨b, o, e, h0⟩ := h (i * 2) (by omega)
  obtain ⟨b', o', e', h1⟩ := h (i * 2 + 1) (by omega)
  rw [e] at e'
  simp only [Option.some.injEq, Addr.mk.injEq, and_true] at e'
  obtain ⟨rfl, rfl⟩ := e'
  have g0 := Rw.two_at ic ic_length X i hi 0 (by omega)
  have g1 := Rw.two_at ic ic_length X i hi 1 (by omega)
  rw [List.getElem?_eq_getElem (by omega)] at g0 g1
  refine ⟨b, o, e, ?_, ?_⟩
  · rw [h0]
    rw [← Option.some.injEq] at g0
    exact congrArg some (by simpa [ic] using g0)
  · rw [show o + i * 2 + 1 = o + (i * 2 + 1) by omega, h1]
    exact congrArg some (by simpa [ic] using g1)
theorem ItsA.drop {b o : Nat} {X : List Itm} {w : World} (h : ItsA (some ⟨b, o, none⟩) X w) (k : Nat) : ItsA (some ⟨b, o + k * 2, none⟩) (X.drop k) w := fun i hi => by
  have hl := its_length X
  rw [its_length, List.length_drop] at hi
  obtain ⟨b', o', e, hc⟩ := h (k * 2 + i) (by omega)
  simp only [Option.some.injEq, Addr.mk.injEq, and_true] at e
  obtain ⟨rfl, rfl⟩ := e
  refine ⟨b, o + k * 2, rfl, ?_⟩
  rw [show o + k * 2 + i = o + (k * 2 + i) by omega, hc]
  congr 1
  simp only [its_drop, List.getElem_drop]
theorem ItsA.take {a : Option Addr} {X : List Itm} {w : World} (h : ItsA a X w) (k : Nat) : ItsA a (X.take k) w := fun i hi => by
  have hl := its_length X
  have hi' := hi
  rw [its_length, List.length_take] at hi
  obtain ⟨b, o, e, hc⟩ := h i (by omega)
  refine ⟨b, o, e, ?_⟩
  rw [hc]
  congr 1
  simp only [its_take, List.getElem_take]
/-- For append of whatever list. -/
theorem ItsA.lie {a : Option Addr} {X : List Itm} {w : World} (h : ItsA a X w) : (∀ p, a = some p → ∀ j u, (X.flatMap ic)[j]? = some u → w.cell? (p.add j) = some u) ∧ (a = none → X.length = 0) := by
  constructor
  · intro p hp j u hu
    obtain ⟨hj, rfl⟩ := List.getElem?_eq_some_iff.1 hu
    obtain ⟨b, o, e, hc⟩ := h j hj
    rw [hp] at e
    simp only [Option.some.injEq] at e
    subst e
    rw [WideShapes.add_plain]
    exact hc
  · intro ha
    rcases Nat.eq_zero_or_pos X.length with h0 | h0
    · exact h0
    · obtain ⟨b, o, e, _⟩ := h.at 0 h0
      rw [ha] at e
      cases e

/-! ### A row of one's own -/

def ItsV (T : TypeId) (base : Nat) (X : List Itm) (v : Value) (w : World) : Prop := w.ownsRow base T 2 v X.length (X.flatMap ic)
theorem ItsV.nil (T : TypeId) (base : Nat) (w : World) : ItsV T base [] (.slice none 0 0) w := World.ownsRow_nil _ _ _ _
theorem ItsV.keep {T : TypeId} {base : Nat} {X : List Itm} {v : Value} {w w' : World} (h : ItsV T base X v w) (hb : ∀ g, v.ownBlock = some g → w'.heap[g]? = w.heap[g]?) : ItsV T base X v w' := Sep.ownsRow_at h hb
theorem ItsV.went {T : TypeId} {base : Nat} {X : List Itm} {v : Value} {w w' : World} (h : ItsV T base X v w) (hb : Below w.heap.size w w') : ItsV T base X v w' := h.keep fun g hg => hb.block g (World.ownsRow.lt h g hg).2
theorem ItsV.mono {T : TypeId} {b b' : Nat} {X : List Itm} {v : Value} {w : World} (h : ItsV T b X v w) (hb : b' ≤ b) : ItsV T b' X v w := Rw.row_mono h hb
theorem ItsV.shape {T : TypeId} {base : Nat} {X : List Itm} {v : Value} {w : World} (h : ItsV T base X v w) : ∃ a c, v = .slice a X.length c ∧ X.length ≤ c := by
  rcases h.2 with ⟨rfl, h0⟩ | ⟨g, cap, cur, rfl, _, _, h5, _⟩
  · exact ⟨none, 0, by rw [h0], by omega⟩
  · exact ⟨_, cap, rfl, h5⟩
theorem ItsV.reads {T : TypeId} {base : Nat} {X : List Itm} {a : Option Addr} {c : Nat} {w : World} (h : ItsV T base X (.slice a X.length c) w) : ItsA a X w := fun i hi => by
  have hl := its_length X
  rcases h.2 with ⟨_, h0⟩ | ⟨g, cap, cur, he, _⟩
  · omega
  · simp only [Value.slice.injEq] at he
    obtain ⟨rfl, _, _⟩ := he
    refine ⟨g, 0, rfl, ?_⟩
    have := World.ownsRow.cells h (g := g) rfl i _ (List.getElem?_eq_getElem hi)
    rw [WideShapes.add_plain] at this
    simpa using this
/-- One item in a new block. -/
theorem item_one (T : TypeId) (base q : Nat) (x : Itm) (w : World) (hq : q = w.heap.size) (hb : base ≤ q) : (w.alloc (.cells #[.int .i64 x.1, .int .i64 x.2] T)).ownsRow base T 2 (.slice (some ⟨q, 0, none⟩) 1 1) 1 (ic x) := by
  subst hq
  exact World.ownsRow_lit w #[.int .i64 x.1, .int .i64 x.2] 1 hb (by decide) (by simp)
/-- Behind an append. -/
theorem ItsV.of_append {T : TypeId} {base n m : Nat} {X Y : List Itm} {v : Value} {w : World} (h : w.ownsRow base T 2 v (n + m) (X.flatMap ic ++ Y.flatMap ic)) (hn : n = X.length) (hm : m = Y.length) : ItsV T base (X ++ Y) v w := by
  subst hn hm
  unfold ItsV
  rw [List.length_append, its_append]
  exact h

end Go.Proofs.Ytjjmoonajijnmaa.Im
