/-
  The walk of the statement on items in another order, and on an item more. No condition.
-/
import Derived.Test.YtkggpkbdekebcaaGreatItemCloses
import Derived.Deep.DeepCutAuto
import Derived.Deep.RegionLaw
namespace Go.Proofs.YtkggpkbdekebcaaGreat.Im
open Go.RowKit Go.Maps
open Go.Proofs.YtkggpkbdekebcaaGreat.Gr (Gram Sh gv GAt Bx boxed drawn checkN much_any rcheck_any cell_new cell_old cell_later)
set_option linter.unusedVariables false

theorem build_no_items (w : World) : (Instr.buildSlice 26 0 #[]).run Tryz.prog w = .ok (.slice (some ⟨w.heap.size, 0, none⟩) 0 0) (w.alloc (.cells #[] 34)) := by kernel_rfl

theorem heap_new (w : World) (o : Obj) : (w.alloc o).heap[w.heap.size]? = some o := World.alloc_heap_new _ _
theorem heap_at {w : World} {o : Obj} {q : Nat} (h : q = w.heap.size) : (w.alloc o).heap[q]? = some o := by
  subst h
  exact heap_new _ _
theorem heap_old {w : World} {o o' : Obj} {q : Nat} (h : w.heap[q]? = some o') : (w.alloc o).heap[q]? = some o' := by
  rw [Below.heap_alloc _ _ _ (Array.getElem?_eq_some_iff.1 h).1]
  exact h
theorem lit_of {w : World} {base q : Nat} {x : Itm} (hq : w.heap[q]? = some (.cells #[.int .i64 x.1, .int .i64 x.2] 34 (0, 0))) (hb : base ≤ q) : w.ownsRow base 34 2 (.slice (some ⟨q, 0, none⟩) 1 1) 1 (ic x) :=
  ⟨by simp [ic], .inr ⟨q, 1, _, rfl, hb, hq, Nat.le_refl _, by unfold maxLen; omega, by simp, by simp [ic]⟩⟩
/-- Behind the closure of the list with an item more. -/
def OneMore (G : Gram) (M : List Itm) (W : World) (s : Value) (wx : World) : Prop := ∃ (E : List Itm) (a : Option Addr) (c : Nat), s = .slice a E.length c ∧ Is E (Clo G M) ∧ ItsA a E wx ∧ Below W.heap.size W wx

/-- Is the item among the first k? -/
def inB (x : Itm) (E : List Itm) (k : Nat) : Bool := decide (x ∈ E.take k)
theorem in_zero (x : Itm) (E : List Itm) : inB x E 0 = false := by simp [inB]
theorem in_hit {x : Itm} {E : List Itm} {k : Nat} (h : inB x E k = true) : inB x E (k + 1) = true := by
  unfold inB at *
  rw [decide_eq_true_iff] at *
  rw [List.take_add_one]
  exact List.mem_append.2 (.inl h)
theorem in_miss {x : Itm} {E : List Itm} {k : Nat} (hk : k < E.length) (h : inB x E k = false) : inB x E (k + 1) = eqB x E[k] := by
  unfold inB eqB at *
  rw [decide_eq_false_iff_not] at h
  rw [List.take_add_one, List.getElem?_eq_getElem hk, decide_eq_decide, List.mem_append, Option.toList_some, List.mem_singleton]
  exact ⟨fun q => q.elim (fun q => absurd q h) id, .inr⟩
theorem in_all {x : Itm} {E : List Itm} (h : x ∈ E) : inB x E E.length = true := by
  unfold inB
  rw [List.take_length, decide_eq_true_iff]
  exact h

end Go.Proofs.YtkggpkbdekebcaaGreat.Im
