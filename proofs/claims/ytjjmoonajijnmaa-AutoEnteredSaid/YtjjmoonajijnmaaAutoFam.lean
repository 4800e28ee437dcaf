/-
  A slice of lists of items, each a row of its own: an item more in one of them.
-/
import Derived.Test.YtjjmoonajijnmaaAutoRow
namespace Go.Proofs.Ytjjmoonajijnmaa.Au
open Go.RowKit Go.Maps
open Go.Proofs.Ytjjmoonajijnmaa.Gr (cell_new cell_old cell_later)
open Go.Proofs.Ytjjmoonajijnmaa.Im
set_option linter.unusedVariables false

/-- A function, changed at one place. -/
def upd {α : Type} (f : Nat → α) (s : Nat) (x : α) : Nat → α := fun r => if r = s then x else f r
theorem upd_same {α : Type} (f : Nat → α) (s : Nat) (x : α) : upd f s x s = x := if_pos rfl
theorem upd_other {α : Type} {f : Nat → α} {s r : Nat} {x : α} (h : r ≠ s) : upd f s x r = f r := if_neg h

structure Fam (T : TypeId) (b m n : Nat) (F : Nat → List Itm) (D : Nat → Value) (w : World) : Prop where
  cell : ∀ s, s < n → w.cell? ⟨b, s, none⟩ = some (D s)
  free : ∀ s, w.frozen? ⟨b, s, none⟩ = false
  row : ∀ s, s < n → ItsV T m (F s) (D s) w
  off : ∀ s r, s < n → r < n → s ≠ r → ∀ g, (D s).ownBlock = some g → (D r).ownBlock ≠ some g
  bm : b < m
  le : m ≤ w.heap.size
theorem Fam.went {T : TypeId} {b m n : Nat} {F : Nat → List Itm} {D : Nat → Value} {w w' : World} (h : Fam T b m n F D w) (hb : Below w.heap.size w w') : Fam T b m n F D w' :=
  have hl : b < w.heap.size := Nat.lt_of_lt_of_le h.bm h.le
  ⟨fun s hs => cell_later hb (h.cell s hs), fun s => (World.frozen?_of_block (a := ⟨b, s, none⟩) (hb.block b hl)).trans (h.free s), fun s hs => (h.row s hs).went hb, h.off, h.bm, Nat.le_trans h.le hb.size⟩
theorem Fam.congr {T : TypeId} {b m n : Nat} {F F' : Nat → List Itm} {D : Nat → Value} {w : World} (h : Fam T b m n F D w) (e : ∀ s, s < n → F s = F' s) : Fam T b m n F' D w :=
  ⟨h.cell, h.free, fun s hs => by rw [← e s hs]; exact h.row s hs, h.off, h.bm, h.le⟩
/-- An item more in list s, behind an append in world w. -/
theorem Fam.put {T : TypeId} {b m n : Nat} {F : Nat → List Itm} {D : Nat → Value} {w w' : World} (h : Fam T b m n F D w) {s : Nat} (hs : s < n) {y : Itm} {v' : Value} (hr : ItsV T m (F s ++ [y]) v' w') (hg : w.grownBy w' (D s).ownBlock) (hv : v'.ownBlock = (D s).ownBlock ∨ v'.ownBlock = some w.heap.size) :
    Fam T b m n (upd F s (F s ++ [y])) (upd D s v') (w'.setCell ⟨b, s, none⟩ v') := by
  have hl : b < w.heap.size := Nat.lt_of_lt_of_le h.bm h.le
  have own : ∀ r, r < n → ∀ g, (D r).ownBlock = some g → m ≤ g ∧ g < w.heap.size := fun r hr g hg => World.ownsRow.lt (h.row r hr) g hg
  have eb : w'.heap[b]? = w.heap[b]? := hg.block b hl fun e => by
    have := (own s hs b e.symm).1
    have := h.bm
    omega
  have own' : ∀ g, v'.ownBlock = some g → m ≤ g := fun g hg => (World.ownsRow.lt hr g hg).1
  have other : ∀ g, g ≠ b → (w'.setCell ⟨b, s, none⟩ v').heap[g]? = w'.heap[g]? := fun g hg => Below.heap_setCell _ _ _ _ hg
  refine ⟨fun r hr' => ?_, fun r => ?_, fun r hr' => ?_, fun r z hr' hq hne g e1 e2 => ?_, h.bm, ?_⟩
  · by_cases e : r = s
    · subst e
      rw [upd_same]
      exact World.cell?_setCell_same _ _ _ ((World.cell?_of_block (a := ⟨b, r, none⟩) eb).trans (h.cell r hr'))
    · rw [upd_other e, World.cell?_setCell_other _ _ _ _ (fun q => e (congrArg Addr.off q).symm)]
      exact (World.cell?_of_block (a := ⟨b, r, none⟩) eb).trans (h.cell r hr')
  · rw [World.frozen?_setCell]
    exact (World.frozen?_of_block (a := ⟨b, r, none⟩) eb).trans (h.free r)
  · by_cases e : r = s
    · subst e
      rw [upd_same, upd_same]
      exact hr.keep fun g e => other g (by have := own' g e; have := h.bm; omega)
    · rw [upd_other e, upd_other e]
      refine (h.row r hr').keep fun g hg' => ?_
      have h1 := own r hr' g hg'
      rw [other g (by have := h.bm; omega)]
      exact hg.block g h1.2 fun q => h.off r s hr' hs e g hg' q.symm
  · by_cases er : r = s
    · subst er
      rw [upd_same] at e1
      rw [upd_other (fun q => hne q.symm)] at e2
      rcases hv with k | k
      · exact h.off r z hr' hq hne g (k ▸ e1) e2
      · have := (own _ hq g e2).2
        rw [k] at e1
        injection e1 with e1
        omega
    · rw [upd_other er] at e1
      by_cases eq : z = s
      · subst eq
        rw [upd_same] at e2
        rcases hv with q' | q'
        · exact h.off r z hr' hq hne g e1 (q' ▸ e2)
        · have := (own _ hr' g e1).2
          rw [q'] at e2
          injection e2 with e2
          omega
      · rw [upd_other eq] at e2
        exact h.off r z hr' hq hne g e1 e2
  · rw [show (w'.setCell ⟨b, s, none⟩ v').heap.size = w'.heap.size by simp [World.setCell]]
    exact Nat.le_trans h.le hg.size
/-- What is written then. -/
theorem Fam.fr {T : TypeId} {b m n : Nat} {F : Nat → List Itm} {D : Nat → Value} {w w' : World} {v' : Value} (h : Fam T b m n F D w) {s : Nat} (hs : s < n) (hg : w.grownBy w' (D s).ownBlock) {w0 : World} (f : Sep.Fr (· = b) w0 w) (hm : w0.heap.size ≤ m) : Sep.Fr (· = b) w0 (w'.setCell ⟨b, s, none⟩ v') :=
  (f.grown hg fun k hk => .inr (Nat.le_trans hm (World.ownsRow.lt (h.row s hs) k hk).1)).setCell _ rfl _

end Go.Proofs.Ytjjmoonajijnmaa.Au
