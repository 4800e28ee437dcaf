/-
  Package least: the words of a grammar in memory: a list with two cells for each symbol, and that it stays while other blocks are written. The first walk: at.
-/
import Derived.Test.YtoipinnfmjaaaaaGreatDoorLeastAns
import Derived.Test.YtoipinnfmjaaaaaGreatDoorRowKit
import Derived.Test.YtoipinnfmjaaaaaGreatDoorMCheck
namespace Go.Proofs.YtoipinnfmjaaaaaGreatDoor.Le
open Go.RowKit Go.Maps
open Go.Proofs.YtoipinnfmjaaaaaGreatDoor.Gr (Gram Is step boxed cell_later drawn ivs iv)
set_option linter.unusedVariables false

/-! ### In memory -/

/-- A word in memory, off the block q. -/
def WAt (q : Nat) (x : List Int) (v : Value) (w : World) : Prop := ∃ a c, v = .slice a x.length c ∧ Sep.Reads a (ivs x) w ∧ ∀ b o, a = some ⟨b, o, none⟩ → x ≠ [] → b ≠ q
theorem WAt.fr {q : Nat} {x : List Int} {v : Value} {w w' : World} {S : Nat → Prop} (h : WAt q x v w) (hF : Sep.Fr S w w') (hS : ∀ k, S k → k = q ∨ w.heap.size ≤ k) : WAt q x v w' := by
  obtain ⟨a, c, rfl, hR, hq⟩ := h
  refine ⟨a, c, rfl, fun i hi => ?_, hq⟩
  obtain ⟨b, o, e, hc⟩ := hR i hi
  refine ⟨b, o, e, hF.cell hc fun hs => ?_⟩
  have hl := World.block_lt_of_cell? w ⟨b, o + i, none⟩ hc
  have hn : x ≠ [] := fun e => by subst e; simp [ivs] at hi
  rcases hS _ hs with h1 | h1
  · exact hq b o e hn h1
  · simp at hl h1
    omega
theorem WAt.went {q : Nat} {x : List Int} {v : Value} {w w' : World} (h : WAt q x v w) (hb : Below w.heap.size w w') : WAt q x v w' :=
  h.fr (S := fun _ => False) (Sep.Fr.of_below hb) fun _ k => k.elim
theorem wat_nil (q : Nat) (w : World) : WAt q [] (.slice none 0 0) w := ⟨none, 0, rfl, .nil _ _, fun _ _ h => by cases h⟩
/-- What lies in new blocks is off all that was there. -/
theorem wat_new {q n c : Nat} {x : List Int} {a : Option Addr} {W w : World} (h : Sep.Reads a (ivs x) w) (hn : Gr.New a W) (hq : q < W.heap.size) (hl : x.length = n) : WAt q x (.slice a n c) w :=
  ⟨a, c, by rw [hl], h, fun b o e _ => by have := hn _ e; simp at this; omega⟩

/-- The list: two cells for each symbol. -/
structure LAt (q n : Nat) (T : Int → Ans) (w : World) : Prop where
  len : ∀ s : Nat, s < n → w.cell? ⟨q, s * 2, none⟩ = some (.int .i64 (lenA (T (s : Int)) : Int))
  word : ∀ s : Nat, s < n → ∃ v, w.cell? ⟨q, s * 2 + 1, none⟩ = some v ∧ WAt q (wordA (T (s : Int))) v w
  free : ∀ j : Nat, w.frozen? ⟨q, j, none⟩ = false
  lt : q < w.heap.size
theorem LAt.fr {q n : Nat} {T : Int → Ans} {w w' : World} {S : Nat → Prop} (h : LAt q n T w) (hF : Sep.Fr S w w') (hS : ∀ k, S k → w.heap.size ≤ k) : LAt q n T w' := by
  have hb : w'.heap[q]? = w.heap[q]? := hF.block q h.lt fun k => by have := hS _ k; have := h.lt; omega
  refine ⟨fun s hs => (World.cell?_of_block (a := ⟨q, s * 2, none⟩) hb).trans (h.len s hs), fun s hs => ?_, fun x => (World.frozen?_of_block (a := ⟨q, x, none⟩) hb).trans (h.free x), Nat.lt_of_lt_of_le h.lt hF.size⟩
  obtain ⟨v, h1, h2⟩ := h.word s hs
  exact ⟨v, (World.cell?_of_block (a := ⟨q, s * 2 + 1, none⟩) hb).trans h1, h2.fr hF fun k hk => .inr (hS k hk)⟩
theorem LAt.went {q n : Nat} {T : Int → Ans} {w w' : World} (h : LAt q n T w) (hb : Below w.heap.size w w') : LAt q n T w' :=
  h.fr (S := fun _ => False) (Sep.Fr.of_below hb) fun _ k => k.elim
/-- A symbol's two cells are written. -/
theorem LAt.set {q n : Nat} {T : Int → Ans} {w : World} (h : LAt q n T w) {s : Nat} (hs : s < n) {a : Ans} {v : Value} (hv : WAt q (wordA a) v w) :
    LAt q n (setA T (s : Int) a) ((w.setCell ⟨q, s * 2, none⟩ (.int .i64 (lenA a : Int))).setCell ⟨q, s * 2 + 1, none⟩ v) := by
  have hF : Sep.Fr (fun k => k = q) w ((w.setCell ⟨q, s * 2, none⟩ (.int .i64 (lenA a : Int))).setCell ⟨q, s * 2 + 1, none⟩ v) :=
    ((Sep.Fr.refl (fun k => k = q) w).setCell ⟨q, s * 2, none⟩ rfl _).setCell ⟨q, s * 2 + 1, none⟩ rfl _
  have ne : ∀ {i j : Nat}, i ≠ j → (⟨q, i, none⟩ : Addr) ≠ ⟨q, j, none⟩ := fun hij e => hij (congrArg Addr.off e)
  refine ⟨fun t ht => ?_, fun t ht => ?_, fun x => by rw [World.frozen?_setCell, World.frozen?_setCell]; exact h.free x, by simpa [World.setCell] using h.lt⟩
  · rw [World.cell?_setCell_other _ _ _ _ (ne (by omega))]
    by_cases e : t = s
    · subst e
      rw [setA_hit]
      exact World.cell?_setCell_same _ _ _ (h.len t ht)
    · rw [World.cell?_setCell_other _ _ _ _ (ne (by omega)), setA_miss _ _ (by omega)]
      exact h.len t ht
  · obtain ⟨u, h1, h2⟩ := h.word t ht
    by_cases e : t = s
    · subst e
      rw [setA_hit]
      refine ⟨v, World.cell?_setCell_same _ _ _ (by rw [World.cell?_setCell_other _ _ _ _ (ne (by omega))]; exact h1), hv.fr hF fun k hk => .inl hk⟩
    · rw [setA_miss _ _ (by omega)]
      refine ⟨u, ?_, h2.fr hF fun k hk => .inl hk⟩
      rw [World.cell?_setCell_other _ _ _ _ (ne (by omega)), World.cell?_setCell_other _ _ _ _ (ne (by omega))]
      exact h1

/-- The words of a grammar: a box that holds the list. -/
structure TAt (p q n : Nat) (T : Int → Ans) (w : World) : Prop where
  ptr : w.cell? ⟨p, 0, none⟩ = some (.slice (some ⟨q, 0, none⟩) n n)
  list : LAt q n T w
  ne : p ≠ q
  small : n ≤ 10000
  ok : TOk n T
theorem TAt.fr {p q n : Nat} {T : Int → Ans} {w w' : World} {S : Nat → Prop} (h : TAt p q n T w) (hF : Sep.Fr S w w') (hS : ∀ k, S k → w.heap.size ≤ k) : TAt p q n T w' :=
  ⟨hF.cell h.ptr fun k => by have := hS _ k; have := World.block_lt_of_cell? w _ h.ptr; omega, h.list.fr hF hS, h.ne, h.small, h.ok⟩
theorem TAt.went {p q n : Nat} {T : Int → Ans} {w w' : World} (h : TAt p q n T w) (hb : Below w.heap.size w w') : TAt p q n T w' :=
  h.fr (S := fun _ => False) (Sep.Fr.of_below hb) fun _ k => k.elim
theorem TAt.set {p q n : Nat} {T : Int → Ans} {w : World} (h : TAt p q n T w) {s : Nat} (hs : s < n) {a : Ans} {v : Value} (hv : WAt q (wordA a) v w) (ha : Bd a) :
    TAt p q n (setA T (s : Int) a) ((w.setCell ⟨q, s * 2, none⟩ (.int .i64 (lenA a : Int))).setCell ⟨q, s * 2 + 1, none⟩ v) := by
  have ne : ∀ {i j : Nat}, (⟨p, i, none⟩ : Addr) ≠ ⟨q, j, none⟩ := fun e => h.ne (congrArg Addr.block e)
  refine ⟨?_, h.list.set hs hv, h.ne, h.small, h.ok.set (by omega) (by omega) ha⟩
  rw [World.cell?_setCell_other _ _ _ _ (Ne.symm ne), World.cell?_setCell_other _ _ _ _ (Ne.symm ne)]
  exact h.ptr

/-- What a pointer to words tells: nothing, as there are none; or a table. -/
def VAt (nl : Bool) (v : Value) (T : Int → Ans) (w : World) : Prop :=
  (nl = true ∧ v = .pointer none ∧ T = fun _ => .none) ∨ (nl = false ∧ ∃ p q n, v = .pointer (some ⟨p, 0, none⟩) ∧ TAt p q n T w)
theorem VAt.went {nl : Bool} {v : Value} {T : Int → Ans} {w w' : World} (h : VAt nl v T w) (hb : Below w.heap.size w w') : VAt nl v T w' := by
  rcases h with ⟨h1, h2, h3⟩ | ⟨h1, p, q, n, h2, h3⟩
  · exact .inl ⟨h1, h2, h3⟩
  · exact .inr ⟨h1, p, q, n, h2, h3.went hb⟩
theorem VAt.bnd {nl : Bool} {v : Value} {T : Int → Ans} {w : World} (h : VAt nl v T w) : Bnd T := by
  rcases h with ⟨h1, h2, rfl⟩ | ⟨h1, p, q, n, h2, h3⟩
  · exact fun _ => bd_none
  · exact h3.ok.bnd

/-- A word comes back, its length and its numbers; nothing that was there is written. -/
def Worded (a : Ans) (w : World) (e : Ending) (w' : World) : Prop :=
  ∃ ad c, e = .returned (.agg #[.int .i64 (lenA a : Int), .slice ad (wordA a).length c]) ∧ Sep.Reads ad (ivs (wordA a)) w' ∧ Below w.heap.size w w'

end Go.Proofs.YtoipinnfmjaaaaaGreatDoor.Le
