/-
  Package least: leaves: the words that no rule is needed for. Condition: the grammar is small.
-/
import Derived.Test.YtoipinnfmjaaaaaDoorLeastJoin
import Derived.Test.YtoipinnfmjaaaaaDoorMCheck
namespace Go.Proofs.YtoipinnfmjaaaaaDoor.Le
open Go.RowKit Go.Maps
open Go.Proofs.YtoipinnfmjaaaaaDoor.Gr
open Go.Proofs.YtoipinnfmjaaaaaDoor.Rw (Bk IntsV row_shape)
set_option linter.unusedVariables false

/-- A grammar whose sizes are within bounds and whose numbers are symbols. -/
structure Sml (G : Gram) : Prop where
  t : G.terms.length ≤ 120
  n : G.nons.length ≤ 120
  r : G.rules.length ≤ 300
  known : knownB G = true
  w : ∀ r ∈ G.rules, r.2.length ≤ 8
theorem sml_of {G : Gram} (h : checkN G = 0) : Sml G := by
  obtain ⟨h1, _, _, h4, _, _⟩ := check_ok h
  unfold manyB at h1
  simp only [Bool.or_eq_false_iff, decide_eq_false_iff_not, List.any_eq_false, decide_eq_true_eq] at h1
  exact ⟨by omega, by omega, by omega, h4, fun r hr => by have := h1.2 r hr; omega⟩

theorem bx_fr {W w w' : World} {h : Sh} {G : Gram} {S : Nat → Prop} (k : Bx W h G w) (hF : Sep.Fr S w w') (hS : ∀ k, S k → W.heap.size < k) : Bx W h G w' := by
  have e : w'.heap[W.heap.size]? = w.heap[W.heap.size]? := hF.block _ (World.block_lt_of_cell? w ⟨W.heap.size, 0, none⟩ k.box.x0) (fun e => by have := hS _ e; omega)
  refine ⟨k.below.trans (hF.below (fun k hk => Nat.le_of_lt (hS k hk)) k.below.size), ?_⟩
  exact ⟨(World.cell?_of_block (a := ⟨W.heap.size, 0, none⟩) e).trans k.box.x0, (World.cell?_of_block (a := ⟨W.heap.size, 1, none⟩) e).trans k.box.x1,
    (World.cell?_of_block (a := ⟨W.heap.size, 2, none⟩) e).trans k.box.x2, (World.cell?_of_block (a := ⟨W.heap.size, 3, none⟩) e).trans k.box.x3⟩

theorem made_two (n s : Nat) (h : s < n) (a b : Value) : (madeCells #[a, b] (n * 2))[s * 2]? = some a ∧ (madeCells #[a, b] (n * 2))[s * 2 + 1]? = some b := by
  have e1 : s * 2 < n * 2 := by omega
  have e2 : s * 2 + 1 < n * 2 := by omega
  constructor
  · simp [madeCells, e1]
  · simp [madeCells, e2, Nat.add_mod]

/-- The table as the loop leaves it behind j symbols. -/
def tabTo (G : Gram) (j : Nat) : Int → Ans := fun s => if 0 ≤ s ∧ s < (j : Int) then tab0 G s else .is []
theorem tabTo_zero (G : Gram) (s : Int) : tabTo G 0 s = .is [] := if_neg (by omega)
theorem tabTo_set (G : Gram) (j : Nat) : setA (tabTo G j) (j : Int) (tab0 G (j : Int)) = tabTo G (j + 1) := by
  funext s
  by_cases e : s = (j : Int)
  · subst e
    rw [setA_hit]
    unfold tabTo
    rw [if_pos (by omega)]
  · rw [setA_miss _ _ e]
    unfold tabTo
    by_cases h : 0 ≤ s ∧ s < (j : Int)
    · rw [if_pos h, if_pos (by omega)]
    · rw [if_neg h, if_neg (by omega)]
theorem tabTo_skip (G : Gram) {j : Nat} (h : tab0 G (j : Int) = .is []) : tabTo G j = tabTo G (j + 1) := by
  rw [← tabTo_set, h]
  funext s
  by_cases e : s = (j : Int)
  · subst e
    rw [setA_hit]
    unfold tabTo
    rw [if_neg (by omega)]
  · rw [setA_miss _ _ e]
theorem tab0_term {G : Gram} {s : Int} (h : termB G s = true) : tab0 G s = .is [s] := by
  have := termB_iff.1 h
  unfold tab0
  rw [if_neg (by omega), if_pos h]
theorem tab0_non {G : Gram} {s : Int} (h : nonB G s = true) : tab0 G s = .none := by
  have h1 := nonB_iff.1 h
  have h2 : ¬ termB G s = true := fun k => by have := termB_iff.1 k; omega
  unfold tab0
  rw [if_neg (by omega), if_neg h2]
theorem tok_tab0 (G : Gram) : TOk (top G + 1) (tab0 G) := by
  refine ⟨fun s hs => ?_, fun s x hx => ?_⟩
  · have h2 : ¬ termB G s = true := fun k => by have := termB_iff.1 k; unfold top at hs; omega
    unfold tab0
    rw [if_neg (by omega), if_neg h2]
  · unfold tab0 at hx
    split at hx
    · injection hx with hx; subst hx; exact Nat.zero_le _
    · split at hx
      · injection hx with hx; subst hx; simp
      · cases hx

theorem LAt.congr {q n : Nat} {T U : Int → Ans} {w : World} (h : LAt q n T w) (e : ∀ s : Nat, s < n → T (s : Int) = U (s : Int)) : LAt q n U w :=
  ⟨fun s hs => by rw [← e s hs]; exact h.len s hs, fun s hs => by rw [← e s hs]; exact h.word s hs, h.free, h.lt⟩
/-- A symbol whose word is that of one number, in a new block. -/
theorem LAt.put_one {q n : Nat} {T : Int → Ans} {w : World} (h : LAt q n T w) {s : Nat} (hs : s < n) (x : Int) :
    LAt q n (setA T (s : Int) (.is [x])) (((w.setCell ⟨q, s * 2, none⟩ (.int .i64 1)).setCell ⟨q, s * 2 + 1, none⟩ (.slice (some ⟨w.heap.size, 0, none⟩) 1 1)).alloc (.cells #[.int .i64 x] 3)) := by
  have b := boxed w (.cells #[.int .i64 x] 3)
  have B := Bk.new w #[.int .i64 x] 3 _ rfl
  have hv : WAt q [x] (.slice (some ⟨w.heap.size, 0, none⟩) 1 1) (w.alloc (.cells #[.int .i64 x] 3)) := by
    refine ⟨_, 1, rfl, fun i hi => ⟨w.heap.size, 0, rfl, ?_⟩, fun b o e _ => ?_⟩
    · have : i = 0 := by simp [ivs] at hi; omega
      subst this
      exact B.cell rfl
    · injection e with e
      injection e with e
      have := h.lt
      omega
  have := (h.went b).set hs (a := .is [x]) hv
  rw [World.setCell_alloc_past _ _ _ _ h.lt, World.setCell_alloc_past _ _ _ _ (by rw [Rw.set_size]; exact h.lt)] at this
  exact this

/-- Behind the box of a grammar and the list. -/
structure LSt (W : World) (h : Sh) (G : Gram) (q n : Nat) (T : Int → Ans) (w : World) : Prop where
  x : Bx W h G w
  l : LAt q n T w
  lo : W.heap.size < q
theorem LSt.went {W : World} {h : Sh} {G : Gram} {q n : Nat} {T : Int → Ans} {w w' : World} (k : LSt W h G q n T w) (hb : Below w.heap.size w w') : LSt W h G q n T w' := ⟨k.x.went hb, k.l.went hb, k.lo⟩
theorem LSt.fr {W : World} {h : Sh} {G : Gram} {q n : Nat} {T U : Int → Ans} {w w' : World} (k : LSt W h G q n T w) (hF : Sep.Fr (fun i => i = q) w w') (hl : LAt q n U w') : LSt W h G q n U w' :=
  ⟨bx_fr k.x hF fun i hi => by have := k.lo; omega, hl, k.lo⟩
theorem LSt.one {W : World} {h : Sh} {G : Gram} {q n : Nat} {T : Int → Ans} {w : World} (k : LSt W h G q n T w) {s : Nat} (hs : s < n) (x : Int) :
    LSt W h G q n (setA T (s : Int) (.is [x])) (((w.setCell ⟨q, s * 2, none⟩ (.int .i64 1)).setCell ⟨q, s * 2 + 1, none⟩ (.slice (some ⟨w.heap.size, 0, none⟩) 1 1)).alloc (.cells #[.int .i64 x] 3)) :=
  k.fr ((((Sep.Fr.refl (fun i => i = q) w).setCell ⟨q, s * 2, none⟩ rfl _).setCell ⟨q, s * 2 + 1, none⟩ rfl _).alloc _) (k.l.put_one hs x)
theorem LSt.gone {W : World} {h : Sh} {G : Gram} {q n : Nat} {T : Int → Ans} {w : World} (k : LSt W h G q n T w) {s : Nat} (hs : s < n) :
    LSt W h G q n (setA T (s : Int) .none) ((w.setCell ⟨q, s * 2, none⟩ (.int .i64 4098)).setCell ⟨q, s * 2 + 1, none⟩ (.slice none 0 0)) :=
  k.fr (((Sep.Fr.refl (fun i => i = q) w).setCell ⟨q, s * 2, none⟩ rfl _).setCell ⟨q, s * 2 + 1, none⟩ rfl _) (k.l.set hs (a := .none) (wat_nil _ _))

def LvRel (W : World) (h : Sh) (G : Gram) (q n : Nat) (i : Value) (w : World) : Prop :=
  ∃ j : Nat, j ≤ n ∧ i = .int .i64 j ∧ LSt W h G q n (tabTo G j) w
/-- A table of the call's own comes back; nothing that was there is written. -/
def Tabled (n : Nat) (T : Int → Ans) (w : World) (e : Ending) (w' : World) : Prop :=
  ∃ p q, e = .returned (.pointer (some ⟨p, 0, none⟩)) ∧ TAt p q n T w' ∧ w.heap.size ≤ p ∧ w.heap.size ≤ q ∧ Below w.heap.size w w'

end Go.Proofs.YtoipinnfmjaaaaaDoor.Le
