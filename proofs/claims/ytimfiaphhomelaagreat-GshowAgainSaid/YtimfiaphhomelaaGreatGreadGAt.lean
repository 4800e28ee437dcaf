/-
  The maker: rules of the call's own in a row, of which one more is put behind the others; they read as a grammar's rules. Condition: the sizes fit.
-/
import Derived.Test.YtimfiaphhomelaaGreatGreadLefts
namespace Go.Proofs.YtimfiaphhomelaaGreat.Rd
open Go.RowKit Go.Maps
open Go.Proofs.YtimfiaphhomelaaGreat.Tk (Tok tcs cells cells_length cells_snoc Just info_tok cells_three_new)
set_option linter.unusedVariables false
set_option linter.unusedSimpArgs false

/-- A rule's cells, and the value of its right side. -/
def gc (x : (Int × List Int) × Value) : List Value := [.int .i64 x.1.1, x.2]
theorem gc_length (x : (Int × List Int) × Value) : (gc x).length = 2 := rfl

/-- Rules of a grammar in a row. -/
def GRules (base : Nat) (X : List (Int × List Int)) (v : Value) (w : World) : Prop := ∃ L : List ((Int × List Int) × Value), L.map Prod.fst = X ∧ w.ownsRow base 40 2 v L.length (L.flatMap gc) ∧ (∀ x ∈ L, IntsV base x.1.2 x.2 w) ∧ ∀ x ∈ L, ∀ g, x.2.ownBlock = some g → v.ownBlock ≠ some g

theorem GRules.nil (base : Nat) (w : World) : GRules base [] (.slice none 0 0) w := ⟨[], rfl, World.ownsRow_nil _ _ _ _, (fun x hx => by cases hx), (fun x hx => by cases hx)⟩
theorem GRules.went {base : Nat} {X : List (Int × List Int)} {v : Value} {w w' : World} (h : GRules base X v w) (hb : Below w.heap.size w w') : GRules base X v w' := by
  obtain ⟨L, h1, h2, h3, h4⟩ := h
  exact ⟨L, h1, Sep.ownsRow_at h2 fun g hg => hb.block g (h2.lt g hg).2, fun x hx => (h3 x hx).went hb, h4⟩
theorem IntsV.at {base : Nat} {X : List Int} {v : Value} {w w' : World} (h : IntsV base X v w) (hb : ∀ g, v.ownBlock = some g → w'.heap[g]? = w.heap[g]?) : IntsV base X v w' := Sep.ownsRow_at h hb
/-- Another block's cell is written. -/
theorem GRules.set {base : Nat} {X : List (Int × List Int)} {v : Value} {w : World} (h : GRules base X v w) (p : Addr) (u : Value) (hp : p.block < base) : GRules base X v (w.setCell p u) := by
  obtain ⟨L, h1, h2, h3, h4⟩ := h
  exact ⟨L, h1, Sep.ownsRow_at h2 fun g hg => Below.heap_setCell _ _ _ _ (by have := (h2.lt g hg).1; omega), fun x hx => (h3 x hx).at fun g hg => Below.heap_setCell _ _ _ _ (by have := (World.ownsRow.lt (h3 x hx) g hg).1; omega), h4⟩
theorem GRules.len {base : Nat} {X : List (Int × List Int)} {v : Value} {w : World} (h : GRules base X v w) : ∃ a c, v = .slice a X.length c ∧ X.length ≤ c := by
  obtain ⟨L, rfl, h2, h3, h4⟩ := h
  rcases h2.2 with ⟨rfl, h0⟩ | ⟨g, cap, cur, rfl, _, _, h5, _⟩
  · exact ⟨none, 0, by rw [List.length_map, h0], by rw [List.length_map, h0]; exact Nat.le_refl _⟩
  · exact ⟨_, cap, by rw [List.length_map], by rw [List.length_map]; exact h5⟩

theorem two_at {α : Type} (f : α → List Value) (hf : ∀ x, (f x).length = 2) (L : List α) (j : Nat) (hj : j < L.length) (i : Nat) (hi : i < 2) : (L.flatMap f)[j * 2 + i]? = (f L[j])[i]? := by
  induction L generalizing j with
  | nil => simp at hj
  | cons t T ih =>
    rw [List.flatMap_cons]
    cases j with
    | zero => rw [List.getElem?_append_left (by rw [hf]; omega)]; simp
    | succ j =>
      rw [List.getElem?_append_right (by rw [hf]; omega), hf, show (j + 1) * 2 + i - 2 = j * 2 + i by omega, ih j (by simpa using hj)]
      simp

/-- They read as a grammar's rules. -/
theorem GRules.at {base : Nat} {X : List (Int × List Int)} {a : Option Addr} {c : Nat} {w : World} (h : GRules base X (.slice a X.length c) w) (hs : ∀ r ∈ X, r.2.length ≤ 10000) : Gr.RulesAt a X w := by
  obtain ⟨L, rfl, h2, h3, h4⟩ := h
  intro i hi
  have hi' : i < L.length := by simpa using hi
  have hm := List.getElem_mem hi'
  rcases h2.2 with ⟨_, h0⟩ | ⟨g, cap, cur, he, _⟩
  · omega
  · simp only [Value.slice.injEq] at he
    obtain ⟨rfl, _, _⟩ := he
    have hc := World.ownsRow.cells h2 (g := g) rfl
    have hI := h3 _ hm
    obtain ⟨ra, rc, hv⟩ := row_shape hI
    have hl : (L[i].1.2).length ≤ 10000 := hs _ (by rw [List.mem_map]; exact ⟨_, hm, rfl⟩)
    refine ⟨g, 0, ra, rc, rfl, ?_, ?_, ?_, ?_, ?_⟩
    · rw [List.getElem_map]
      have := hc (i * 2 + 0) _ (two_at gc gc_length L i hi' 0 (by omega))
      rw [WideShapes.add_plain] at this
      simpa using this
    · rw [List.getElem_map, ← hv]
      have := hc (i * 2 + 1) _ (two_at gc gc_length L i hi' 1 (by omega))
      rw [WideShapes.add_plain] at this
      simpa using this
    · rw [List.getElem_map]
      unfold IntsV at hI
      rw [hv] at hI
      exact Sep.Reads.of_row hI
    · rw [List.getElem_map]
      unfold IntsV at hI
      rw [hv] at hI
      rcases hI.2 with ⟨h5, h6⟩ | ⟨_, _, _, h5, _, _, h6, _⟩
      · simp only [Value.slice.injEq] at h5
        omega
      · simp only [Value.slice.injEq] at h5
        omega
    · rw [List.getElem_map]
      omega

theorem rule2_one (base q : Nat) (x : (Int × List Int) × Value) (w : World) (hq : q = w.heap.size) (hb : base ≤ q) : (w.alloc (.cells #[.int .i64 x.1.1, x.2] 40)).ownsRow base 40 2 (.slice (some ⟨q, 0, none⟩) 1 1) 1 (gc x) := by
  subst hq
  exact World.ownsRow_lit w #[.int .i64 x.1.1, x.2] 1 hb (by decide) (by simp)
theorem info_rule2 : (Tryz.prog.info? 40).map (fun i => (i.zero, i.size, i.bytes)) = some (some (.agg #[.int .i64 0, .slice none 0 0]), 2, 32) := by kernel_rfl

theorem IntsV.keep4 {b : Nat} {X : List Int} {u v : Value} {w w1 w2 : World} (h : IntsV b X u w) (h1 : Below w.heap.size w w1) (hg : w1.grownBy w2 v.ownBlock) (hne : ∀ g, u.ownBlock = some g → v.ownBlock ≠ some g) : IntsV b X u w2 :=
  Sep.ownsRow_at h fun g hgu => (hg.block g (Nat.lt_of_lt_of_le (World.ownsRow.lt h g hgu).2 h1.size) (fun e => hne g hgu e.symm)).trans (h1.block g (World.ownsRow.lt h g hgu).2)
theorem IntsV.mono {b b' : Nat} {X : List Int} {u : Value} {w : World} (h : IntsV b X u w) (hb : b' ≤ b) : IntsV b' X u w := row_mono h hb

/-- A rule more, put behind the others by append; its right side was made behind w. -/
theorem GRules.snoc {base : Nat} {L : List ((Int × List Int) × Value)} {v v4 : Value} {d : Int × List Int} {nv : Value} {w w3 w4 : World} (hO : w.ownsRow base 40 2 v L.length (L.flatMap gc)) (hT : ∀ x ∈ L, IntsV base x.1.2 x.2 w) (hA : ∀ x ∈ L, ∀ g, x.2.ownBlock = some g → v.ownBlock ≠ some g)
    (hb : Below w.heap.size w w3) (hN : IntsV w.heap.size d.2 nv w3) (hbl : base ≤ w.heap.size)
    (h4 : w4.ownsRow base 40 2 v4 (L.length + 1) (L.flatMap gc ++ gc (d, nv))) (hg : (w3.alloc (.cells #[.int .i64 d.1, nv] 40)).grownBy w4 v.ownBlock)
    (hl : v4.ownBlock = v.ownBlock ∨ v4.ownBlock = some (w3.alloc (.cells #[.int .i64 d.1, nv] 40)).heap.size) : GRules base (L.map Prod.fst ++ [d]) v4 w4 := by
  have bx := Gr.boxed w3 (.cells #[.int .i64 d.1, nv] 40)
  have hnew : ∀ g, nv.ownBlock = some g → v.ownBlock ≠ some g := fun g hg e => by
    have h1 := (World.ownsRow.lt hN g hg).1
    have h2 := (hO.lt g e).2
    omega
  have lt3 : ∀ x ∈ L ++ [(d, nv)], ∀ g, x.2.ownBlock = some g → g < w3.heap.size := fun x hx g hgx => by
    rcases List.mem_append.1 hx with h | h
    · exact Nat.lt_of_lt_of_le (World.ownsRow.lt (hT x h) g hgx).2 hb.size
    · rw [List.mem_singleton] at h
      subst h
      exact (World.ownsRow.lt hN g hgx).2
  have ne : ∀ x ∈ L ++ [(d, nv)], ∀ g, x.2.ownBlock = some g → v.ownBlock ≠ some g := fun x hx g hgx => by
    rcases List.mem_append.1 hx with h | h
    · exact hA x h g hgx
    · rw [List.mem_singleton] at h
      subst h
      exact hnew g hgx
  refine ⟨L ++ [(d, nv)], by simp, ?_, fun x hx => ?_, fun x hx g hgx e => ?_⟩
  · rw [List.length_append, List.flatMap_append]
    simpa using h4
  · rcases List.mem_append.1 hx with h | h
    · exact (hT x h).keep4 (Gr.step hb bx) hg (ne x hx)
    · rw [List.mem_singleton] at h
      subst h
      exact (hN.keep4 bx hg (ne (d, nv) hx)).mono hbl
  · have hlt := lt3 x hx g hgx
    rcases hl with h5 | h5
    · exact ne x hx g hgx (h5.symm.trans e)
    · rw [h5] at e
      injection e with e
      simp at e
      omega

end Go.Proofs.YtimfiaphhomelaaGreat.Rd
