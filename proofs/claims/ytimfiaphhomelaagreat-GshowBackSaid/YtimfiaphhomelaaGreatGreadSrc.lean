/-
  The parser: rows of declarations and of rules, in memory; what is so of the form with fuel enough. Condition: the tokens end with the end.
-/
import Derived.Test.YtimfiaphhomelaaGreatGreadRule
namespace Go.Proofs.YtimfiaphhomelaaGreat.Rd
open Go.RowKit Go.Maps
open Go.Proofs.YtimfiaphhomelaaGreat.Tk (Tok tcs cells cells_length cells_snoc Just info_tok cells_three_new)
set_option linter.unusedVariables false
set_option linter.unusedSimpArgs false

/-- A declaration's cells, and the value of its names. -/
def dc (x : Decl × Value) : List Value := [.int .i64 x.1.mark.k, .string x.1.mark.s, .int .i64 (x.1.mark.at_ : Int), x.2]
/-- Declarations of the call's own in a row. -/
def DeclsV (base : Nat) (D : List Decl) (v : Value) (w : World) : Prop := ∃ L : List (Decl × Value), L.map Prod.fst = D ∧ w.ownsRow base 90 4 v L.length (L.flatMap dc) ∧ (∀ x ∈ L, Toks base x.1.names x.2 w) ∧ ∀ x ∈ L, ∀ g, x.2.ownBlock = some g → v.ownBlock ≠ some g

theorem DeclsV.nil (base : Nat) (w : World) : DeclsV base [] (.slice none 0 0) w := ⟨[], rfl, World.ownsRow_nil _ _ _ _, (fun x hx => by cases hx), (fun x hx => by cases hx)⟩
theorem DeclsV.fr {base : Nat} {S : List Decl} {v : Value} {F : Nat → Prop} {w w' : World} (h : DeclsV base S v w) (k : Sep.Fr F w w') (hF : ∀ b, base ≤ b → ¬ F b) : DeclsV base S v w' := by
  obtain ⟨L, h1, h2, h3, h4⟩ := h
  exact ⟨L, h1, Sep.ownsRow_at h2 fun g hg => k.block g (h2.lt g hg).2 (hF g (h2.lt g hg).1), fun x hx => (h3 x hx).fr k hF, h4⟩
theorem DeclsV.went {base : Nat} {S : List Decl} {v : Value} {w w' : World} (h : DeclsV base S v w) (hb : Below w.heap.size w w') : DeclsV base S v w' := h.fr (Sep.Fr.of_below (S := fun _ => False) hb) fun _ _ => id
theorem DeclsV.blk {base : Nat} {S : List Decl} {v : Value} {w : World} (h : DeclsV base S v w) (g : Nat) (hg : v.ownBlock = some g) : g < w.heap.size := by
  obtain ⟨L, h1, h2, h3⟩ := h
  exact (h2.lt g hg).2
theorem DeclsV.len {base : Nat} {S : List Decl} {v : Value} {w : World} (h : DeclsV base S v w) : ∃ a c, v = .slice a S.length c := by
  obtain ⟨L, h1, h2, h3, h4⟩ := h
  obtain ⟨a, c, rfl⟩ := row_shape h2
  exact ⟨a, c, by rw [← h1, List.length_map]⟩
theorem row_mono {w : World} {b b' size n : Nat} {e : TypeId} {v : Value} {xs : List Value} (h : w.ownsRow b e size v n xs) (hb : b' ≤ b) : w.ownsRow b' e size v n xs := by
  obtain ⟨h1, h2⟩ := h
  refine ⟨h1, h2.imp id ?_⟩
  rintro ⟨g, cap, cur, h3, h4, h5⟩
  exact ⟨g, cap, cur, h3, Nat.le_trans hb h4, h5⟩
theorem DeclsV.mono {b b' : Nat} {S : List Decl} {v : Value} {w : World} (h : DeclsV b S v w) (hb : b' ≤ b) : DeclsV b' S v w := by
  obtain ⟨L, h1, h2, h3, h4⟩ := h
  exact ⟨L, h1, row_mono h2 hb, fun x hx => (h3 x hx).mono hb, h4⟩

theorem decl_one (base q : Nat) (x : Decl × Value) (w : World) (hq : q = w.heap.size) (hb : base ≤ q) : (w.alloc (.cells #[.int .i64 x.1.mark.k, .string x.1.mark.s, .int .i64 (x.1.mark.at_ : Int), x.2] 90)).ownsRow base 90 4 (.slice (some ⟨q, 0, none⟩) 1 1) 1 (dc x) := by
  subst hq
  exact World.ownsRow_lit w #[.int .i64 x.1.mark.k, .string x.1.mark.s, .int .i64 (x.1.mark.at_ : Int), x.2] 1 hb (by decide) (by simp)
theorem info_decl : (Tryz.prog.info? 90).map (fun i => (i.zero, i.size, i.bytes)) = some (some (.agg #[.int .i64 0, .string ByteArray.empty, .int .i64 0, .slice none 0 0]), 4, 56) := by kernel_rfl

/-- A declaration more, put behind the others by append. -/
theorem DeclsV.snoc {base : Nat} {L : List (Decl × Value)} {v v4 : Value} {d : Decl} {nv : Value} {w w3 w4 : World} (hO : w.ownsRow base 90 4 v L.length (L.flatMap dc)) (hT : ∀ x ∈ L, Toks base x.1.names x.2 w) (hA : ∀ x ∈ L, ∀ g, x.2.ownBlock = some g → v.ownBlock ≠ some g)
    (hb : Below w.heap.size w w3) (hN : Toks base d.names nv w3) (hnew : ∀ g, nv.ownBlock = some g → v.ownBlock ≠ some g)
    (h4 : w4.ownsRow base 90 4 v4 (L.length + 1) (L.flatMap dc ++ dc (d, nv))) (hg : (w3.alloc (.cells #[.int .i64 d.mark.k, .string d.mark.s, .int .i64 (d.mark.at_ : Int), nv] 90)).grownBy w4 v.ownBlock)
    (hl : v4.ownBlock = v.ownBlock ∨ v4.ownBlock = some (w3.alloc (.cells #[.int .i64 d.mark.k, .string d.mark.s, .int .i64 (d.mark.at_ : Int), nv] 90)).heap.size) : DeclsV base (L.map Prod.fst ++ [d]) v4 w4 := by
  have bx := Gr.boxed w3 (.cells #[.int .i64 d.mark.k, .string d.mark.s, .int .i64 (d.mark.at_ : Int), nv] 90)
  have lt3 : ∀ x ∈ L ++ [(d, nv)], ∀ g, x.2.ownBlock = some g → g < w3.heap.size := fun x hx g hgx => by
    rcases List.mem_append.1 hx with h | h
    · exact Nat.lt_of_lt_of_le ((hT x h).lt g hgx).2 hb.size
    · rw [List.mem_singleton] at h
      subst h
      exact (hN.lt g hgx).2
  have ne : ∀ x ∈ L ++ [(d, nv)], ∀ g, x.2.ownBlock = some g → v.ownBlock ≠ some g := fun x hx g hgx => by
    rcases List.mem_append.1 hx with h | h
    · exact hA x h g hgx
    · rw [List.mem_singleton] at h
      subst h
      exact hnew g hgx
  refine ⟨L ++ [(d, nv)], by simp, ?_, fun x hx => ?_, fun x hx g hgx e => ?_⟩
  · rw [List.length_append, List.flatMap_append]
    simpa using h4
  · rcases List.mem_append.1 hx with h | h
    · exact Toks.keep4 (hT x h) (Gr.step hb bx) hg (ne x hx)
    · rw [List.mem_singleton] at h
      subst h
      exact Toks.keep4 hN bx hg (ne (d, nv) hx)
  · have hlt := lt3 x hx g hgx
    rcases hl with h5 | h5
    · exact ne x hx g hgx (h5.symm.trans e)
    · rw [h5] at e
      injection e with e
      simp at e
      omega

/-! ### Rules -/

/-- A rule's cells, and the value of its right sides. -/
def rc (x : Rul × Value) : List Value := [.int .i64 x.1.left.k, .string x.1.left.s, .int .i64 (x.1.left.at_ : Int), x.2]

/-- Right sides in a row, all of whose blocks lie between two bounds. -/
def SidesH (lo hi : Nat) (S : List Side) (v : Value) (w : World) : Prop := ∃ L : List (Side × Value), L.map Prod.fst = S ∧ w.ownsRow lo 122 4 v L.length (L.flatMap sc) ∧ (∀ x ∈ L, Toks lo x.1.syms x.2 w) ∧ (∀ x ∈ L, ∀ g, x.2.ownBlock = some g → v.ownBlock ≠ some g) ∧ (∀ g, v.ownBlock = some g → g < hi) ∧ ∀ x ∈ L, ∀ g, x.2.ownBlock = some g → g < hi

theorem SidesH.of {lo : Nat} {S : List Side} {v : Value} {w : World} (h : SidesV lo S v w) : SidesH lo w.heap.size S v w := by
  obtain ⟨L, h1, h2, h3, h4⟩ := h
  exact ⟨L, h1, h2, h3, h4, fun g hg => (h2.lt g hg).2, fun x hx g hg => ((h3 x hx).lt g hg).2⟩
theorem SidesH.sides {lo hi : Nat} {S : List Side} {v : Value} {w : World} (h : SidesH lo hi S v w) : SidesV lo S v w := by
  obtain ⟨L, h1, h2, h3, h4, h5⟩ := h
  exact ⟨L, h1, h2, h3, h4⟩
theorem SidesH.at {lo hi : Nat} {S : List Side} {v : Value} {w w' : World} (h : SidesH lo hi S v w) (hb : ∀ g, lo ≤ g → g < hi → g < w.heap.size → w'.heap[g]? = w.heap[g]?) : SidesH lo hi S v w' := by
  obtain ⟨L, h1, h2, h3, h4, h5, h6⟩ := h
  exact ⟨L, h1, Sep.ownsRow_at h2 fun g hg => hb g (h2.lt g hg).1 (h5 g hg) (h2.lt g hg).2, fun x hx => Sep.ownsRow_at (h3 x hx) fun g hg => hb g ((h3 x hx).lt g hg).1 (h6 x hx g hg) ((h3 x hx).lt g hg).2, h4, h5, h6⟩

/-- Rules of the call's own in a row. -/
def RulesV (base : Nat) (R : List Rul) (v : Value) (w : World) : Prop := ∃ L : List (Rul × Value), L.map Prod.fst = R ∧ w.ownsRow base 94 4 v L.length (L.flatMap rc) ∧
  ∀ x ∈ L, ∃ lo hi, base ≤ lo ∧ hi ≤ w.heap.size ∧ SidesH lo hi x.1.sides x.2 w ∧ ∀ g, v.ownBlock = some g → g < lo ∨ hi ≤ g

theorem RulesV.nil (base : Nat) (w : World) : RulesV base [] (.slice none 0 0) w := ⟨[], rfl, World.ownsRow_nil _ _ _ _, (fun x hx => by cases hx)⟩
theorem RulesV.fr {base : Nat} {S : List Rul} {v : Value} {F : Nat → Prop} {w w' : World} (h : RulesV base S v w) (k : Sep.Fr F w w') (hF : ∀ b, base ≤ b → ¬ F b) : RulesV base S v w' := by
  obtain ⟨L, h1, h2, h3⟩ := h
  refine ⟨L, h1, Sep.ownsRow_at h2 fun g hg => k.block g (h2.lt g hg).2 (hF g (h2.lt g hg).1), fun x hx => ?_⟩
  obtain ⟨lo, hi, g1, g2, g3, g4⟩ := h3 x hx
  exact ⟨lo, hi, g1, Nat.le_trans g2 k.size, g3.at fun g hg _ hl => k.block g hl (hF g (Nat.le_trans g1 hg)), g4⟩
theorem RulesV.went {base : Nat} {S : List Rul} {v : Value} {w w' : World} (h : RulesV base S v w) (hb : Below w.heap.size w w') : RulesV base S v w' := h.fr (Sep.Fr.of_below (S := fun _ => False) hb) fun _ _ => id
theorem RulesV.len {base : Nat} {S : List Rul} {v : Value} {w : World} (h : RulesV base S v w) : ∃ a c, v = .slice a S.length c := by
  obtain ⟨L, h1, h2, h3⟩ := h
  obtain ⟨a, c, rfl⟩ := row_shape h2
  exact ⟨a, c, by rw [← h1, List.length_map]⟩
theorem RulesV.mono {b b' : Nat} {S : List Rul} {v : Value} {w : World} (h : RulesV b S v w) (hb : b' ≤ b) : RulesV b' S v w := by
  obtain ⟨L, h1, h2, h3⟩ := h
  refine ⟨L, h1, row_mono h2 hb, fun x hx => ?_⟩
  obtain ⟨lo, hi, g1, g2⟩ := h3 x hx
  exact ⟨lo, hi, Nat.le_trans hb g1, g2⟩

theorem rule_one (base q : Nat) (x : Rul × Value) (w : World) (hq : q = w.heap.size) (hb : base ≤ q) : (w.alloc (.cells #[.int .i64 x.1.left.k, .string x.1.left.s, .int .i64 (x.1.left.at_ : Int), x.2] 94)).ownsRow base 94 4 (.slice (some ⟨q, 0, none⟩) 1 1) 1 (rc x) := by
  subst hq
  exact World.ownsRow_lit w #[.int .i64 x.1.left.k, .string x.1.left.s, .int .i64 (x.1.left.at_ : Int), x.2] 1 hb (by decide) (by simp)
theorem info_rule : (Tryz.prog.info? 94).map (fun i => (i.zero, i.size, i.bytes)) = some (some (.agg #[.int .i64 0, .string ByteArray.empty, .int .i64 0, .slice none 0 0]), 4, 56) := by kernel_rfl

/-- A rule more, put behind the others by append; its right sides were made between w and w3. -/
theorem RulesV.snoc {base lo : Nat} {L : List (Rul × Value)} {v v4 : Value} {d : Rul} {nv : Value} {w w3 w4 : World} (hO : w.ownsRow base 94 4 v L.length (L.flatMap rc)) (hT : ∀ x ∈ L, ∃ lo hi, base ≤ lo ∧ hi ≤ w.heap.size ∧ SidesH lo hi x.1.sides x.2 w ∧ ∀ g, v.ownBlock = some g → g < lo ∨ hi ≤ g)
    (hb : ∀ g, base ≤ g → g < w.heap.size → w3.heap[g]? = w.heap[g]?) (hsz : w.heap.size ≤ lo) (hlo3 : w.heap.size ≤ w3.heap.size) (hN : SidesV lo d.sides nv w3) (hbl : base ≤ lo)
    (h4 : w4.ownsRow base 94 4 v4 (L.length + 1) (L.flatMap rc ++ rc (d, nv))) (hg : (w3.alloc (.cells #[.int .i64 d.left.k, .string d.left.s, .int .i64 (d.left.at_ : Int), nv] 94)).grownBy w4 v.ownBlock)
    (hl : v4.ownBlock = v.ownBlock ∨ v4.ownBlock = some (w3.alloc (.cells #[.int .i64 d.left.k, .string d.left.s, .int .i64 (d.left.at_ : Int), nv] 94)).heap.size) : RulesV base (L.map Prod.fst ++ [d]) v4 w4 := by
  have bx := Gr.boxed w3 (.cells #[.int .i64 d.left.k, .string d.left.s, .int .i64 (d.left.at_ : Int), nv] 94)
  have hz4 : w3.heap.size + 1 ≤ w4.heap.size := by have := hg.size; simpa using this
  have hv4 : ∀ g, v4.ownBlock = some g → v.ownBlock = some g ∨ g = w3.heap.size + 1 := fun g e => by
    rcases hl with h5 | h5
    · exact .inl (h5.symm.trans e)
    · rw [h5] at e
      injection e with e
      simp at e
      exact .inr e.symm
  have keep : ∀ g, g < w3.heap.size → v.ownBlock ≠ some g → w4.heap[g]? = w3.heap[g]? := fun g h1 h2 => (hg.block g (by simp; omega) (fun e => h2 e.symm)).trans (bx.block g h1)
  refine ⟨L ++ [(d, nv)], by simp, ?_, fun x hx => ?_⟩
  · rw [List.length_append, List.flatMap_append]
    simpa using h4
  · rcases List.mem_append.1 hx with h | h
    · obtain ⟨lo', hi', g1, g2, g3, g4⟩ := hT x h
      refine ⟨lo', hi', g1, by omega, g3.at fun g k1 k2 k3 => ?_, fun g hgv => ?_⟩
      · exact (keep g (by omega) (fun e => by have := g4 g e; omega)).trans (hb g (Nat.le_trans g1 k1) k3)
      · rcases hv4 g hgv with e | e
        · exact g4 g e
        · exact .inr (by omega)
    · rw [List.mem_singleton] at h
      subst h
      refine ⟨lo, w3.heap.size, hbl, by omega, (SidesH.of hN).at fun g k1 k2 k3 => ?_, fun g hgv => ?_⟩
      · exact keep g k2 (fun e => by have := (hO.lt g e).2; omega)
      · rcases hv4 g hgv with e | e
        · exact .inl (by have := (hO.lt g e).2; omega)
        · exact .inr (by omega)

/-- A source's value. -/
def SrcV (base : Nat) (S : Src) (v : Value) (w : World) : Prop := ∃ dv rv, v = .agg #[dv, rv] ∧ DeclsV base S.decls dv w ∧ RulesV base S.rules rv w

/-! ### The form, with fuel enough -/

theorem decls_fuel {l : List Tok} {acc : List Decl} {x : Pr (List Decl)} (h : Is (fun f => declsP f l acc) x) : ∃ f, declsP (f + 1) l acc = x ∧ x ≠ .out := by
  obtain ⟨f, hf, hx⟩ := h
  cases f with
  | zero => exact absurd hf.symm hx
  | succ f => exact ⟨f, hf, hx⟩
theorem decls_stop {l : List Tok} {acc : List Decl} {x : Pr (List Decl)} (h : Is (fun f => declsP f l acc) x) (hk : (headT l).k = 6) : x = .ok acc l := by
  obtain ⟨f, hf, hx⟩ := decls_fuel h
  rw [declsP, if_pos hk] at hf
  exact hf.symm
theorem decls_no {l : List Tok} {acc : List Decl} {x : Pr (List Decl)} {e : Int} {q : Nat} (h : Is (fun f => declsP f l acc) x) (hk : ¬ (headT l).k = 6) (hd : declP l = .no e q) : x = .no e q := by
  obtain ⟨f, hf, hx⟩ := decls_fuel h
  rw [declsP, if_neg hk, hd] at hf
  exact hf.symm
theorem decls_more {l r : List Tok} {acc : List Decl} {x : Pr (List Decl)} {d : Decl} (h : Is (fun f => declsP f l acc) x) (hk : ¬ (headT l).k = 6) (hd : declP l = .ok d r) : Is (fun f => declsP f r (acc ++ [d])) x := by
  obtain ⟨f, hf, hx⟩ := decls_fuel h
  rw [declsP, if_neg hk, hd] at hf
  exact ⟨f, hf, hx⟩

theorem rules_fuel {l : List Tok} {acc : List Rul} {x : Pr (List Rul)} (h : Is (fun f => rulesP f l acc) x) : ∃ f, rulesP (f + 1) l acc = x ∧ x ≠ .out := by
  obtain ⟨f, hf, hx⟩ := h
  cases f with
  | zero => exact absurd hf.symm hx
  | succ f => exact ⟨f, hf, hx⟩
theorem rules_stop {l : List Tok} {acc : List Rul} {x : Pr (List Rul)} (h : Is (fun f => rulesP f l acc) x) (hk : (headT l).k = 0) : x = .ok acc l := by
  obtain ⟨f, hf, hx⟩ := rules_fuel h
  rw [rulesP, if_pos hk] at hf
  exact hf.symm
theorem rules_no {l : List Tok} {acc : List Rul} {x : Pr (List Rul)} {e : Int} {q : Nat} (h : Is (fun f => rulesP f l acc) x) (hk : ¬ (headT l).k = 0) (hl : EndT l) (hd : Is (fun f => ruleP f l) (.no e q)) : x = .no e q := by
  obtain ⟨f, hf, hx⟩ := rules_fuel h
  rw [rulesP, if_neg hk] at hf
  cases h1 : ruleP (f + 1) l with
  | out => rw [h1] at hf; exact absurd hf.symm hx
  | no e2 q2 =>
    have := Is.one (fun a b hab => ruleP_le a b l hab) hd ⟨f + 1, h1, (fun h => by cases h)⟩
    injection this with a1 a2
    rw [h1] at hf
    rw [← hf, a1, a2]
    rfl
  | ok R r =>
    have := Is.one (fun a b hab => ruleP_le a b l hab) hd ⟨f + 1, h1, (fun h => by cases h)⟩
    cases this
theorem rules_more {l r : List Tok} {acc : List Rul} {x : Pr (List Rul)} {R : Rul} (h : Is (fun f => rulesP f l acc) x) (hk : ¬ (headT l).k = 0) (hd : Is (fun f => ruleP f l) (.ok R r)) : Is (fun f => rulesP f r (acc ++ [R])) x := by
  obtain ⟨f, hf, hx⟩ := rules_fuel h
  rw [rulesP, if_neg hk] at hf
  cases h1 : ruleP (f + 1) l with
  | out => rw [h1] at hf; exact absurd hf.symm hx
  | no e2 q2 =>
    have := Is.one (fun a b hab => ruleP_le a b l hab) hd ⟨f + 1, h1, (fun h => by cases h)⟩
    cases this
  | ok R2 r2 =>
    have := Is.one (fun a b hab => ruleP_le a b l hab) hd ⟨f + 1, h1, (fun h => by cases h)⟩
    injection this with a1 a2
    subst a1 a2
    rw [h1] at hf
    exact ⟨f, hf, hx⟩
theorem rule_is {l : List Tok} (h : EndT l) : ∃ x, Is (fun f => ruleP f l) x ∧ ∀ R r, x = .ok R r → EndT r ∧ r.length < l.length := by
  obtain ⟨h1, h2⟩ := ruleP_in l.length l h (Nat.le_refl _)
  exact ⟨_, ⟨l.length, rfl, h1⟩, fun R r e => h2 R r e⟩

end Go.Proofs.YtimfiaphhomelaaGreat.Rd
