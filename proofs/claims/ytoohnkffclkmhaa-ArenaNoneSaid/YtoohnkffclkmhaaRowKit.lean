/-
  Blocks, rows of several cells and a grammar's rules in a row of the call's own; append of one row to another. No function of the program in it. Condition: the sizes fit.
-/
import Derived.Test.YtoohnkffclkmhaaGramOf
import Derived.Deep.AppendLies
import Derived.Deep.RegionLaw
namespace Go.Proofs.Ytoohnkffclkmhaa.Rw
open Go.RowKit Go.Maps
set_option linter.unusedVariables false
set_option linter.unusedSimpArgs false

theorem run_append_rows {P : Program} (w : World) (t ty : TypeId) (base : Nat) (e : TypeId) (i : TypeInfo) (z : Value) (size bytes : Nat) (ht : P.underlying t = some (.slice e)) (hi : P.info? e = some i) (hz : i.zero = some z)
    (hsize : i.size = size) (hby : i.bytes = bytes) (hzs : z.cells.size = size) (hpos : 0 < size) (v : Value) (n : Nat) (xs : List Value) (hown : w.ownsRow base e size v n xs)
    (base2 : Nat) (v2 : Value) (m : Nat) (ys : List Value) (hown2 : w.ownsRow base2 e size v2 m ys) (h1 : ∀ u ∈ ys, u.oneCell' = true)
    (h63 : n + m ≤ maxLen) (hbytes : (n + m) * bytes ≤ 140737488355328) (hbase : base ≤ w.heap.size) :
    ∃ v' w', (Builtin.append_ #[t, t] ty #[v, v2]).run P w = .ok v' w' ∧ w'.ownsRow base e size v' (n + m) (xs ++ ys) ∧ w.grownBy w' v.ownBlock ∧ (v'.ownBlock = v.ownBlock ∨ v'.ownBlock = some w.heap.size) := by
  have hlen := hown2.1
  rcases hown2.2 with ⟨rfl, rfl⟩ | ⟨g2, cap2, cur2, rfl, hbg2, hg2, hnc2, hcm2, hcs2, htake2⟩
  · have h0 : ys = [] := List.eq_nil_of_length_eq_zero (by simpa using hlen)
    subst h0
    refine ⟨v, w, ?_, by simpa using hown, ⟨rfl, rfl, rfl, Nat.le_refl _, fun _ _ _ => rfl⟩, .inl rfl⟩
    rcases hown.2 with ⟨rfl, rfl⟩ | ⟨g, cap, cur, rfl, hbg, hg, hnc, hcm, hcs, htake⟩
    · simp [Builtin.append_, run_underlying ht, sizeOf, typeInfo, hi, Builtin.lenOf, Builtin.firstCells]
    · simp [Builtin.append_, run_underlying ht, sizeOf, typeInfo, hi, Builtin.lenOf, Builtin.firstCells, loadCells, storeCells, hnc]
  · obtain ⟨v', w', h2, h3, h4, _, h5⟩ := run_append_own_at (P := P) w base t ty e i z size bytes ht hi hz hsize hby hzs hpos v n xs hown ⟨g2, 0, none⟩ m cap2 ys hlen (hown2.cells rfl) h1 h63 hbytes hbase
    exact ⟨v', w', h2, h3, h4, h5⟩
theorem wp_append_rows {P : Program} (w : World) {o : Oper} {a : Act} {K : Act → World → Prop} {Q : Exit → Act → World → Prop} (s x : Operand) (t : TypeId)
    (ho : o.op = .call { callee := .builtin .append, args := #[s, x], argTypes := #[t, t] })
    (base : Nat) (e : TypeId) (i : TypeInfo) (z : Value) (size bytes : Nat) (ht : P.underlying t = some (.slice e)) (hi : P.info? e = some i) (hz : i.zero = some z)
    (hsize : i.size = size) (hby : i.bytes = bytes) (hzs : z.cells.size = size) (hpos : 0 < size) (v : Value) (n : Nat) (xs : List Value) (hs : a.eval s = v) (hown : w.ownsRow base e size v n xs)
    (base2 : Nat) (v2 : Value) (m : Nat) (ys : List Value) (hx : a.eval x = v2) (hown2 : w.ownsRow base2 e size v2 m ys) (h1 : ∀ u ∈ ys, u.oneCell' = true)
    (h63 : n + m ≤ maxLen) (hbytes : (n + m) * bytes ≤ 140737488355328) (hbase : base ≤ w.heap.size)
    (h : ∀ v' w', w'.ownsRow base e size v' (n + m) (xs ++ ys) → w.grownBy w' v.ownBlock → (v'.ownBlock = v.ownBlock ∨ v'.ownBlock = some w.heap.size) → K (a.put o.dst v') w') : o.wp P a w K Q := by
  obtain ⟨v', w', hr, h2, h3, h4⟩ := run_append_rows (P := P) w t o.type base e i z size bytes ht hi hz hsize hby hzs hpos v n xs hown base2 v2 m ys hown2 h1 h63 hbytes hbase
  unfold Oper.wp execOp
  simp only [ho, resolve, invoke, builtin, Sem.run_bind, Sem.run_pure, Result.andThen_ok, List.map_toArray, List.map_cons, List.map_nil, hs, hx, hr]
  exact h v' w' h2 h3 h4
theorem wpList_append_rows {P : Program} (w : World) {ops : Array Oper} {rest : List Oper} {o : Oper} {a : Act} {Q : Exit → Act → World → Prop} (hgd : o.guard = none) (s x : Operand) (t : TypeId)
    (ho : o.op = .call { callee := .builtin .append, args := #[s, x], argTypes := #[t, t] })
    (base : Nat) (e : TypeId) (i : TypeInfo) (z : Value) (size bytes : Nat) (ht : P.underlying t = some (.slice e)) (hi : P.info? e = some i) (hz : i.zero = some z)
    (hsize : i.size = size) (hby : i.bytes = bytes) (hzs : z.cells.size = size) (hpos : 0 < size) (v : Value) (n : Nat) (xs : List Value) (hs : a.eval s = v) (hown : w.ownsRow base e size v n xs)
    (base2 : Nat) (v2 : Value) (m : Nat) (ys : List Value) (hx : a.eval x = v2) (hown2 : w.ownsRow base2 e size v2 m ys) (h1 : ∀ u ∈ ys, u.oneCell' = true)
    (h63 : n + m ≤ maxLen) (hbytes : (n + m) * bytes ≤ 140737488355328) (hbase : base ≤ w.heap.size)
    (h : ∀ v' w', w'.ownsRow base e size v' (n + m) (xs ++ ys) → w.grownBy w' v.ownBlock → (v'.ownBlock = v.ownBlock ∨ v'.ownBlock = some w.heap.size) → wpList P ops Q rest (a.put o.dst v') w') : wpList P ops Q (o :: rest) a w :=
  wpList_plain hgd fun _ hK => wp_append_rows w s x t ho base e i z size bytes ht hi hz hsize hby hzs hpos v n xs hs hown base2 v2 m ys hx hown2 h1 h63 hbytes hbase fun v' w' h2 h3 h4 => hK _ _ (h v' w' h2 h3 h4)
theorem step_append_rows {P : Program} (w : World) {ops : Array Oper} {o : Oper} {a : Act} {K : Act → World → Prop} {Q : Exit → Act → World → Prop} {E : Prop} (hgd : o.guard = none) (s x : Operand) (t : TypeId)
    (ho : o.op = .call { callee := .builtin .append, args := #[s, x], argTypes := #[t, t] })
    (base : Nat) (e : TypeId) (i : TypeInfo) (z : Value) (size bytes : Nat) (ht : P.underlying t = some (.slice e)) (hi : P.info? e = some i) (hz : i.zero = some z)
    (hsize : i.size = size) (hby : i.bytes = bytes) (hzs : z.cells.size = size) (hpos : 0 < size) (v : Value) (n : Nat) (xs : List Value) (hs : a.eval s = v) (hown : w.ownsRow base e size v n xs)
    (base2 : Nat) (v2 : Value) (m : Nat) (ys : List Value) (hx : a.eval x = v2) (hown2 : w.ownsRow base2 e size v2 m ys) (h1 : ∀ u ∈ ys, u.oneCell' = true)
    (h63 : n + m ≤ maxLen) (hbytes : (n + m) * bytes ≤ 140737488355328) (hbase : base ≤ w.heap.size)
    (h : ∀ v' w', w'.ownsRow base e size v' (n + m) (xs ++ ys) → w.grownBy w' v.ownBlock → (v'.ownBlock = v.ownBlock ∨ v'.ownBlock = some w.heap.size) → K (a.put o.dst v') w') :
    if Region.wanted o (yielded ops a.tmps) = true then Oper.wp P o a w K Q else E := by
  have hw : Region.wanted o (yielded ops a.tmps) = true := by simp [Region.wanted, hgd]
  rw [if_pos hw]
  exact wp_append_rows w s x t ho base e i z size bytes ht hi hz hsize hby hzs hpos v n xs hs hown base2 v2 m ys hx hown2 h1 h63 hbytes hbase h
theorem row_shape {w : World} {base size n : Nat} {e : TypeId} {v : Value} {xs : List Value} (h : w.ownsRow base e size v n xs) : ∃ a cap, v = .slice a n cap := by
  rcases h.2 with ⟨rfl, rfl⟩ | ⟨g, cap, cur, rfl, _⟩
  · exact ⟨_, _, rfl⟩
  · exact ⟨_, _, rfl⟩
theorem row_mono {w : World} {b b' size n : Nat} {e : TypeId} {v : Value} {xs : List Value} (h : w.ownsRow b e size v n xs) (hb : b' ≤ b) : w.ownsRow b' e size v n xs := by
  obtain ⟨h1, h2⟩ := h
  refine ⟨h1, h2.imp id ?_⟩
  rintro ⟨g, cap, cur, h3, h4, h5⟩
  exact ⟨g, cap, cur, h3, Nat.le_trans hb h4, h5⟩
/-- The frame of the parser behind a call of its own, in a later world. -/
theorem fr_step {p : Nat} {w w1 w2 : World} (h : Below w.heap.size w w1) (k : Sep.Fr (fun k => k = p) w1 w2) : Sep.Fr (fun k => k = p) w w2 :=
  (Sep.Fr.of_below (S := fun k => k = p) h).trans k fun _ hk => .inl hk
/-- A block that holds just these cells. -/
def Bk (q : Nat) (cs : Array Value) (T : TypeId) (w : World) : Prop := w.heap[q]? = some (.cells cs T)
theorem Bk.new (w : World) (cs : Array Value) (T : TypeId) (n : Nat) (hn : n = w.heap.size) : Bk n cs T (w.alloc (.cells cs T)) := by
  subst hn
  exact heap_alloc_new w _
theorem Bk.lt {q : Nat} {cs : Array Value} {T : TypeId} {w : World} (h : Bk q cs T w) : q < w.heap.size := by
  rcases Nat.lt_or_ge q w.heap.size with h1 | h1
  · exact h1
  · unfold Bk at h
    rw [Array.getElem?_eq_none h1] at h
    cases h
theorem Bk.fr {q : Nat} {cs : Array Value} {T : TypeId} {S : Nat → Prop} {w w' : World} (h : Bk q cs T w) (k : Sep.Fr S w w') (hq : ¬ S q) : Bk q cs T w' := (k.block q h.lt hq).trans h
theorem Bk.went {q : Nat} {cs : Array Value} {T : TypeId} {w w' : World} (h : Bk q cs T w) (k : Below w.heap.size w w') : Bk q cs T w' := (k.block q h.lt).trans h
theorem Bk.cell {q : Nat} {cs : Array Value} {T : TypeId} {w : World} (h : Bk q cs T w) {j : Nat} {v : Value} (hv : cs[j]? = some v) : w.cell? ⟨q, j, none⟩ = some v := by
  unfold Bk at h
  simp [World.cell?, h, hv]
theorem Bk.free {q : Nat} {cs : Array Value} {T : TypeId} {w : World} (h : Bk q cs T w) (j : Nat) : w.frozen? ⟨q, j, none⟩ = false := by
  unfold Bk at h
  simp [World.frozen?, h]
theorem Bk.four {q : Nat} {a b c d : Value} {T : TypeId} {w : World} (h : Bk q #[a, b, c, d] T w) : w.cell? ⟨q, 0, none⟩ = some a ∧ w.cell? ⟨q, 1, none⟩ = some b ∧ w.cell? ⟨q, 2, none⟩ = some c ∧ w.cell? ⟨q, 3, none⟩ = some d ∧ (∀ j, w.frozen? ⟨q, j, none⟩ = false) :=
  ⟨h.cell rfl, h.cell rfl, h.cell rfl, h.cell rfl, h.free⟩
theorem Bk.three {q : Nat} {a b c : Value} {T : TypeId} {w : World} (h : Bk q #[a, b, c] T w) : w.cell? ⟨q, 0, none⟩ = some a ∧ w.cell? ⟨q, 1, none⟩ = some b ∧ w.cell? ⟨q, 2, none⟩ = some c ∧ (∀ j, w.frozen? ⟨q, j, none⟩ = false) :=
  ⟨h.cell rfl, h.cell rfl, h.cell rfl, h.free⟩
theorem set_size (w : World) (a : Addr) (v : Value) : (w.setCell a v).heap.size = w.heap.size := by simp [World.setCell]
/-- Four stores into one block. -/
theorem fr_set4 (w : World) (q : Nat) (a b c d : Value) : Sep.Fr (fun k => k = q) w ((((w.setCell ⟨q, 0, none⟩ a).setCell ⟨q, 1, none⟩ b).setCell ⟨q, 2, none⟩ c).setCell ⟨q, 3, none⟩ d) :=
  ((((Sep.Fr.refl (fun k => k = q) w).setCell ⟨q, 0, none⟩ rfl a).setCell ⟨q, 1, none⟩ rfl b).setCell ⟨q, 2, none⟩ rfl c).setCell ⟨q, 3, none⟩ rfl d
theorem set4_size (w : World) (q : Nat) (a b c d : Value) : ((((w.setCell ⟨q, 0, none⟩ a).setCell ⟨q, 1, none⟩ b).setCell ⟨q, 2, none⟩ c).setCell ⟨q, 3, none⟩ d).heap.size = w.heap.size := by
  rw [set_size, set_size, set_size, set_size]
theorem fr_new {p : Nat} {w w1 w2 : World} {q : Nat} (h : Sep.Fr (fun k => k = p) w w1) (k : Sep.Fr (fun b => b = q) w1 w2) (hq : w.heap.size ≤ q) : Sep.Fr (fun k => k = p) w w2 := h.trans k fun b hb => .inr (by omega)
theorem Bk.grown {q : Nat} {cs : Array Value} {T : TypeId} {w w' : World} {row : Option Nat} (h : Bk q cs T w) (hg : w.grownBy w' row) (hr : ∀ k, row = some k → k ≠ q) : Bk q cs T w' :=
  (hg.block q h.lt (fun e => hr q e.symm rfl)).trans h
theorem Bk.set {q j : Nat} {cs : Array Value} {T : TypeId} {w : World} (h : Bk q cs T w) (hj : j < cs.size) (v : Value) : Bk q (cs.setIfInBounds j v) T (w.setCell ⟨q, j, none⟩ v) := by
  unfold Bk at h ⊢
  obtain ⟨hl, h⟩ := Array.getElem?_eq_some_iff.1 h
  rw [Array.getElem?_eq_some_iff]
  refine ⟨by rw [set_size]; exact hl, ?_⟩
  simp [World.setCell, Array.getElem_modify, h]
theorem Bk.two {q : Nat} {a b : Value} {T : TypeId} {w : World} (h : Bk q #[a, b] T w) : w.cell? ⟨q, 0, none⟩ = some a ∧ w.cell? ⟨q, 1, none⟩ = some b ∧ (∀ j, w.frozen? ⟨q, j, none⟩ = false) := ⟨h.cell rfl, h.cell rfl, h.free⟩
theorem fr_then {S : Nat → Prop} {w w1 w2 : World} (h : Sep.Fr S w w1) (k : Below w1.heap.size w1 w2) : Sep.Fr S w w2 := h.trans (Sep.Fr.of_below (S := S) k) fun _ hk => .inl hk
/-- Numbers of the call's own in a row. -/
def IntsV (base : Nat) (X : List Int) (v : Value) (w : World) : Prop := w.ownsRow base 3 1 v X.length (Gr.ivs X)
theorem IntsV.went {base : Nat} {X : List Int} {v : Value} {w w' : World} (h : IntsV base X v w) (hb : Below w.heap.size w w') : IntsV base X v w' := Sep.ownsRow_at h fun g hg => hb.block g (h.lt g hg).2
/-- A rule's cells, and the value of its right side. -/
def gc (x : (Int × List Int) × Value) : List Value := [.int .i64 x.1.1, x.2]
theorem gc_length (x : (Int × List Int) × Value) : (gc x).length = 2 := rfl
/-- Rules of a grammar in a row. -/
def GRules (base : Nat) (X : List (Int × List Int)) (v : Value) (w : World) : Prop := ∃ L : List ((Int × List Int) × Value), L.map Prod.fst = X ∧ w.ownsRow base 59 2 v L.length (L.flatMap gc) ∧ (∀ x ∈ L, IntsV base x.1.2 x.2 w) ∧ ∀ x ∈ L, ∀ g, x.2.ownBlock = some g → v.ownBlock ≠ some g
theorem GRules.nil (base : Nat) (w : World) : GRules base [] (.slice none 0 0) w := ⟨[], rfl, World.ownsRow_nil _ _ _ _, (fun x hx => by cases hx), (fun x hx => by cases hx)⟩
theorem GRules.went {base : Nat} {X : List (Int × List Int)} {v : Value} {w w' : World} (h : GRules base X v w) (hb : Below w.heap.size w w') : GRules base X v w' := by
  obtain ⟨L, h1, h2, h3, h4⟩ := h
  exact ⟨L, h1, Sep.ownsRow_at h2 fun g hg => hb.block g (h2.lt g hg).2, fun x hx => (h3 x hx).went hb, h4⟩
theorem IntsV.at {base : Nat} {X : List Int} {v : Value} {w w' : World} (h : IntsV base X v w) (hb : ∀ g, v.ownBlock = some g → w'.heap[g]? = w.heap[g]?) : IntsV base X v w' := Sep.ownsRow_at h hb
/-- Another block's cell is written. -/
theorem GRules.set {base : Nat} {X : List (Int × List Int)} {v : Value} {w : World} (h : GRules base X v w) (p : Addr) (u : Value) (hp : p.block < base) : GRules base X v (w.setCell p u) := by
  obtain ⟨L, h1, h2, h3, h4⟩ := h
  exact ⟨L, h1, Sep.ownsRow_at h2 fun g hg => Below.heap_setCell _ _ _ _ (by have := (h2.lt g hg).1; omega), fun x hx => (h3 x hx).at fun g hg => Below.heap_setCell _ _ _ _ (by have := (World.ownsRow.lt (h3 x hx) g hg).1; omega), h4⟩
theorem GRules.len {base : Nat} {X : List (Int × List Int)} {v : Value} {w : World} (h : GRules base X v w) : ∃ a c, v = .slice a X.length c ∧ X.length ≤ c := by
  obtain ⟨L, rfl, h2, h3, h4⟩ := h
  rcases h2.2 with ⟨rfl, h0⟩ | ⟨g, cap, cur, rfl, _, _, h5, _⟩
  · exact ⟨none, 0, by rw [List.length_map, h0], by rw [List.length_map, h0]; exact Nat.le_refl _⟩
  · exact ⟨_, cap, by rw [List.length_map], by rw [List.length_map]; exact h5⟩
theorem two_at {α : Type} (f : α → List Value) (hf : ∀ x, (f x).length = 2) (L : List α) (j : Nat) (hj : j < L.length) (i : Nat) (hi : i < 2) : (L.flatMap f)[j * 2 + i]? = (f L[j])[i]? := by
  induction L generalizing j with
  | nil => simp at hj
  | cons t T ih =>
    rw [List.flatMap_cons]
    cases j with
    | zero => rw [List.getElem?_append_left (by rw [hf]; omega)]; simp
    | succ j =>
      rw [List.getElem?_append_right (by rw [hf]; omega), hf, show (j + 1) * 2 + i - 2 = j * 2 + i by omega, ih j (by simpa using hj)]
      simp
/-- They read as a grammar's rules. -/
theorem GRules.at {base : Nat} {X : List (Int × List Int)} {a : Option Addr} {c : Nat} {w : World} (h : GRules base X (.slice a X.length c) w) (hs : ∀ r ∈ X, r.2.length ≤ 10000) : Gr.RulesAt a X w := by
  obtain ⟨L, rfl, h2, h3, h4⟩ := h
  intro i hi
  have hi' : i < L.length := by simpa using hi
  have hm := List.getElem_mem hi'
  rcases h2.2 with ⟨_, h0⟩ | ⟨g, cap, cur, he, _⟩
  · omega
  · simp only [Value.slice.injEq] at he
    obtain ⟨rfl, _, _⟩ := he
    have hc := World.ownsRow.cells h2 (g := g) rfl
    have hI := h3 _ hm
    obtain ⟨ra, rc, hv⟩ := row_shape hI
    have hl : (L[i].1.2).length ≤ 10000 := hs _ (by rw [List.mem_map]; exact ⟨_, hm, rfl⟩)
    refine ⟨g, 0, ra, rc, rfl, ?_, ?_, ?_, ?_, ?_⟩
    · rw [List.getElem_map]
      have := hc (i * 2 + 0) _ (two_at gc gc_length L i hi' 0 (by omega))
      rw [WideShapes.add_plain] at this
      simpa using this
    · rw [List.getElem_map, ← hv]
      have := hc (i * 2 + 1) _ (two_at gc gc_length L i hi' 1 (by omega))
      rw [WideShapes.add_plain] at this
      simpa using this
    · rw [List.getElem_map]
      unfold IntsV at hI
      rw [hv] at hI
      exact Sep.Reads.of_row hI
    · rw [List.getElem_map]
      unfold IntsV at hI
      rw [hv] at hI
      rcases hI.2 with ⟨h5, h6⟩ | ⟨_, _, _, h5, _, _, h6, _⟩
      · simp only [Value.slice.injEq] at h5
        omega
      · simp only [Value.slice.injEq] at h5
        omega
    · rw [List.getElem_map]
      omega
theorem rule2_one (base q : Nat) (x : (Int × List Int) × Value) (w : World) (hq : q = w.heap.size) (hb : base ≤ q) : (w.alloc (.cells #[.int .i64 x.1.1, x.2] 59)).ownsRow base 59 2 (.slice (some ⟨q, 0, none⟩) 1 1) 1 (gc x) := by
  subst hq
  exact World.ownsRow_lit w #[.int .i64 x.1.1, x.2] 1 hb (by decide) (by simp)
theorem info_rule2 : (Try.prog.info? 59).map (fun i => (i.zero, i.size, i.bytes)) = some (some (.agg #[.int .i64 0, .slice none 0 0]), 2, 32) := by kernel_rfl
theorem IntsV.keep4 {b : Nat} {X : List Int} {u v : Value} {w w1 w2 : World} (h : IntsV b X u w) (h1 : Below w.heap.size w w1) (hg : w1.grownBy w2 v.ownBlock) (hne : ∀ g, u.ownBlock = some g → v.ownBlock ≠ some g) : IntsV b X u w2 :=
  Sep.ownsRow_at h fun g hgu => (hg.block g (Nat.lt_of_lt_of_le (World.ownsRow.lt h g hgu).2 h1.size) (fun e => hne g hgu e.symm)).trans (h1.block g (World.ownsRow.lt h g hgu).2)
theorem IntsV.mono {b b' : Nat} {X : List Int} {u : Value} {w : World} (h : IntsV b X u w) (hb : b' ≤ b) : IntsV b' X u w := row_mono h hb
/-- A rule more, put behind the others by append; its right side was made behind w. -/
theorem GRules.snoc {base : Nat} {L : List ((Int × List Int) × Value)} {v v4 : Value} {d : Int × List Int} {nv : Value} {w w3 w4 : World} (hO : w.ownsRow base 59 2 v L.length (L.flatMap gc)) (hT : ∀ x ∈ L, IntsV base x.1.2 x.2 w) (hA : ∀ x ∈ L, ∀ g, x.2.ownBlock = some g → v.ownBlock ≠ some g)
    (hb : Below w.heap.size w w3) (hN : IntsV w.heap.size d.2 nv w3) (hbl : base ≤ w.heap.size)
    (h4 : w4.ownsRow base 59 2 v4 (L.length + 1) (L.flatMap gc ++ gc (d, nv))) (hg : (w3.alloc (.cells #[.int .i64 d.1, nv] 59)).grownBy w4 v.ownBlock)
    (hl : v4.ownBlock = v.ownBlock ∨ v4.ownBlock = some (w3.alloc (.cells #[.int .i64 d.1, nv] 59)).heap.size) : GRules base (L.map Prod.fst ++ [d]) v4 w4 := by
  have bx := Gr.boxed w3 (.cells #[.int .i64 d.1, nv] 59)
  have hnew : ∀ g, nv.ownBlock = some g → v.ownBlock ≠ some g := fun g hg e => by
    have h1 := (World.ownsRow.lt hN g hg).1
    have h2 := (hO.lt g e).2
    omega
  have lt3 : ∀ x ∈ L ++ [(d, nv)], ∀ g, x.2.ownBlock = some g → g < w3.heap.size := fun x hx g hgx => by
    rcases List.mem_append.1 hx with h | h
    · exact Nat.lt_of_lt_of_le (World.ownsRow.lt (hT x h) g hgx).2 hb.size
    · rw [List.mem_singleton] at h
      subst h
      exact (World.ownsRow.lt hN g hgx).2
  have ne : ∀ x ∈ L ++ [(d, nv)], ∀ g, x.2.ownBlock = some g → v.ownBlock ≠ some g := fun x hx g hgx => by
    rcases List.mem_append.1 hx with h | h
    · exact hA x h g hgx
    · rw [List.mem_singleton] at h
      subst h
      exact hnew g hgx
  refine ⟨L ++ [(d, nv)], by simp, ?_, fun x hx => ?_, fun x hx g hgx e => ?_⟩
  · rw [List.length_append, List.flatMap_append]
    simpa using h4
  · rcases List.mem_append.1 hx with h | h
    · exact (hT x h).keep4 (Gr.step hb bx) hg (ne x hx)
    · rw [List.mem_singleton] at h
      subst h
      exact (hN.keep4 bx hg (ne (d, nv) hx)).mono hbl
  · have hlt := lt3 x hx g hgx
    rcases hl with h5 | h5
    · exact ne x hx g hgx (h5.symm.trans e)
    · rw [h5] at e
      injection e with e
      simp at e
      omega
/-- The zero grammar's cells. -/
abbrev zg : Array Value := #[.slice none 0 0, .slice none 0 0, .slice none 0 0, .int .i64 0]
theorem below_set4 {q : Nat} {W X : World} (h : Below W.heap.size W X) (hq : W.heap.size ≤ q) (a b c d : Value) : Below W.heap.size W ((((X.setCell ⟨q, 0, none⟩ a).setCell ⟨q, 1, none⟩ b).setCell ⟨q, 2, none⟩ c).setCell ⟨q, 3, none⟩ d) :=
  h.trans ((fr_set4 X q a b c d).below (fun k hk => hk ▸ hq) h.size)
/-- A list of strings reads on while the cells of an answer's variable are written. -/
theorem reads_off {q : Nat} {a : Option Addr} {L : List ByteArray} {T : TypeId} {x y z : Value} {k : Int} {w w' : World} (h : Sep.Reads a (L.map .string) w) (hx : ∀ s, x ≠ .string s) (hy : ∀ s, y ≠ .string s) (hz : ∀ s, z ≠ .string s) (hQ : Bk q #[x, y, z, .int .i64 k] T w) (hF : Sep.Fr (fun k => k = q) w w') : Sep.Reads a (L.map .string) w' := fun i hi => by
  obtain ⟨b, o, e, hc⟩ := h i hi
  refine ⟨b, o, e, hF.cell hc fun hb => ?_⟩
  simp only at hb
  subst hb
  simp only [List.getElem_map] at hc
  unfold Bk at hQ
  simp only [World.cell?, hQ] at hc
  rcases ho : o + i with _ | _ | _ | _ | n
  all_goals
    rw [ho] at hc
    simp at hc
    try first | exact hx _ hc | exact hy _ hc | exact hz _ hc
theorem reads_keep {Z : Nat → Prop} {a : Option Addr} {L : List ByteArray} {w w' : World} (h : Sep.Reads a (L.map .string) w) (hz : ∀ q, Z q → ∀ j s, w.cell? ⟨q, j, none⟩ ≠ some (.string s)) (hF : Sep.Fr Z w w') : Sep.Reads a (L.map .string) w' := fun i hi => by
  obtain ⟨b, o, e, hc⟩ := h i hi
  refine ⟨b, o, e, hF.cell hc fun hb => ?_⟩
  rw [List.getElem_map] at hc
  exact hz b hb _ _ hc
theorem bk_nostr {q : Nat} {T : TypeId} {x y z : Value} {k : Int} {w : World} (h : Bk q #[x, y, z, .int .i64 k] T w) (hx : ∀ s, x ≠ .string s) (hy : ∀ s, y ≠ .string s) (hz : ∀ s, z ≠ .string s) : ∀ j s, w.cell? ⟨q, j, none⟩ ≠ some (.string s) := fun j s hc => by
  unfold Bk at h
  simp only [World.cell?, h] at hc
  rcases j with _ | _ | _ | _ | n
  all_goals
    simp at hc
    try first | exact hx _ hc | exact hy _ hc | exact hz _ hc
theorem GRules.fr {base : Nat} {Z : Nat → Prop} {X : List (Int × List Int)} {v : Value} {w w' : World} (h : GRules base X v w) (hF : Sep.Fr Z w w') (hq : ∀ q, Z q → q < base) : GRules base X v w' := by
  obtain ⟨L, h1, h2, h3, h4⟩ := h
  exact ⟨L, h1, Sep.ownsRow_at h2 fun g hg => hF.block g (h2.lt g hg).2 (fun hz => by have := (h2.lt g hg).1; have := hq g hz; omega), fun x hx => (h3 x hx).at fun g hg => hF.block g (World.ownsRow.lt (h3 x hx) g hg).2 (fun hz => by have := (World.ownsRow.lt (h3 x hx) g hg).1; have := hq g hz; omega), h4⟩
theorem own_ne {v v4 : Value} {q n : Nat} (h : v.ownBlock ≠ some q) (hl : v4.ownBlock = v.ownBlock ∨ v4.ownBlock = some n) (hn : q ≠ n) : v4.ownBlock ≠ some q := fun e => by
  rcases hl with h1 | h1
  · exact h (h1.symm.trans e)
  · rw [h1] at e
    injection e with e
    exact hn e.symm

end Go.Proofs.Ytoohnkffclkmhaa.Rw
