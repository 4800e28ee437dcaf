/-
  A tree in memory: its box, the row of its nodes, the lists of children; how it stays, grows and is marked. No function of the program in it.
-/
import Derived.Test.YtoohnkffclkmhaaArenaPlain
import Derived.Test.YtoohnkffclkmhaaRowKit
import Derived.WalkSmall
import Derived.Laws.OwnMore
namespace Go.Proofs.Ytoohnkffclkmhaa.Tr
open Go.RowKit Go.Maps
open Go.Proofs.Ytoohnkffclkmhaa.Sep
open Go.Proofs.Ytoohnkffclkmhaa.Rw (Bk)
open Go.Proofs.Ytoohnkffclkmhaa.Gr (cell_later boxed drawn)
set_option linter.unusedVariables false
set_option linter.unusedSimpArgs false

abbrev Nv := Nd × Value
def ndv (x : Nv) : Value := .agg #[.int .i64 x.1.sym, .int .i64 x.1.leaf, .int .i64 x.1.rule, x.2, .bool x.1.inner, .bool x.1.taken]
def ndc (x : Nv) : List Value := [.int .i64 x.1.sym, .int .i64 x.1.leaf, .int .i64 x.1.rule, x.2, .bool x.1.inner, .bool x.1.taken]
theorem ndc_len (x : Nv) : (ndc x).length = 6 := rfl
theorem rows_len {α : Type} {f : α → List Value} {m : Nat} (hf : ∀ x, (f x).length = m) (L : List α) : (L.flatMap f).length = L.length * m := by
  induction L with
  | nil => simp
  | cons a r ih => rw [List.flatMap_cons, List.length_append, hf, ih, List.length_cons, Nat.succ_mul]; omega
theorem rows_at {α : Type} {f : α → List Value} {m : Nat} (hf : ∀ x, (f x).length = m) (L : List α) (j : Nat) (hj : j < L.length) (i : Nat) (hi : i < m) : (L.flatMap f)[j * m + i]? = (f L[j])[i]? := by
  induction L generalizing j with
  | nil => simp at hj
  | cons t T ih =>
    rw [List.flatMap_cons]
    cases j with
    | zero => rw [List.getElem?_append_left (by rw [hf]; omega)]; simp
    | succ j =>
      rw [List.getElem?_append_right (by rw [hf, Nat.succ_mul]; omega), hf, show (j + 1) * m + i - m = j * m + i by rw [Nat.succ_mul]; omega, ih j (by simpa using hj)]
      rfl
theorem rows_set {α : Type} {f : α → List Value} {m : Nat} (hf : ∀ x, (f x).length = m) (L : List α) (j : Nat) (hj : j < L.length) (i : Nat) (hi : i < m) (u : Value) (y : α) (hy : f y = (f L[j]).set i u) : (L.flatMap f).set (j * m + i) u = (L.set j y).flatMap f := by
  induction L generalizing j with
  | nil => simp at hj
  | cons t T ih =>
    rw [List.flatMap_cons]
    cases j with
    | zero =>
      rw [List.set_append_left _ _ (by rw [hf]; omega), List.set_cons_zero, List.flatMap_cons, hy]
      simp
    | succ j =>
      rw [List.set_append_right _ _ (by rw [hf, Nat.succ_mul]; omega), hf, show (j + 1) * m + i - m = j * m + i by rw [Nat.succ_mul]; omega, List.set_cons_succ, List.flatMap_cons, ih j (by simpa using hj) (by simpa using hy)]

/-- The children of a node: where they lie. -/
structure KidA (K : Nat → Prop) (x : Nv) (w : World) : Prop where
  at_ : ∃ a c, x.2 = .slice a x.1.kids.length c ∧ Reads a (x.1.kids.map (.int .i64)) w ∧ ∀ b o, a = some ⟨b, o, none⟩ → 0 < x.1.kids.length → K b
  few : x.1.kids.length ≤ 1000
theorem KidA.fr {K F : Nat → Prop} {x : Nv} {w w' : World} (h : KidA K x w) (hf : Fr F w w') (hK : Off F K) : KidA K x w' := by
  obtain ⟨a, c, e, hr, hk⟩ := h.at_
  refine ⟨⟨a, c, e, fun i hi => ?_, hk⟩, h.few⟩
  obtain ⟨b, o, e2, hc⟩ := hr i hi
  refine ⟨b, o, e2, ?_⟩
  have hkb := hk b o e2 (by simp at hi; omega)
  exact (World.cell?_of_block (a := ⟨b, o + i, none⟩) (hf.block b (World.block_lt_of_cell? w ⟨b, o + i, none⟩ hc) fun hF => hK b hF hkb)).trans hc
theorem KidA.mono {K K' : Nat → Prop} {x : Nv} {w : World} (h : KidA K x w) (hk : ∀ b, K b → K' b) : KidA K' x w := by
  obtain ⟨a, c, e, hr, hk2⟩ := h.at_
  exact ⟨⟨a, c, e, hr, fun b o e l => hk b (hk2 b o e l)⟩, h.few⟩

/-- A tree: S: its own blocks, K: those of its lists of children. -/
structure TrM (p : Nat) (S K : Nat → Prop) (L : List Nv) (v : Value) (w : World) : Prop where
  box : Bk p #[v] 48 w
  row : w.ownsRow 0 51 6 v L.length (L.flatMap ndc)
  own : ∀ b, v.ownBlock = some b → S b ∧ b ≠ p
  me : S p
  inn : Inn S w
  kin : Inn K w
  off : Off S K
  kids : ∀ x ∈ L, KidA K x w
  few : L.length ≤ 1000
def TrAt (p : Nat) (S K : Nat → Prop) (T : List Nd) (w : World) : Prop := ∃ L v, L.map Prod.fst = T ∧ TrM p S K L v w

section
variable {p : Nat} {S K F : Nat → Prop} {L : List Nv} {T : List Nd} {v : Value} {w w' : World}
theorem TrM.fr (h : TrM p S K L v w) (hf : Fr F w w') (hS : Off F S) (hK : Off F K) : TrM p S K L v w' :=
  ⟨h.box.fr hf fun hp => hS p hp h.me, ownsRow_at h.row fun g hg => hf.block g (h.row.lt g hg).2 fun hF => hS g hF (h.own g hg).1, h.own, h.me, h.inn.le hf.size, h.kin.le hf.size, h.off, fun x hx => (h.kids x hx).fr hf hK, h.few⟩
theorem TrM.went (h : TrM p S K L v w) (hb : Below w.heap.size w w') : TrM p S K L v w' := h.fr (F := fun _ => False) (.of_below hb) (fun _ h => h.elim) fun _ h => h.elim
theorem TrAt.fr (h : TrAt p S K T w) (hf : Fr F w w') (hS : Off F S) (hK : Off F K) : TrAt p S K T w' := by
  obtain ⟨L, v, e, h⟩ := h
  exact ⟨L, v, e, h.fr hf hS hK⟩
theorem TrAt.went (h : TrAt p S K T w) (hb : Below w.heap.size w w') : TrAt p S K T w' := h.fr (F := fun _ => False) (.of_below hb) (fun _ h => h.elim) fun _ h => h.elim
theorem TrAt.few (h : TrAt p S K T w) : T.length ≤ 1000 := by
  obtain ⟨L, v, rfl, h⟩ := h
  simpa using h.few
theorem TrM.shape (h : TrM p S K L v w) : ∃ a c, v = .slice a L.length c := Rw.row_shape h.row
theorem TrM.cell (h : TrM p S K L v w) : w.cell? ⟨p, 0, none⟩ = some v := h.box.cell rfl
/-- One node's cells. -/
theorem TrM.at (h : TrM p S K L v w) {j : Nat} (hj : j < L.length) : ∃ g c, v = .slice (some ⟨g, 0, none⟩) L.length c ∧ w.cell? ⟨g, j * 6, none⟩ = some (.int .i64 L[j].1.sym) ∧ w.cell? ⟨g, j * 6 + 1, none⟩ = some (.int .i64 L[j].1.leaf) ∧ w.cell? ⟨g, j * 6 + 2, none⟩ = some (.int .i64 L[j].1.rule) ∧
    w.cell? ⟨g, j * 6 + 3, none⟩ = some L[j].2 ∧ w.cell? ⟨g, j * 6 + 4, none⟩ = some (.bool L[j].1.inner) ∧ w.cell? ⟨g, j * 6 + 5, none⟩ = some (.bool L[j].1.taken) ∧ w.frozen? ⟨g, j * 6 + 5, none⟩ = false := by
  obtain ⟨g, c, rfl, _, _⟩ := World.ownsRow.form h.row (by omega)
  have k : ∀ i, i < 6 → w.cell? ⟨g, j * 6 + i, none⟩ = (ndc L[j])[i]? := fun i hi => (h.row.cellAt (j * 6 + i) (by omega)).trans (rows_at ndc_len L j hj i hi)
  exact ⟨g, c, rfl, k 0 (by omega), k 1 (by omega), k 2 (by omega), k 3 (by omega), k 4 (by omega), k 5 (by omega), h.row.frozenAt _⟩
/-- One node marked, or its mark taken away. -/
theorem TrM.mark (h : TrM p S K L v w) {j : Nat} (hj : j < L.length) {g c : Nat} (hv : v = .slice (some ⟨g, 0, none⟩) L.length c) (b : Bool) :
    TrM p S K (L.set j (tk b L[j].1, L[j].2)) v (w.setCell ⟨g, j * 6 + 5, none⟩ (.bool b)) ∧ Fr S w (w.setCell ⟨g, j * 6 + 5, none⟩ (.bool b)) := by
  subst hv
  have hg := h.own g rfl
  have hst := h.row.stored (j * 6 + 5) (.bool b)
  have hF : Fr (fun k => k = g) w (w.setCell ⟨g, j * 6 + 5, none⟩ (.bool b)) := (Fr.refl (fun k => k = g) w).setCell ⟨g, j * 6 + 5, none⟩ rfl (.bool b)
  refine ⟨⟨h.box.fr hF (fun e => hg.2 e.symm), ?_, h.own, h.me, h.inn.le hF.size, h.kin.le hF.size, h.off, ?_, by simpa using h.few⟩, hF.mono fun k e => by rw [e]; exact hg.1⟩
  · rw [List.length_set, ← rows_set ndc_len L j hj 5 (by omega) (.bool b) (tk b L[j].1, L[j].2) rfl]
    exact hst.1
  · intro x hx
    rcases List.mem_or_eq_of_mem_set hx with hx | rfl
    · exact (h.kids x hx).fr hF fun k e hk => h.off k (by rw [e]; exact hg.1) hk
    · have := (h.kids _ (List.getElem_mem hj)).fr hF fun k e hk => h.off k (by rw [e]; exact hg.1) hk
      exact ⟨this.at_, this.few⟩
theorem map_set_tk (L : List Nv) (j : Nat) (hj : j < L.length) (b : Bool) : (L.set j (tk b L[j].1, L[j].2)).map Prod.fst = (L.map Prod.fst).set j (tk b ((L.map Prod.fst)[j]'(by simpa using hj))) := by
  rw [List.map_set]
  simp
/-- The end of append: one more node. -/
theorem TrM.app (h : TrM p S K L v w) {x : Nv} {K' : Nat → Prop} (hx : KidA K' x w) (hK : ∀ b, K b → K' b) (hKi : Inn K' w) (hoff : Off S K') (hl : L.length < 1000) {w1 w2 : World} {v' : Value} (hb : Below w.heap.size w w1)
    (hown : w2.ownsRow 0 51 6 v' (L.length + 1) (L.flatMap ndc ++ ndc x)) (hg : w1.grownBy w2 v.ownBlock) (hloc : v'.ownBlock = v.ownBlock ∨ v'.ownBlock = some w1.heap.size) :
    w2.cell? ⟨p, 0, none⟩ = some v ∧ w2.frozen? ⟨p, 0, none⟩ = false ∧ ∃ S', TrM p S' K' (L ++ [x]) v' (w2.setCell ⟨p, 0, none⟩ v') ∧ Ext S' S w ∧ Fr S w (w2.setCell ⟨p, 0, none⟩ v') := by
  have h1 := h.went hb
  have hp1 : p < w1.heap.size := h1.box.lt
  have hne : v.ownBlock ≠ some p := fun e => (h.own p e).2 rfl
  have hbox2 : Bk p #[v] 48 w2 := h1.box.grown hg fun k e e2 => hne (by rw [e, e2])
  have hne' : v'.ownBlock ≠ some p := fun e => by
    rcases hloc with e2 | e2
    · exact hne (by rw [← e2]; exact e)
    · rw [e2] at e
      injection e with e
      omega
  have hF1 : Fr S w w2 := (Fr.of_below hb).grown hg fun k e => .inl (h.own k e).1
  have hF2 : Fr S w (w2.setCell ⟨p, 0, none⟩ v') := hF1.setCell _ h.me _
  have hs1 := hb.size
  have hs2 := hg.size
  refine ⟨hbox2.cell rfl, hbox2.free 0, fun k => S k ∨ v'.ownBlock = some k, ⟨?_, ?_, ?_, .inl h.me, ?_, hKi.le hF2.size, ?_, ?_, by simp; omega⟩, ?_, hF2⟩
  · exact hbox2.set (by simp) v'
  · rw [List.length_append, List.length_singleton, List.flatMap_append, List.flatMap_singleton]
    exact ownsRow_setCell_other hown hne' _
  · intro b e
    exact ⟨.inr e, fun e2 => hne' (by rw [e, e2])⟩
  · rintro k (hk | hk)
    · exact Nat.lt_of_lt_of_le (h.inn k hk) hF2.size
    · have := (hown.lt k hk).2
      simpa [World.setCell] using this
  · rintro k (hk | hk) hk2
    · exact hoff k hk hk2
    · rcases hloc with e | e
      · exact hoff k (h.own k (by rw [← e]; exact hk)).1 hk2
      · rw [e] at hk
        injection hk with hk
        have := hKi k hk2
        omega
  · intro y hy
    have hFK : Off S K' := hoff
    rcases List.mem_append.1 hy with hy | hy
    · exact ((h.kids y hy).mono hK).fr hF2 hFK
    · rw [List.mem_singleton] at hy
      rw [hy]
      exact hx.fr hF2 hFK
  · rintro k (hk | hk)
    · exact .inl hk
    · rcases hloc with e | e
      · exact .inl (h.own k (by rw [← e]; exact hk)).1
      · rw [e] at hk
        injection hk with hk
        exact .inr (by omega)
/-- A new tree. -/
theorem TrM.new (w : World) : TrM w.heap.size (fun k => k = w.heap.size) (fun _ => False) [] (.slice none 0 0) (w.alloc (.cells #[.slice none 0 0] 48)) :=
  ⟨Bk.new _ _ _ _ rfl, World.ownsRow_nil _ _ _ _, fun b e => by simp [Value.ownBlock] at e, rfl, fun k e => by subst e; simp, fun k e => e.elim, fun k _ e => e, (fun x hx => by cases hx), by simp⟩
end

theorem info_node : (Try.prog.info? 51).map (fun i => (i.zero, i.size, i.bytes)) = some (some (.agg #[.int .i64 0, .int .i64 0, .int .i64 0, .slice none 0 0, .bool false, .bool false]), 6, 56) := by kernel_rfl

end Go.Proofs.Ytoohnkffclkmhaa.Tr
