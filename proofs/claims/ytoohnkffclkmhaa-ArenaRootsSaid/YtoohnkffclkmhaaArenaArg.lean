/-
  Calls that make nodes, among the arguments: one of them, or a list.
-/
import Derived.Test.YtoohnkffclkmhaaGramOpen
namespace Go.Proofs.Ytoohnkffclkmhaa.Tr
open Go.RowKit Go.Maps Go.ChangeShapes Go.WideShapes Go.Deep Go.Joins
open Go.Proofs.Ytoohnkffclkmhaa.Sep
open Go.Proofs.Ytoohnkffclkmhaa.Gr (Within within_field within_elem within_cap within_of ints_of fits_of Fits cells_int ivs iv cell_later)
set_option linter.unusedVariables false
set_option linter.unusedSimpArgs false

structure OpD where
  leaf : Bool
  sym : Int
  n : Int
  kids : List Int
/-- A call's numbers, its list. -/
structure OpI (x : OpD) (ka : Option Addr) (kc : Nat) (w : World) : Prop where
  reads : Reads ka (ivs x.kids) w
  cap : x.kids.length ≤ kc
  few : kc ≤ 17592186044416
  fs : Fits x.sym
  fn : Fits x.n
  fk : ∀ k ∈ x.kids, Fits k
theorem OpI.went {x : OpD} {ka : Option Addr} {kc : Nat} {w w' : World} (h : OpI x ka kc w) (hb : Below w.heap.size w w') : OpI x ka kc w' := ⟨h.reads.below hb (Nat.le_refl _), h.cap, h.few, h.fs, h.fn, h.fk⟩
def opv (x : OpD) (ka : Option Addr) (kc : Nat) : Value := .agg #[.bool x.leaf, .int .i64 x.sym, .int .i64 x.n, .slice ka x.kids.length kc]
/-- A list of calls. -/
def OpsAt (a : Option Addr) (X : List OpD) (w : World) : Prop :=
  ∀ i (h : i < X.length), ∃ b o ka kc, a = some ⟨b, o, none⟩ ∧ w.cell? ⟨b, o + i * 4, none⟩ = some (.bool X[i].leaf) ∧ w.cell? ⟨b, o + i * 4 + 1, none⟩ = some (.int .i64 X[i].sym) ∧ w.cell? ⟨b, o + i * 4 + 2, none⟩ = some (.int .i64 X[i].n) ∧ w.cell? ⟨b, o + i * 4 + 3, none⟩ = some (.slice ka X[i].kids.length kc) ∧ OpI X[i] ka kc w
theorem OpsAt.went {a : Option Addr} {X : List OpD} {w w' : World} (h : OpsAt a X w) (hb : Below w.heap.size w w') : OpsAt a X w' := fun i hi => by
  obtain ⟨b, o, ka, kc, e, h0, h1, h2, h3, h4⟩ := h i hi
  exact ⟨b, o, ka, kc, e, cell_later hb h0, cell_later hb h1, cell_later hb h2, cell_later hb h3, h4.went hb⟩

theorem bytes_op : Try.prog.bytesOf 27 = 48 := by kernel_rfl
theorem cells_op : Try.prog.cellsOf 27 = 4 := by kernel_rfl

section
variable {H : Type} {enc : TypeId × Value → H} {w : World}

/-- The parts of one call. -/
theorem op_parts {n : Nat} {c0 c1 c2 c3 : Value} {x : DataW H × List MemPlace} (h : DataW.trod enc Try.prog w 0 (fun _ => true) true n 27 [c0, c1, c2, c3] = some x) (hz : Within Try.prog 27 x.1) :
    ∃ y ka kc, c0 = .bool y.leaf ∧ c1 = .int .i64 y.sym ∧ c2 = .int .i64 y.n ∧ c3 = .slice ka y.kids.length kc ∧ OpI y ka kc w := by
  obtain ⟨y0, y1, y2, y3, m, rfl, _, t0, t1, t2, t3⟩ := trod_struct4 Try.underlying27 h
  have k1 : Try.prog.cellsOf 4 = 1 := by kernel_rfl
  have k2 : Try.prog.cellsOf 25 = 1 := by kernel_rfl
  simp only [k1, k2, cells_int, List.drop_zero, List.drop_succ_cons, List.take_succ_cons, List.take_zero] at t0 t1 t2 t3
  obtain ⟨b, e0, _⟩ := DataW.trod_bool Try.underlying4 t0
  obtain ⟨s, e1, _, f1⟩ := DataW.trod_int Try.underlying3 t1
  obtain ⟨q, e2, _, f2⟩ := DataW.trod_int Try.underlying3 t2
  have hz3 := within_field hz Try.underlying27 (j := 3) (t' := 25) (d := y3.1) rfl rfl
  obtain ⟨ka, kc, L, e3, hr, hl, hm, hf⟩ := ints_of t3 hz3
  simp at e0 e1 e2
  exact ⟨⟨b, s, q, L⟩, ka, kc, e0, e1, e2, e3, hr, hl, hm, fits_of f1, fits_of f2, hf⟩

set_option maxRecDepth 100000 in
theorem op_of {r : Reach} {b0 : Nat} {v : Value} {d : DataW H} {p : List MemPlace} (hv : Value.okWide Try.prog w r b0 27 v) (h : DataW.Trod enc Try.prog w 0 (fun _ => true) true 27 v d p) (hz : Within Try.prog 27 d) :
    ∃ x ka kc, v = opv x ka kc ∧ OpI x ka kc w := by
  obtain ⟨cs, rfl, hsz⟩ := okWide_struct Try.underlying27 hv
  obtain ⟨c0, c1, c2, c3, rfl⟩ := array4 (hsz.trans cells_op)
  obtain ⟨fuel, hf⟩ := h
  obtain ⟨y, ka, kc, rfl, rfl, rfl, rfl, hi⟩ := op_parts (x := (d, p)) (by simpa [Value.cells] using hf) hz
  exact ⟨y, ka, kc, rfl, hi⟩

set_option maxRecDepth 100000 in
theorem ops_of {fuel : Nat} {v : Value} {x : DataW H × List MemPlace} (h : DataW.trod enc Try.prog w 0 (fun _ => true) true fuel 22 [v] = some x) (hz : Within Try.prog 22 x.1) :
    ∃ a c, ∃ X : List OpD, v = .slice a X.length c ∧ OpsAt a X w ∧ X.length ≤ c ∧ c ≤ 4398046511104 := by
  rcases open_slice Try.underlying22 h with ⟨hcs, _⟩ | ⟨a, len, cap, m, n, D, Pl, hcs, _, hl, hm, hmm, rfl, hi⟩
  · simp at hcs
    subst hcs
    exact ⟨none, 0, [], rfl, fun i hi => absurd hi (by simp), Nat.le_refl _, by omega⟩
  · simp at hcs
    subst hcs
    simp only [if_true] at hmm
    subst hmm
    have hcap := within_cap hz Try.underlying22
    rw [bytes_op] at hcap
    simp at hcap
    haveI : Inhabited OpD := ⟨⟨false, 0, 0, []⟩⟩
    have each : ∀ i, i < len → ∃ y : OpD, ∃ b o ka kc, a = ⟨b, o, none⟩ ∧ w.cell? ⟨b, o + i * 4, none⟩ = some (.bool y.leaf) ∧ w.cell? ⟨b, o + i * 4 + 1, none⟩ = some (.int .i64 y.sym) ∧ w.cell? ⟨b, o + i * 4 + 2, none⟩ = some (.int .i64 y.n) ∧ w.cell? ⟨b, o + i * 4 + 3, none⟩ = some (.slice ka y.kids.length kc) ∧ OpI y ka kc w := fun i him => by
      obtain ⟨cs', h1, h2⟩ := hi i (by omega)
      rw [cells_op] at h1
      obtain ⟨_, hlen, hcell⟩ := World.cells?_some h1
      match cs', hlen with
      | [c0, c1, c2, c3], _ =>
        have hzi := within_elem hz Try.underlying22 (d := D i) (by simp only [List.mem_map]; exact ⟨i, List.mem_range.2 him, rfl⟩)
        obtain ⟨y, ka, kc, rfl, rfl, rfl, rfl, hy⟩ := op_parts (x := (D i, Pl i)) h2 hzi
        have e0 := hcell 0 (by omega)
        have e1 := hcell 1 (by omega)
        have e2 := hcell 2 (by omega)
        have e3 := hcell 3 (by omega)
        rw [add_add] at e0 e1 e2 e3
        obtain ⟨cs0, g1, g2⟩ := hi 0 (by omega)
        rw [cells_op] at g1
        obtain ⟨_, hlen0, hcell0⟩ := World.cells?_some g1
        have g3 := hcell0 0 (by omega)
        rw [add_add, List.getElem?_eq_getElem (by omega)] at g3
        obtain ⟨bb, off, spot⟩ := a
        have hspot : spot = none := by simpa [Addr.add] using World.cell?_spot g3
        subst hspot
        rw [WideShapes.add_plain] at e0 e1 e2 e3
        exact ⟨y, bb, off, ka, kc, rfl, by simpa using e0, by simpa [Nat.add_assoc] using e1, by simpa [Nat.add_assoc] using e2, by simpa [Nat.add_assoc] using e3, hy⟩
    obtain ⟨f, hf⟩ := choose_lt each
    refine ⟨some a, m, (List.range len).map f, by simp, fun i hi => ?_, by simpa using hl, by omega⟩
    simp only [List.length_map, List.length_range] at hi
    obtain ⟨b, o, ka, kc, e, h1⟩ := hf i hi
    refine ⟨b, o, ka, kc, by rw [e], ?_⟩
    simp only [List.getElem_map, List.getElem_range]
    exact h1
end
end Go.Proofs.Ytoohnkffclkmhaa.Tr
