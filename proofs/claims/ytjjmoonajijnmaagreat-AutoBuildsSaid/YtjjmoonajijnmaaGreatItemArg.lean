/-
  Items among the arguments: a list of them, one of them, as a walk reads them. The program and its types are parameters.
-/
import Derived.Test.YtjjmoonajijnmaaGreatItemAt
import Derived.Test.YtjjmoonajijnmaaGreatItemMap
import Derived.Test.YtjjmoonajijnmaaGreatGramOpen
import Derived.Deep.SlicePairs
import Derived.Lib.SmallJoins
namespace Go.Proofs.YtjjmoonajijnmaaGreat.Im
open Go.RowKit Go.Maps Go.WideShapes Go.ChangeShapes Go.Joins
open Go.Proofs.YtjjmoonajijnmaaGreat.Gr (Within within_cap)
set_option linter.unusedVariables false

section
variable {H : Type} {P : Program} {enc : TypeId × Value → H} {w : World} {TL TI : TypeId} {f0 f1 : Field}

/-- A list of items; a nil one too. -/
theorem items_of (hul : P.underlying TL = some (.slice TI)) (hui : P.underlying TI = some (.struct #[f0, f1])) (ce : P.cellsOf TI = 2) (o0 : f0.offset = 0) (o1 : f1.offset = 1) (c0 : P.cellsOf f0.type = 1) (c1 : P.cellsOf f1.type = 1) (b16 : P.bytesOf TI = 16)
    (u0 : P.underlying f0.type = some (.int .i64)) (u1 : P.underlying f1.type = some (.int .i64)) {fuel : Nat} {v : Value} {x : DataW H × List MemPlace} (h : DataW.trod enc P w 0 (fun _ => true) true fuel TL [v] = some x) (hz : Within P TL x.1) :
    ∃ a c, ∃ X : List Itm, v = .slice a X.length c ∧ ItsA a X w ∧ X.length ≤ c ∧ c ≤ 8796093022208 ∧ ∀ x ∈ X, W64 x := by
  rcases Deep.open_slice_pairs hul hui ce o0 o1 c0 c1 h with ⟨hcs, _⟩ | ⟨a, len, cap, m, k, V0, V1, D0, D1, P0, P1, hcs, _, hl, hm, hmm, rfl, hall⟩
  · simp at hcs
    subst hcs
    exact ⟨none, 0, [], rfl, .nil _ _, Nat.le_refl _, by omega, fun s hs => by cases hs⟩
  · simp at hcs
    subst hcs
    simp only [if_true] at hmm
    subst hmm
    have hcap := within_cap hz hul
    rw [b16] at hcap
    simp at hcap
    have hint : ∀ i, ∃ n : Itm, i < m → V0 i = .int .i64 n.1 ∧ V1 i = .int .i64 n.2 ∧ W64 n := fun i => by
      by_cases hi : i < m
      · obtain ⟨c0, c1, t0, t1⟩ := hall i hi
        obtain ⟨n0, h1, _, w1⟩ := DataW.trod_int u0 t0
        obtain ⟨n1, h2, _, w2⟩ := DataW.trod_int u1 t1
        exact ⟨(n0, n1), fun _ => ⟨by simpa using h1, by simpa using h2, w1, w2⟩⟩
      · exact ⟨(0, 0), fun h => absurd h hi⟩
    obtain ⟨N, hN⟩ : ∃ N : Nat → Itm, ∀ i, i < m → V0 i = .int .i64 (N i).1 ∧ V1 i = .int .i64 (N i).2 ∧ W64 (N i) := ⟨fun i => Classical.choose (hint i), fun i hi => Classical.choose_spec (hint i) hi⟩
    have hlen : ((List.range len).map N).length = len := by simp
    refine ⟨some a, m, (List.range len).map N, by rw [hlen], fun j hj => ?_, by omega, by omega, fun x hx => ?_⟩
    · have hj' := hj
      rw [its_length, hlen] at hj
      obtain ⟨bb, off, spot⟩ := a
      have hspot : spot = none := by simpa [Addr.add] using World.cell?_spot (hall 0 (by omega)).1
      subst hspot
      refine ⟨bb, off, rfl, ?_⟩
      have hi : j / 2 < m := by omega
      have hi2 : j / 2 < ((List.range len).map N).length := by omega
      obtain ⟨c0, c1, _, _⟩ := hall (j / 2) hi
      obtain ⟨e0, e1, _⟩ := hN (j / 2) hi
      rw [e0, WideShapes.add_plain] at c0
      rw [e1, WideShapes.add_plain] at c1
      have g := Rw.two_at ic ic_length ((List.range len).map N) (j / 2) hi2 (j % 2) (Nat.mod_lt _ (by omega))
      rw [show j / 2 * 2 + j % 2 = j by omega, List.getElem?_eq_getElem hj'] at g
      rcases Nat.mod_two_eq_zero_or_one j with e | e
      · rw [e] at g
        rw [show off + j = off + j / 2 * 2 by omega, c0]
        simp [ic] at g
        rw [g]
      · rw [e] at g
        rw [show off + j = off + (j / 2 * 2 + 1) by omega, c1]
        simp [ic] at g
        rw [g]
    · rw [List.mem_map] at hx
      obtain ⟨i, hi, rfl⟩ := hx
      exact (hN i (by have := List.mem_range.1 hi; omega)).2.2
/-- One item. -/
theorem item_of (hui : P.underlying TI = some (.struct #[f0, f1])) (hone : Deep.oneCellFields P #[f0, f1] = true) (ce : P.cellsOf TI = 2) (u0 : P.underlying f0.type = some (.int .i64)) (u1 : P.underlying f1.type = some (.int .i64))
    {r : Reach} {b0 : Nat} {v : Value} {d : DataW H} {p : List MemPlace} (hv : Value.okWide P w r b0 TI v) (h : DataW.Trod enc P w 0 (fun _ => true) true TI v d p) : ∃ x : Itm, v = iv x ∧ W64 x := by
  obtain ⟨v0, v1, y0, y1, n, rfl, rfl, _, h0, h1⟩ := open_agg2 hui hone ce hv h
  obtain ⟨a, ha, _, w0⟩ := DataW.trod_int u0 h0
  obtain ⟨b, hb, _, w1⟩ := DataW.trod_int u1 h1
  simp at ha hb
  subst ha hb
  exact ⟨(a, b), rfl, w0, w1⟩
end

end Go.Proofs.YtjjmoonajijnmaaGreat.Im
