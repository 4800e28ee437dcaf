/-
  States in memory, as a walk reads them: a list of structs of two lists each. The program and its types are parameters.
-/
import Derived.Test.YtjjmoonajijnmaaGreatItemArg
namespace Go.Proofs.YtjjmoonajijnmaaGreat.Au
open Go.RowKit Go.Maps Go.WideShapes Go.ChangeShapes Go.Joins Go.Deep
open Go.Proofs.YtjjmoonajijnmaaGreat.Gr (Within within_cap within_elem within_field cell_later)
open Go.Proofs.YtjjmoonajijnmaaGreat.Im
set_option linter.unusedVariables false

/-- A state: its items, its transitions. -/
abbrev Sta := List Itm × List (Int × Int)
/-- State i of a list. -/
def StateIs (a : Option Addr) (i : Nat) (s : Sta) (w : World) : Prop :=
  ∃ b o a1 c1 a2 c2, a = some ⟨b, o, none⟩ ∧ w.cell? ⟨b, o + i * 2, none⟩ = some (.slice a1 s.1.length c1) ∧ w.cell? ⟨b, o + i * 2 + 1, none⟩ = some (.slice a2 s.2.length c2) ∧ ItsA a1 s.1 w ∧ ItsA a2 s.2 w ∧ s.1.length ≤ c1 ∧ s.2.length ≤ c2
/-- A list of states. -/
def StaA (a : Option Addr) (X : List Sta) (w : World) : Prop := ∀ i (h : i < X.length), StateIs a i X[i] w
theorem StateIs.went {a : Option Addr} {i : Nat} {s : Sta} {w w' : World} (h : StateIs a i s w) (hb : Below w.heap.size w w') : StateIs a i s w' := by
  obtain ⟨b, o, a1, c1, a2, c2, e, h1, h2, h3, h4, h5, h6⟩ := h
  exact ⟨b, o, a1, c1, a2, c2, e, cell_later hb h1, cell_later hb h2, h3.went hb, h4.went hb, h5, h6⟩
theorem StaA.went {a : Option Addr} {X : List Sta} {w w' : World} (h : StaA a X w) (hb : Below w.heap.size w w') : StaA a X w' := fun i hi => (h i hi).went hb
theorem StaA.nil (a : Option Addr) (w : World) : StaA a [] w := fun i hi => absurd hi (Nat.not_lt_zero i)

section
variable {H : Type} {P : Program} {enc : TypeId × Value → H} {w : World} {TS TT TI TR : TypeId} {g0 g1 f0 f1 e0 e1 : Field}

/-- A list of states; a nil one too. -/
theorem states_of (hus : P.underlying TS = some (.slice TT)) (hut : P.underlying TT = some (.struct #[g0, g1])) (ce : P.cellsOf TT = 2) (o0 : g0.offset = 0) (o1 : g1.offset = 1) (c0 : P.cellsOf g0.type = 1) (c1 : P.cellsOf g1.type = 1) (b48 : P.bytesOf TT = 48)
    (hul : P.underlying g0.type = some (.slice TI)) (hui : P.underlying TI = some (.struct #[f0, f1])) (cei : P.cellsOf TI = 2) (p0 : f0.offset = 0) (p1 : f1.offset = 1) (d0 : P.cellsOf f0.type = 1) (d1 : P.cellsOf f1.type = 1) (b16 : P.bytesOf TI = 16)
    (u0 : P.underlying f0.type = some (.int .i64)) (u1 : P.underlying f1.type = some (.int .i64))
    (hum : P.underlying g1.type = some (.slice TR)) (hur : P.underlying TR = some (.struct #[e0, e1])) (cer : P.cellsOf TR = 2) (q0 : e0.offset = 0) (q1 : e1.offset = 1) (k0 : P.cellsOf e0.type = 1) (k1 : P.cellsOf e1.type = 1) (b16' : P.bytesOf TR = 16)
    (v0 : P.underlying e0.type = some (.int .i64)) (v1 : P.underlying e1.type = some (.int .i64)) {fuel : Nat} {v : Value} {x : DataW H × List MemPlace} (h : DataW.trod enc P w 0 (fun _ => true) true fuel TS [v] = some x) (hz : Within P TS x.1) :
    ∃ a c, ∃ X : List Sta, v = .slice a X.length c ∧ StaA a X w ∧ X.length ≤ c ∧ c ≤ 2932031007402 ∧ ∀ s ∈ X, (∀ x ∈ s.1, W64 x) ∧ ∀ x ∈ s.2, W64 x := by
  rcases Deep.open_slice_pairs hus hut ce o0 o1 c0 c1 h with ⟨hcs, _⟩ | ⟨a, len, cap, m, k, V0, V1, D0, D1, P0, P1, hcs, _, hl, hm, hmm, rfl, hall⟩
  · simp at hcs
    subst hcs
    exact ⟨none, 0, [], rfl, .nil _ _, Nat.le_refl _, by omega, fun s hs => by cases hs⟩
  · simp at hcs
    subst hcs
    simp only [if_true] at hmm
    subst hmm
    have hcap := within_cap hz hus
    rw [b48] at hcap
    simp at hcap
    have each : ∀ i, i < len → ∃ s : Sta, StateIs (some a) i s w ∧ (∀ x ∈ s.1, W64 x) ∧ ∀ x ∈ s.2, W64 x := fun i him => by
      obtain ⟨hc0, hc1, ht0, ht1⟩ := hall i (by omega)
      have hzi := within_elem hz hus (d := .agg [D0 i, D1 i]) (by simp only [List.mem_map]; exact ⟨i, List.mem_range.2 him, rfl⟩)
      have hz0 := within_field hzi hut (j := 0) (t' := g0.type) (d := D0 i) rfl rfl
      have hz1 := within_field hzi hut (j := 1) (t' := g1.type) (d := D1 i) rfl rfl
      obtain ⟨a1, n1, X1, w1, r1, l1, _, s1⟩ := items_of hul hui cei p0 p1 d0 d1 b16 u0 u1 ht0 hz0
      obtain ⟨a2, n2, X2, w2, r2, l2, _, s2⟩ := items_of hum hur cer q0 q1 k0 k1 b16' v0 v1 ht1 hz1
      rw [w1] at hc0
      rw [w2] at hc1
      obtain ⟨bb, off, spot⟩ := a
      have hspot : spot = none := by simpa [Addr.add] using World.cell?_spot (hall 0 (by omega)).1
      subst hspot
      rw [WideShapes.add_plain] at hc0 hc1
      exact ⟨(X1, X2), ⟨bb, off, a1, n1, a2, n2, rfl, hc0, hc1, r1, r2, l1, l2⟩, s1, s2⟩
    obtain ⟨f, hf⟩ := choose_lt each
    refine ⟨some a, m, (List.range len).map f, by simp, fun i hi => ?_, by simpa using hl, by omega, fun r hr => ?_⟩
    · simp only [List.length_map, List.length_range] at hi
      simp only [List.getElem_map, List.getElem_range]
      exact (hf i hi).1
    · obtain ⟨i, hi, rfl⟩ := List.mem_map.1 hr
      exact (hf i (List.mem_range.1 hi)).2
end

end Go.Proofs.YtjjmoonajijnmaaGreat.Au
