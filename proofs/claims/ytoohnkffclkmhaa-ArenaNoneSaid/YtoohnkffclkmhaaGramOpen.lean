/-
  A grammar among the arguments, as a walk reads it: a slice of structs at every index, a list of strings, a list of rules, the struct. Condition: each list and each string is within the form's reach.
-/
import Derived.Test.YtoohnkffclkmhaaGramAt
import Derived.Test.YtoohnkffclkmhaaGramOf
import Derived.Lib.SmallJoins
import Derived.Deep.Slices
import Derived.Deep.SlicePairs
import Derived.ChangeSame
import Derived.SliceStrings
import Derived.SizedLaws
import Derived.Carry
namespace Go.Proofs.Ytoohnkffclkmhaa.Gr
open Go.RowKit Go.Maps Go.ChangeShapes Go.WideShapes Go.Deep Go.Joins
set_option linter.unusedVariables false

/-! ### Weights -/

theorem weightsAll_mem {H : Type} {P : Program} {e : TypeId} {l : List (DataW H)} {d : DataW H} (h : d ∈ l) : ∀ n ∈ d.weights P e, n ∈ DataW.weightsAll P e l := by
  induction l with
  | nil => cases h
  | cons a r ih =>
    intro n hn
    simp only [DataW.weightsAll, List.mem_append]
    rcases List.mem_cons.1 h with rfl | h
    · exact .inl hn
    · exact .inr (ih h n hn)

/-- Each of a datum's weights is within reach. -/
def Within {H : Type} (P : Program) (t : TypeId) (d : DataW H) : Prop := ∀ n ∈ d.weights P t, n ≤ 140737488355328
theorem within_of {H : Type} {P : Program} {ts : List TypeId} {ds : List (DataW H)} (h : (DataW.weightsEach P ts ds).all (· ≤ reachBytes) = true) {j : Nat} {t : TypeId} {d : DataW H} (ht : ts[j]? = some t) (hd : ds[j]? = some d) : Within P t d := fun n hn => by
  have := List.all_eq_true.1 h n (DataW.weights_mem_each ht hd n hn)
  have h2 := reachBytes_lt
  simp at this
  omega
theorem within_field {H : Type} {P : Program} {t : TypeId} {fs : Array Field} {parts : List (DataW H)} (h : Within P t (.agg parts)) (hs : P.underlying t = some (.struct fs)) {j : Nat} {t' : TypeId} {d : DataW H} (ht : (fs.toList.map (·.type))[j]? = some t') (hd : parts[j]? = some d) : Within P t' d := fun n hn => by
  refine h n ?_
  simp only [DataW.weights, hs]
  exact DataW.weights_mem_each ht hd n hn
theorem within_elem {H : Type} {P : Program} {t e : TypeId} {elems spare : List (DataW H)} (h : Within P t (.slice elems spare)) (hs : P.underlying t = some (.slice e)) {d : DataW H} (hd : d ∈ elems) : Within P e d := fun n hn => by
  refine h n ?_
  simp only [DataW.weights, hs, List.mem_cons, List.mem_append]
  exact .inr (.inl (weightsAll_mem hd n hn))
theorem within_cap {H : Type} {P : Program} {t e : TypeId} {elems spare : List (DataW H)} (h : Within P t (.slice elems spare)) (hs : P.underlying t = some (.slice e)) : (elems.length + spare.length) * P.bytesOf e ≤ 140737488355328 := by
  refine h _ ?_
  simp [DataW.weights, hs]

theorem fits_of {n : Int} (h : (Lit.int .i64 n).wf = true) : Fits n := by
  simp only [Lit.wf, Bool.and_eq_true, decide_eq_true_eq] at h
  exact ⟨h.1, h.2⟩

theorem cells_string : Try.prog.cellsOf 9 = 1 := by kernel_rfl
theorem cells_int : Try.prog.cellsOf 3 = 1 := by kernel_rfl
theorem bytes_string : Try.prog.bytesOf 9 = 16 := by kernel_rfl
theorem bytes_int : Try.prog.bytesOf 3 = 8 := by kernel_rfl
theorem bytes_rule : Try.prog.bytesOf 59 = 32 := by kernel_rfl

section
variable {H : Type} {enc : TypeId × Value → H} {w : World}

/-- A list of strings. -/
theorem strs_of {fuel : Nat} {v : Value} {x : DataW H × List MemPlace} (h : DataW.trod enc Try.prog w 0 (fun _ => true) true fuel 40 [v] = some x) (hz : Within Try.prog 40 x.1) :
    ∃ a c, ∃ L : List ByteArray, v = .slice a L.length c ∧ Sep.Reads a (L.map .string) w ∧ L.length ≤ c ∧ c ≤ 8796093022208 ∧ ∀ s ∈ L, s.size ≤ 140737488355328 := by
  rcases open_strings Try.underlying40 Try.underlying9 cells_string h with ⟨hcs, _⟩ | ⟨a, len, cap, ss, hcs, _, hl, hm, hzz, rfl, hcell, hws⟩
  · simp at hcs
    subst hcs
    exact ⟨none, 0, [], rfl, .nil _ _, Nat.le_refl _, by omega, fun s hs => by cases hs⟩
  · simp at hcs
    subst hcs
    simp only [if_true] at hzz
    have hcap := within_cap hz Try.underlying40
    rw [bytes_string] at hcap
    simp [strs] at hcap
    refine ⟨some a, cap, ss.take len, by simp; omega, fun i hi => ?_, by simp; omega, by omega, fun s hs => ?_⟩
    · simp only [List.length_map, List.length_take] at hi
      obtain ⟨bb, off, spot⟩ := a
      have hspot : spot = none := by simpa [Addr.add] using World.cell?_spot (hcell 0 (by omega))
      subst hspot
      refine ⟨bb, off, rfl, ?_⟩
      have hc := hcell i (by omega)
      rw [WideShapes.add_plain] at hc
      rw [hc]
      simp [List.getD_eq_getElem?_getD, List.getElem?_eq_getElem (show i < ss.length by omega)]
    · have := within_elem hz Try.underlying40 (d := .lit (.string s.data.toList)) (by simp only [strs, List.mem_map]; exact ⟨s, hs, rfl⟩)
      have := this s.data.toList.length (by simp [DataW.weights])
      exact this

/-- A list of numbers. -/
theorem ints_of {fuel : Nat} {v : Value} {x : DataW H × List MemPlace} (h : DataW.trod enc Try.prog w 0 (fun _ => true) true fuel 25 [v] = some x) (hz : Within Try.prog 25 x.1) :
    ∃ a c, ∃ L : List Int, v = .slice a L.length c ∧ Sep.Reads a (L.map (.int .i64)) w ∧ L.length ≤ c ∧ c ≤ 17592186044416 ∧ ∀ n ∈ L, Fits n := by
  rcases open_ints Try.underlying25 Try.underlying3 cells_int h with ⟨hcs, _⟩ | ⟨a, len, cap, ss, hcs, _, hl, hm, hzz, rfl, hcell, hws⟩
  · simp at hcs
    subst hcs
    exact ⟨none, 0, [], rfl, .nil _ _, Nat.le_refl _, by omega, fun s hs => by cases hs⟩
  · simp at hcs
    subst hcs
    simp only [if_true] at hzz
    have hcap := within_cap hz Try.underlying25
    rw [bytes_int] at hcap
    simp [lits] at hcap
    refine ⟨some a, cap, ss.take len, by simp; omega, fun i hi => ?_, by simp; omega, by omega, fun n hn => fits_of (hws n (List.mem_of_mem_take hn))⟩
    simp only [List.length_map, List.length_take] at hi
    obtain ⟨bb, off, spot⟩ := a
    have hspot : spot = none := by simpa [Addr.add] using World.cell?_spot (hcell 0 (by omega))
    subst hspot
    refine ⟨bb, off, rfl, ?_⟩
    have hc := hcell i (by omega)
    rw [WideShapes.add_plain] at hc
    rw [hc]
    simp [List.getD_eq_getElem?_getD, List.getElem?_eq_getElem (show i < ss.length by omega)]

/-- One rule of a list, at its place. -/
def RuleIs (a : Option Addr) (i : Nat) (r : Int × List Int) (w : World) : Prop :=
  (∃ b o ra rc, a = some ⟨b, o, none⟩ ∧ w.cell? ⟨b, o + i * 2, none⟩ = some (.int .i64 r.1) ∧ w.cell? ⟨b, o + i * 2 + 1, none⟩ = some (.slice ra r.2.length rc) ∧ Sep.Reads ra (r.2.map (.int .i64)) w ∧ r.2.length ≤ rc ∧ r.2.length ≤ 17592186044416) ∧
  Fits r.1 ∧ ∀ x ∈ r.2, Fits x

/-- A list of rules. -/
theorem rules_of {fuel : Nat} {v : Value} {x : DataW H × List MemPlace} (h : DataW.trod enc Try.prog w 0 (fun _ => true) true fuel 41 [v] = some x) (hz : Within Try.prog 41 x.1) :
    ∃ a c, ∃ R : List (Int × List Int), v = .slice a R.length c ∧ RulesAt a R w ∧ R.length ≤ c ∧ c ≤ 4398046511104 ∧ (∀ r ∈ R, Fits r.1) ∧ ∀ r ∈ R, ∀ x ∈ r.2, Fits x := by
  rcases open_slice_pairs Try.underlying41 Try.underlying59 (by kernel_rfl) rfl rfl (by kernel_rfl) (by kernel_rfl) h with ⟨hcs, _⟩ | ⟨a, len, cap, m, n, V0, V1, D0, D1, P0, P1, hcs, _, hl, hm, hmm, rfl, hi⟩
  · simp at hcs
    subst hcs
    exact ⟨none, 0, [], rfl, fun i hi => absurd hi (by simp), Nat.le_refl _, by omega, (fun r hr => by cases hr), (fun r hr => by cases hr)⟩
  · simp at hcs
    subst hcs
    simp only [if_true] at hmm
    subst hmm
    have hcap := within_cap hz Try.underlying41
    rw [bytes_rule] at hcap
    simp at hcap
    have each : ∀ i, i < len → ∃ r : Int × List Int, RuleIs (some a) i r w := fun i him => by
      obtain ⟨hc0, hc1, ht0, ht1⟩ := hi i (by omega)
      obtain ⟨k, hk, _, hw⟩ := DataW.trod_int Try.underlying3 ht0
      simp at hk
      have hzi := within_elem hz Try.underlying41 (d := .agg [D0 i, D1 i]) (by simp only [List.mem_map]; exact ⟨i, List.mem_range.2 him, rfl⟩)
      have hz1 := within_field hzi Try.underlying59 (j := 1) (t' := 25) (d := D1 i) rfl rfl
      obtain ⟨ra, rc, L, hv1, hR, hL, hC, hF⟩ := ints_of ht1 hz1
      rw [hk] at hc0
      rw [hv1] at hc1
      obtain ⟨bb, off, spot⟩ := a
      have hspot : spot = none := by simpa [Addr.add] using World.cell?_spot (hi 0 (by omega)).1
      subst hspot
      rw [WideShapes.add_plain] at hc0 hc1
      exact ⟨(k, L), ⟨bb, off, ra, rc, rfl, hc0, hc1, hR, hL, Nat.le_trans hL hC⟩, fits_of hw, hF⟩
    obtain ⟨f, hf⟩ := choose_lt each
    refine ⟨some a, m, (List.range len).map f, by simp, fun i hi => ?_, by simpa using hl, by omega, fun r hr => ?_, fun r hr => ?_⟩
    · simp only [List.length_map, List.length_range] at hi
      obtain ⟨b, o, ra, rc, e, h1, h2, h3, h4⟩ := (hf i hi).1
      refine ⟨b, o, ra, rc, e, ?_⟩
      simp only [List.getElem_map, List.getElem_range]
      exact ⟨h1, h2, h3, h4⟩
    · obtain ⟨i, hi, rfl⟩ := List.mem_map.1 hr
      exact (hf i (List.mem_range.1 hi)).2.1
    · obtain ⟨i, hi, rfl⟩ := List.mem_map.1 hr
      exact (hf i (List.mem_range.1 hi)).2.2

set_option maxRecDepth 100000 in
/-- A grammar. -/
theorem gram_of {r : Reach} {b0 : Nat} {v : Value} {d : DataW H} {p : List MemPlace} (hv : Value.okWide Try.prog w r b0 43 v) (h : DataW.Trod enc Try.prog w 0 (fun _ => true) true 43 v d p) (hz : Within Try.prog 43 d) :
    ∃ h G, v = gv h G ∧ GAt h G w := by
  obtain ⟨v0, v1, v2, v3, y0, y1, y2, y3, n, rfl, rfl, _, h0, h1, h2, h3⟩ := open_agg4 Try.underlying43 (by kernel_rfl) (by kernel_rfl) hv h
  obtain ⟨a1, c1, L1, rfl, r1, l1, m1, s1⟩ := strs_of h0 (within_field hz Try.underlying43 (j := 0) (t' := 40) rfl rfl)
  obtain ⟨a2, c2, L2, rfl, r2, l2, m2, s2⟩ := strs_of h1 (within_field hz Try.underlying43 (j := 1) (t' := 40) rfl rfl)
  obtain ⟨a3, c3, R, rfl, r3, l3, m3, s3, s4⟩ := rules_of h2 (within_field hz Try.underlying43 (j := 2) (t' := 41) rfl rfl)
  obtain ⟨k, hk, _, hw⟩ := DataW.trod_int Try.underlying3 h3
  simp at hk
  subst hk
  exact ⟨⟨a1, c1, a2, c2, a3, c3⟩, ⟨L1, L2, R, k⟩, rfl, ⟨r1, r2, r3, l1, Nat.le_trans l1 m1, Nat.le_trans l2 m2, l3, Nat.le_trans l3 m3, ⟨s1, s2, fits_of hw, s3, s4⟩⟩⟩

end

end Go.Proofs.Ytoohnkffclkmhaa.Gr
