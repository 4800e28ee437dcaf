/-
  A grammar and a rule among the arguments of a statement whose readings are of bounded bulk: each name is short. Condition: each list and each string is within the form's reach, the bulk at most 2^20.
-/
import Derived.Test.YtimfiaphhomelaaRows
import Derived.Test.YtimfiaphhomelaaGramOpen
import Derived.Test.YtimfiaphhomelaaGshowPlain
namespace Go.Proofs.Ytimfiaphhomelaa.Sw
open Go.RowKit Go.Maps Go.ChangeShapes Go.WideShapes Go.Deep Go.Joins
open Go.Proofs.Ytimfiaphhomelaa.Gr (Gram GAt Sh gv Within within_field within_elem within_cap fits_of)
set_option linter.unusedVariables false

section
variable {H : Type} {enc : TypeId × Value → H} {w : World}

/-- What is in a list is no more than the list. -/
theorem bulk_mem {d : DataW H} : ∀ {l : List (DataW H)}, d ∈ l → Rows.uptoBulk d ≤ Rows.uptoBulkAll l
  | _ :: _, .head _ => by rw [Rows.uptoBulkAll]; exact Nat.le_add_right _ _
  | _ :: _, .tail _ h => by rw [Rows.uptoBulkAll]; exact Nat.le_trans (bulk_mem h) (Nat.le_add_left _ _)

theorem small_elem {elems spare : List (DataW H)} {d : DataW H} (h : Rows.uptoBulk (.slice elems spare) ≤ 1048576) (hd : d ∈ elems) : Rows.uptoBulk d ≤ 1048576 := by
  have := bulk_mem hd
  simp only [Rows.uptoBulk] at h
  omega
theorem small_part {parts : List (DataW H)} {d : DataW H} (h : Rows.uptoBulk (.agg parts) ≤ 1048576) (hd : d ∈ parts) : Rows.uptoBulk d ≤ 1048576 := by
  have := bulk_mem hd
  simp only [Rows.uptoBulk] at h
  omega
theorem small_arg {ds : List (DataW H)} {d : DataW H} (h : Rows.uptoSmall H ds = true) (hd : d ∈ ds) : Rows.uptoBulk d ≤ 1048576 := by
  have h1 : Rows.uptoBulkAll ds ≤ 1048576 := of_decide_eq_true h
  have := bulk_mem hd
  omega

/-- A list of strings: each is short. -/
theorem strs_small {fuel : Nat} {v : Value} {x : DataW H × List MemPlace} (h : DataW.trod enc Try.prog w 0 (fun _ => true) true fuel 22 [v] = some x) (hz : Within Try.prog 22 x.1) (hb : Rows.uptoBulk x.1 ≤ 1048576) :
    ∃ a c, ∃ L : List ByteArray, v = .slice a L.length c ∧ Sep.Reads a (L.map .string) w ∧ L.length ≤ c ∧ c ≤ 8796093022208 ∧ ∀ s ∈ L, s.size ≤ 1048576 := by
  rcases open_strings Try.underlying22 Try.underlying9 Gr.cells_string h with ⟨hcs, _⟩ | ⟨a, len, cap, ss, hcs, _, hl, hm, hzz, rfl, hcell, hws⟩
  · simp at hcs
    subst hcs
    exact ⟨none, 0, [], rfl, .nil _ _, Nat.le_refl _, by omega, fun s hs => by cases hs⟩
  · simp at hcs
    subst hcs
    simp only [if_true] at hzz
    have hcap := within_cap hz Try.underlying22
    rw [Gr.bytes_string] at hcap
    simp [strs] at hcap
    refine ⟨some a, cap, ss.take len, by simp; omega, fun i hi => ?_, by simp; omega, by omega, fun s hs => ?_⟩
    · simp only [List.length_map, List.length_take] at hi
      obtain ⟨bb, off, spot⟩ := a
      have hspot : spot = none := by simpa [Addr.add] using World.cell?_spot (hcell 0 (by omega))
      subst hspot
      refine ⟨bb, off, rfl, ?_⟩
      have hc := hcell i (by omega)
      rw [WideShapes.add_plain] at hc
      rw [hc]
      simp [List.getD_eq_getElem?_getD, List.getElem?_eq_getElem (show i < ss.length by omega)]
    · have h1 := small_elem hb (d := .lit (.string s.data.toList)) (by simp only [strs, List.mem_map]; exact ⟨s, hs, rfl⟩)
      simp only [Rows.uptoBulk] at h1
      have h2 : s.data.toList.length = s.size := by simp
      omega

set_option maxRecDepth 100000 in
/-- A grammar: each name is short. -/
theorem gram_small {r : Reach} {b0 : Nat} {v : Value} {d : DataW H} {p : List MemPlace} (hv : Value.okWide Try.prog w r b0 25 v) (h : DataW.Trod enc Try.prog w 0 (fun _ => true) true 25 v d p) (hz : Within Try.prog 25 d) (hb : Rows.uptoBulk d ≤ 1048576) :
    ∃ h G, v = gv h G ∧ GAt h G w ∧ (∀ s ∈ G.terms, s.size ≤ 1048576) ∧ ∀ s ∈ G.nons, s.size ≤ 1048576 := by
  obtain ⟨v0, v1, v2, v3, y0, y1, y2, y3, n, rfl, rfl, _, h0, h1, h2, h3⟩ := open_agg4 Try.underlying25 (by kernel_rfl) (by kernel_rfl) hv h
  obtain ⟨a1, c1, L1, rfl, r1, l1, m1, s1⟩ := strs_small h0 (within_field hz Try.underlying25 (j := 0) (t' := 22) rfl rfl) (small_part hb (by simp))
  obtain ⟨a2, c2, L2, rfl, r2, l2, m2, s2⟩ := strs_small h1 (within_field hz Try.underlying25 (j := 1) (t' := 22) rfl rfl) (small_part hb (by simp))
  obtain ⟨a3, c3, R, rfl, r3, l3, m3, s3, s4⟩ := Gr.rules_of h2 (within_field hz Try.underlying25 (j := 2) (t' := 23) rfl rfl)
  obtain ⟨k, hk, _, hw⟩ := DataW.trod_int Try.underlying3 h3
  simp at hk
  subst hk
  exact ⟨⟨a1, c1, a2, c2, a3, c3⟩, ⟨L1, L2, R, k⟩, rfl, ⟨r1, r2, r3, l1, Nat.le_trans l1 m1, Nat.le_trans l2 m2, l3, Nat.le_trans l3 m3, ⟨fun s hs => by have := s1 s hs; omega, fun s hs => by have := s2 s hs; omega, fits_of hw, s3, s4⟩⟩, s1, s2⟩

/-- A rule. -/
theorem rule_of {r : Reach} {b0 : Nat} {v : Value} {d : DataW H} {p : List MemPlace} (hv : Value.okWide Try.prog w r b0 28 v) (h : DataW.Trod enc Try.prog w 0 (fun _ => true) true 28 v d p) (hz : Within Try.prog 28 d) :
    ∃ (r : Int × List Int) (ra : Option Addr) (rc : Nat), v = .agg #[.int .i64 r.1, .slice ra r.2.length rc] ∧ Sep.Reads ra (r.2.map (.int .i64)) w ∧ r.2.length ≤ 17592186044416 := by
  obtain ⟨v0, v1, y0, y1, n, rfl, rfl, _, h0, h1⟩ := open_agg2 Try.underlying28 (by kernel_rfl) (by kernel_rfl) hv h
  obtain ⟨k, hk, _, hw⟩ := DataW.trod_int Try.underlying3 h0
  obtain ⟨ra, rc, L, rfl, r1, l1, m1, s1⟩ := Gr.ints_of h1 (within_field hz Try.underlying28 (j := 1) (t' := 26) rfl rfl)
  simp at hk
  subst hk
  exact ⟨(k, L), ra, rc, rfl, r1, Nat.le_trans l1 m1⟩

end

/-- Whatever is named has a short name. -/
theorem nm_small {G : Gram} (h1 : ∀ s ∈ G.terms, s.size ≤ 1048576) (h2 : ∀ s ∈ G.nons, s.size ≤ 1048576) (x : Int) : (nmL G x).length ≤ 1048576 := by
  have hn : ∀ s ∈ Gr.names G, s.size ≤ 1048576 := fun s hs => by
    unfold Gr.names at hs
    rcases List.mem_append.1 hs with h | h
    · exact h1 s h
    · exact h2 s h
  have e : (nmL G x).length = (Gr.nameS G x).size := by unfold nmL; simp
  rw [e]
  unfold Gr.nameS
  split
  · decide
  · split
    · rw [List.getD_eq_getElem?_getD]
      cases hg : (Gr.names G)[x.toNat - 1]? with
      | none => decide
      | some s => exact hn s (List.mem_of_getElem? hg)
    · decide

end Go.Proofs.Ytimfiaphhomelaa.Sw
