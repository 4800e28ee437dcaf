/-
  Plain facts on grammars: what a grammar is as data; symbols, names, rules of a symbol, the order of nonterminals, what makes a grammar valid. No program in it.
-/
import Derived.Test.YtoohnkffclkmhaaInternPlain
import Derived.Test.YtoohnkffclkmhaaCharPlain
namespace Go.Proofs.Ytoohnkffclkmhaa.Gr
open Go.RowKit Go.Maps

/-- A grammar as data: names, rules (a left side, a right side), the beginning. -/
structure Gram where
  terms : List ByteArray
  nons : List ByteArray
  rules : List (Int × List Int)
  start : Int

def names (G : Gram) : List ByteArray := G.terms ++ G.nons
def top (G : Gram) : Nat := G.terms.length + G.nons.length
def termB (G : Gram) (s : Int) : Bool := decide (1 ≤ s ∧ s ≤ (G.terms.length : Int))
def nonB (G : Gram) (s : Int) : Bool := decide ((G.terms.length : Int) < s ∧ s ≤ (top G : Int))
def nameS (G : Gram) (s : Int) : ByteArray := if s = 0 then ⟨#[36]⟩ else if 1 ≤ s ∧ s ≤ (top G : Int) then (names G).getD (s.toNat - 1) ⟨#[]⟩ else ⟨#[]⟩
def findI (G : Gram) (t : ByteArray) : Int := It.place (names G) t + 1

theorem nonB_iff {G : Gram} {s : Int} : nonB G s = true ↔ (G.terms.length : Int) < s ∧ s ≤ (G.terms.length : Int) + (G.nons.length : Int) := by
  unfold nonB top
  rw [decide_eq_true_iff]
  omega
theorem nonB_not {G : Gram} {s : Int} : nonB G s = false ↔ s ≤ (G.terms.length : Int) ∨ (G.terms.length : Int) + (G.nons.length : Int) < s := by
  rw [← Bool.not_eq_true, nonB_iff]
  omega
theorem termB_iff {G : Gram} {s : Int} : termB G s = true ↔ 1 ≤ s ∧ s ≤ (G.terms.length : Int) := by
  unfold termB
  rw [decide_eq_true_iff]

theorem names_length (G : Gram) : (names G).length = top G := by simp [names, top]

theorem name_zero (G : Gram) : nameS G 0 = ⟨#[36]⟩ := by simp [nameS]
theorem name_out {G : Gram} {s : Int} (h : s < 0 ∨ (top G : Int) < s) : nameS G s = ⟨#[]⟩ := by
  unfold nameS
  rw [if_neg (by omega), if_neg (by omega)]
theorem name_in {G : Gram} {s : Nat} (h : s < top G) : nameS G ((s : Int) + 1) = (names G)[s]'(by rw [names_length]; exact h) := by
  unfold nameS
  rw [if_neg (by omega), if_pos (by omega)]
  have e : ((s : Int) + 1).toNat - 1 = s := by omega
  rw [e]
  simp [List.getD_eq_getElem?_getD, List.getElem?_eq_getElem (show s < (names G).length by rw [names_length]; exact h)]
theorem name_term {G : Gram} {s : Nat} (h : s < G.terms.length) : nameS G ((s : Int) + 1) = G.terms[s] := by
  rw [name_in (by unfold top; omega)]
  simp [names, List.getElem_append_left h]
theorem name_non {G : Gram} {s : Nat} (h : s < G.nons.length) : nameS G (((G.terms.length + s : Nat) : Int) + 1) = G.nons[s] := by
  rw [name_in (by unfold top; omega)]
  simp [names, List.getElem_append_right]

/-! ### Rules -/

def leftOf (R : List (Int × List Int)) (i : Nat) : Int := (R.getD i (0, [])).1
theorem leftOf_get {R : List (Int × List Int)} {i : Nat} (h : i < R.length) : leftOf R i = R[i].1 := by
  simp [leftOf, List.getD_eq_getElem?_getD, List.getElem?_eq_getElem h]

/-- The numbers of the rules of a symbol, among the first k. -/
def ofTo (R : List (Int × List Int)) (s : Int) (k : Nat) : List Nat := (List.range k).filter fun i => leftOf R i == s
def ofN (G : Gram) (s : Int) : List Nat := ofTo G.rules s G.rules.length

theorem ofTo_zero (R : List (Int × List Int)) (s : Int) : ofTo R s 0 = [] := rfl
theorem ofTo_hit {R : List (Int × List Int)} {s : Int} {k : Nat} (h : leftOf R k = s) : ofTo R s (k + 1) = ofTo R s k ++ [k] := by
  simp [ofTo, List.range_succ, List.filter_append, h]
theorem ofTo_miss {R : List (Int × List Int)} {s : Int} {k : Nat} (h : ¬ leftOf R k = s) : ofTo R s (k + 1) = ofTo R s k := by
  simp [ofTo, List.range_succ, List.filter_append, h]
theorem ofTo_le (R : List (Int × List Int)) (s : Int) (k : Nat) : (ofTo R s k).length ≤ k := by
  unfold ofTo
  exact Nat.le_trans (List.length_filter_le _ _) (by simp)
theorem mem_ofTo {R : List (Int × List Int)} {s : Int} {k i : Nat} : i ∈ ofTo R s k ↔ i < k ∧ leftOf R i = s := by
  simp [ofTo]
theorem mem_ofN {G : Gram} {s : Int} {i : Nat} : i ∈ ofN G s ↔ i < G.rules.length ∧ leftOf G.rules i = s := mem_ofTo

def ruleB (G : Gram) (i : Int) : Bool := decide (0 ≤ i ∧ i ≤ (G.rules.length : Int))
def ruleR (G : Gram) (i : Int) : Int × List Int := if i < 0 ∨ (G.rules.length : Int) < i then (0, []) else if i = G.rules.length then (0, [G.start]) else G.rules.getD i.toNat (0, [])

theorem rule_out {G : Gram} {i : Int} (h : i < 0 ∨ (G.rules.length : Int) < i) : ruleB G i = false ∧ ruleR G i = (0, []) := by
  refine ⟨?_, by unfold ruleR; rw [if_pos h]⟩
  unfold ruleB
  rw [decide_eq_false_iff_not]
  omega
theorem rule_end (G : Gram) : ruleB G G.rules.length = true ∧ ruleR G G.rules.length = (0, [G.start]) := by
  refine ⟨by simp [ruleB], ?_⟩
  unfold ruleR
  rw [if_neg (by omega), if_pos rfl]
theorem rule_in {G : Gram} {i : Nat} (h : i < G.rules.length) : ruleB G i = true ∧ ruleR G i = G.rules[i] := by
  refine ⟨by simp [ruleB]; omega, ?_⟩
  unfold ruleR
  rw [if_neg (by omega), if_neg (by omega)]
  simp [List.getD_eq_getElem?_getD, List.getElem?_eq_getElem h]

/-! ### The order of nonterminals -/

/-- The first rule of the i-th nonterminal, or how many rules there are. -/
def firstR (G : Gram) (i : Nat) : Nat := (ofN G ((G.terms.length : Int) + 1 + i)).headD G.rules.length

/-- Each nonterminal occurs first behind the one ahead of it. -/
def OrdP (G : Gram) : Prop := ∀ j, j < G.rules.length → ∀ i i' : Nat, i < G.nons.length → i' < i → leftOf G.rules j = (G.terms.length : Int) + 1 + i → ∃ j', j' < j ∧ leftOf G.rules j' = (G.terms.length : Int) + 1 + i'

noncomputable def ordB (G : Gram) : Bool := @decide (OrdP G) (Classical.propDecidable _)
theorem ord_true {G : Gram} (h : OrdP G) : ordB G = true := by unfold ordB; simpa using h
theorem ord_false {G : Gram} (h : ¬ OrdP G) : ordB G = false := by unfold ordB; simpa using h

/-- The nonterminals that occur as left sides of the first k rules are the first m. -/
def Seen (G : Gram) (k m : Nat) : Prop := m ≤ G.nons.length ∧ ∀ i, i < G.nons.length → (i < m ↔ ∃ j, j < k ∧ leftOf G.rules j = (G.terms.length : Int) + 1 + i)

theorem seen_zero (G : Gram) : Seen G 0 0 := ⟨Nat.zero_le _, fun i _ => ⟨fun h => absurd h (by omega), fun ⟨j, h, _⟩ => absurd h (by omega)⟩⟩
/-- A left side that is seen, or none. -/
theorem seen_skip {G : Gram} {k m : Nat} (h : Seen G k m) (hs : nonB G (leftOf G.rules k) = false ∨ leftOf G.rules k < (G.terms.length : Int) + 1 + m) : Seen G (k + 1) m := by
  refine ⟨h.1, fun i hi => ?_⟩
  rw [h.2 i hi]
  constructor
  · rintro ⟨j, hj, e⟩
    exact ⟨j, by omega, e⟩
  · rintro ⟨j, hj, e⟩
    by_cases hk : j = k
    · subst hk
      rcases hs with hs | hs
      · rw [nonB_not] at hs
        omega
      · exact (h.2 i hi).1 (by omega)
    · exact ⟨j, by omega, e⟩
theorem seen_next {G : Gram} {k m : Nat} (h : Seen G k m) (hn : nonB G (leftOf G.rules k) = true) (hs : leftOf G.rules k = (G.terms.length : Int) + 1 + m) : Seen G (k + 1) (m + 1) := by
  rw [nonB_iff] at hn
  refine ⟨by omega, fun i hi => ?_⟩
  constructor
  · intro hlt
    by_cases e : i = m
    · subst e
      exact ⟨k, by omega, hs⟩
    · obtain ⟨j, hj, e⟩ := (h.2 i hi).1 (by omega)
      exact ⟨j, by omega, e⟩
  · rintro ⟨j, hj, e⟩
    by_cases hk : j = k
    · subst hk
      omega
    · have := (h.2 i hi).2 ⟨j, by omega, e⟩
      omega
/-- A left side too far. -/
theorem seen_far {G : Gram} {k m : Nat} (hk : k < G.rules.length) (h : Seen G k m) (hn : nonB G (leftOf G.rules k) = true) (hs : (G.terms.length : Int) + 1 + m < leftOf G.rules k) : ordB G = false := by
  refine ord_false fun hO => ?_
  rw [nonB_iff] at hn
  obtain ⟨i, hi, e⟩ : ∃ i : Nat, i < G.nons.length ∧ leftOf G.rules k = (G.terms.length : Int) + 1 + i := ⟨(leftOf G.rules k - G.terms.length - 1).toNat, by omega, by omega⟩
  obtain ⟨j', hj, e'⟩ := hO k hk i m hi (by omega) e
  have := (h.2 m (by omega)).2 ⟨j', hj, e'⟩
  omega
/-- How far the rules have come, as a Prop of the walk: the next one expected. -/
def OrdTo (G : Gram) (k m : Nat) : Prop := Seen G k m ∧ ∀ j, j < k → ∀ i i' : Nat, i < G.nons.length → i' < i → leftOf G.rules j = (G.terms.length : Int) + 1 + i → ∃ j', j' < j ∧ leftOf G.rules j' = (G.terms.length : Int) + 1 + i'
theorem ordTo_zero (G : Gram) : OrdTo G 0 0 := ⟨seen_zero G, fun j h => absurd h (by omega)⟩
theorem ordTo_skip {G : Gram} {k m : Nat} (h : OrdTo G k m) (hs : nonB G (leftOf G.rules k) = false ∨ leftOf G.rules k < (G.terms.length : Int) + 1 + m) : OrdTo G (k + 1) m := by
  refine ⟨seen_skip h.1 hs, fun j hj i i' hi hlt e => ?_⟩
  by_cases hk : j = k
  · subst hk
    rcases hs with hs | hs
    · rw [nonB_not] at hs
      omega
    · exact (h.1.2 i' (by omega)).1 (by omega)
  · exact h.2 j (by omega) i i' hi hlt e
theorem ordTo_next {G : Gram} {k m : Nat} (h : OrdTo G k m) (hn : nonB G (leftOf G.rules k) = true) (hs : leftOf G.rules k = (G.terms.length : Int) + 1 + m) : OrdTo G (k + 1) (m + 1) := by
  refine ⟨seen_next h.1 hn hs, fun j hj i i' hi hlt e => ?_⟩
  by_cases hk : j = k
  · subst hk
    exact (h.1.2 i' (by omega)).1 (by omega)
  · exact h.2 j (by omega) i i' hi hlt e
theorem ordTo_end {G : Gram} {m : Nat} (h : OrdTo G G.rules.length m) : ordB G = true := ord_true h.2

theorem firstR_le (G : Gram) (i : Nat) : firstR G i ≤ G.rules.length := by
  unfold firstR
  cases h : ofN G ((G.terms.length : Int) + 1 + i) with
  | nil => simp
  | cons x r =>
    have := (mem_ofN (G := G) (s := (G.terms.length : Int) + 1 + i) (i := x)).1 (by rw [h]; simp)
    simp
    omega
theorem firstR_hit {G : Gram} {i : Nat} (h : firstR G i < G.rules.length) : leftOf G.rules (firstR G i) = (G.terms.length : Int) + 1 + i := by
  unfold firstR at h ⊢
  cases e : ofN G ((G.terms.length : Int) + 1 + i) with
  | nil => rw [e] at h; simp at h
  | cons x r => exact ((mem_ofN (G := G)).1 (by rw [e]; simp)).2
theorem firstR_min {G : Gram} {i j : Nat} (hj : j < G.rules.length) (h : leftOf G.rules j = (G.terms.length : Int) + 1 + i) : firstR G i ≤ j := by
  unfold firstR
  have hm := (mem_ofN (G := G)).2 ⟨hj, h⟩
  have hp : (ofN G ((G.terms.length : Int) + 1 + i)).Pairwise (· < ·) := List.Pairwise.filter _ List.pairwise_lt_range
  cases e : ofN G ((G.terms.length : Int) + 1 + i) with
  | nil => rw [e] at hm; simp at hm
  | cons x r =>
    rw [e] at hm hp
    simp only [List.headD_cons]
    rcases List.mem_cons.1 hm with rfl | hm
    · exact Nat.le_refl _
    · exact Nat.le_of_lt ((List.pairwise_cons.1 hp).1 j hm)

/-- The first rules of the nonterminals rise, up to the k-th. -/
def RisesTo (G : Gram) (k : Nat) : Prop := ∀ i, i + 1 < k → firstR G i ≤ firstR G (i + 1)
/-- What stands ahead of the k-th. -/
def lastR (G : Gram) (k : Nat) : Int := match k with | 0 => -1 | k + 1 => (firstR G k : Int)
theorem rises_zero (G : Gram) : RisesTo G 0 := fun _ h => absurd h (by omega)
theorem rises_next {G : Gram} {k : Nat} (h : RisesTo G k) (hn : ¬ (firstR G k : Int) < lastR G k) : RisesTo G (k + 1) := fun i hi => by
  by_cases e : i + 1 = k
  · subst e
    simp only [lastR] at hn
    omega
  · exact h i (by omega)
theorem rises_fail {G : Gram} {k : Nat} (hk : k < G.nons.length) (hn : (firstR G k : Int) < lastR G k) : ordB G = false := by
  refine ord_false fun hO => ?_
  cases k with
  | zero => simp only [lastR] at hn; omega
  | succ k =>
    simp only [lastR] at hn
    have h1 := firstR_le G k
    have h2 : firstR G (k + 1) < G.rules.length := by omega
    obtain ⟨j', hj, e⟩ := hO _ h2 (k + 1) k hk (by omega) (firstR_hit h2)
    have := firstR_min (G := G) (i := k) (by omega) e
    omega
theorem rises_mono {G : Gram} {n : Nat} (h : RisesTo G n) {i j : Nat} (hij : i ≤ j) (hj : j < n) : firstR G i ≤ firstR G j := by
  induction hij with
  | refl => exact Nat.le_refl _
  | @step m hm ih => exact Nat.le_trans (ih (by omega)) (h m hj)
theorem rises_end {G : Gram} (h : RisesTo G G.nons.length) : ordB G = true := by
  refine ord_true fun j hj i i' hi hlt e => ?_
  have h1 := firstR_min hj e
  have h2 := rises_mono h (Nat.le_of_lt hlt) hi
  have h3 := firstR_hit (G := G) (i := i') (by omega)
  refine ⟨firstR G i', ?_, h3⟩
  have : firstR G i' ≠ j := fun hh => by rw [hh, e] at h3; omega
  omega

/-! ### Equality -/

def sameR (r q : Int × List Int) : Bool := r.1 == q.1 && decide (r.2 = q.2)
theorem sameR_iff {r q : Int × List Int} : sameR r q = true ↔ r = q := by
  obtain ⟨a, b⟩ := r
  obtain ⟨c, d⟩ := q
  simp [sameR]
theorem sameR_false {r q : Int × List Int} : sameR r q = false ↔ r ≠ q := by rw [ne_eq, ← sameR_iff, Bool.not_eq_true]
def sameS (L M : List ByteArray) : Bool := decide (L = M)
def sameRs (R Q : List (Int × List Int)) : Bool := decide (R = Q)
def sameG (G H : Gram) : Bool := G.start == H.start && sameS G.terms H.terms && sameS G.nons H.nons && sameRs G.rules H.rules
theorem sameG_self (G : Gram) : sameG G G = true := by simp [sameG, sameS, sameRs]

/-! ### Validity -/

/-- A byte that may stand in a quoted token. -/
def insB (x : Int) : Bool := decide (33 ≤ x ∧ x ≤ 126 ∧ x ≠ 39)
/-- All bytes from the second on, ahead of k, may stand there. -/
def InTo (s : ByteArray) (k : Nat) : Prop := ∀ j (h : j < s.size), 1 ≤ j → j < k → insB ((s[j]'h).toNat : Int) = true
/-- The quote at k closes the token. -/
def Closes (s : ByteArray) (k : Nat) : Prop := 2 ≤ k ∧ k < 24 ∧ InTo s k ∧ ∃ h : k < s.size, (s[k]'h).toNat = 39

theorem inTo_one (s : ByteArray) : InTo s 1 := fun j _ h1 h2 => absurd h1 (by omega)
theorem inTo_step {s : ByteArray} {k : Nat} (h : InTo s k) (hk : k < s.size) (hi : insB ((s[k]'hk).toNat : Int) = true) : InTo s (k + 1) := fun j hj h1 h2 => by
  by_cases e : j = k
  · subst e
    exact hi
  · exact h j hj h1 (by omega)
theorem closes_not {s : ByteArray} {k : Nat} (h : Closes s k) {i : Nat} (hi : i < s.size) (h1 : 1 ≤ i) (hk : i < k) : insB ((s[i]'hi).toNat : Int) = true := h.2.2.1 i hi h1 hk
/-- Just one quoted token. -/
noncomputable def quoS (s : ByteArray) : Bool := @decide ((∃ h : 0 < s.size, (s[0]'h).toNat = 39) ∧ ∃ k, Closes s k ∧ k + 1 = s.size) (Classical.propDecidable _)
theorem closes_one {s : ByteArray} {k j : Nat} (h : Closes s k) (g : Closes s j) : k = j := by
  obtain ⟨h1, h2, h3, h4, h5⟩ := h
  obtain ⟨g1, g2, g3, g4, g5⟩ := g
  rcases Nat.lt_trichotomy k j with hlt | rfl | hlt
  · have := g3 k h4 (by omega) hlt
    rw [h5] at this
    simp [insB] at this
  · rfl
  · have := h3 j g4 (by omega) hlt
    rw [g5] at this
    simp [insB] at this
theorem quo_no {s : ByteArray} (h : ¬ ∃ h : 0 < s.size, (s[0]'h).toNat = 39) : quoS s = false := by
  unfold quoS
  rw [decide_eq_false_iff_not]
  exact fun k => h k.1
theorem quo_none {s : ByteArray} (h : ¬ ∃ k, Closes s k) : quoS s = false := by
  unfold quoS
  rw [decide_eq_false_iff_not]
  exact fun ⟨_, k, hk, _⟩ => h ⟨k, hk⟩
theorem quo_some {s : ByteArray} {k : Nat} (h0 : ∃ h : 0 < s.size, (s[0]'h).toNat = 39) (h : Closes s k) : quoS s = decide (k + 1 = s.size) := by
  unfold quoS
  rw [Bool.eq_iff_iff, @decide_eq_true_iff _ (Classical.propDecidable _), decide_eq_true_iff]
  constructor
  · rintro ⟨_, j, hj, e⟩
    rw [closes_one h hj]
    exact e
  · exact fun e => ⟨h0, k, h, e⟩

/-- A plain name. -/
def plnS (s : ByteArray) : Bool := decide (s.size ≤ 24) && Ch.namB s.data.toList
def manyB (G : Gram) : Bool := decide (120 < G.terms.length) || decide (120 < G.nons.length) || decide (300 < G.rules.length) || G.rules.any fun r => decide (8 < r.2.length)
noncomputable def formB (G : Gram) : Bool := (G.terms.all fun s => plnS s || quoS s) && G.nons.all plnS
def onceB (G : Gram) : Bool := decide (names G).Nodup
def knownB (G : Gram) : Bool := nonB G G.start && G.rules.all fun r => nonB G r.1 && r.2.all fun x => decide (1 ≤ x ∧ x ≤ (top G : Int))
def unlikeB (G : Gram) : Bool := decide G.rules.Nodup
def ruledB (G : Gram) : Bool := (List.range G.nons.length).all fun i => !(ofN G ((G.terms.length : Int) + 1 + i)).isEmpty
noncomputable def checkN (G : Gram) : Int := if manyB G then 7 else if !formB G then 10 else if !onceB G then 8 else if !knownB G then 1 else if !unlikeB G then 8 else if !ruledB G then 9 else 0

theorem check_ok {G : Gram} (h : checkN G = 0) : manyB G = false ∧ formB G = true ∧ onceB G = true ∧ knownB G = true ∧ unlikeB G = true ∧ ruledB G = true := by
  unfold checkN at h
  cases h1 : manyB G <;> cases h2 : formB G <;> cases h3 : onceB G <;> cases h4 : knownB G <;> cases h5 : unlikeB G <;> cases h6 : ruledB G <;> simp [h1, h2, h3, h4, h5, h6] at h ⊢

theorem known_non {G : Gram} (h : knownB G = true) {i : Nat} (hi : i < G.rules.length) : nonB G (leftOf G.rules i) = true := by
  simp only [knownB, Bool.and_eq_true, List.all_eq_true] at h
  rw [leftOf_get hi]
  exact (h.2 _ (List.getElem_mem hi)).1
theorem once_find {G : Gram} (h : onceB G = true) {s : Nat} (hs : s < top G) : findI G (nameS G ((s : Int) + 1)) = (s : Int) + 1 := by
  simp only [onceB, decide_eq_true_eq] at h
  have hl : s < (names G).length := by rw [names_length]; exact hs
  rw [name_in hs]
  unfold findI
  have hp := It.pl_at (L := names G) (s := (names G)[s]) hl rfl (fun j hj e => absurd ((List.getElem_inj h).1 e) (by omega))
  rw [It.place_in (by simp [It.isIn, hp])]
  simp [It.num, hp]
theorem ruled_of {G : Gram} (h : ruledB G = true) (hk : knownB G = true) (s : Int) : nonB G s = decide (0 < (ofN G s).length) := by
  cases hn : nonB G s with
  | true =>
    rw [nonB_iff] at hn
    simp only [ruledB, List.all_eq_true, List.mem_range] at h
    have := h (s - G.terms.length - 1).toNat (by omega)
    have e : (G.terms.length : Int) + 1 + ((s - G.terms.length - 1).toNat : Int) = s := by omega
    rw [e] at this
    have : ofN G s ≠ [] := fun hh => by rw [hh] at this; simp at this
    have := List.length_pos_iff.2 this
    symm
    simpa using this
  | false =>
    have : ofN G s = [] := by
      rw [List.eq_nil_iff_forall_not_mem]
      intro i hi
      obtain ⟨h1, h2⟩ := mem_ofN.1 hi
      have := known_non hk h1
      rw [h2, hn] at this
      cases this
    simp [this]

/-- How many of the first m rules the first k symbols have together. -/
def sumTo (R : List (Int × List Int)) (m : Nat) : Nat → Nat
  | 0 => 0
  | k + 1 => sumTo R m k + (ofTo R (k : Int) m).length

theorem sum_step (R : List (Int × List Int)) (k : Nat) : ∀ m : Nat, ((List.range m).filter fun i => decide (0 ≤ leftOf R i ∧ leftOf R i < ((k + 1 : Nat) : Int))).length =
    ((List.range m).filter fun i => decide (0 ≤ leftOf R i ∧ leftOf R i < (k : Int))).length + (ofTo R (k : Int) m).length
  | 0 => rfl
  | m + 1 => by
    have ih := sum_step R k m
    by_cases h : leftOf R m = (k : Int)
    · rw [ofTo_hit h]
      simp only [List.range_succ, List.filter_append, List.length_append, List.filter_cons, List.filter_nil, ih]
      rw [if_pos (by rw [decide_eq_true_iff]; omega), if_neg (by rw [decide_eq_true_iff]; omega)]
      simp
      omega
    · rw [ofTo_miss h]
      simp only [List.range_succ, List.filter_append, List.length_append, List.filter_cons, List.filter_nil, ih]
      by_cases h2 : 0 ≤ leftOf R m ∧ leftOf R m < (k : Int)
      · rw [if_pos (by rw [decide_eq_true_iff]; omega), if_pos (by rw [decide_eq_true_iff]; omega)]
        simp
        omega
      · rw [if_neg (by rw [decide_eq_true_iff]; omega), if_neg (by rw [decide_eq_true_iff]; omega)]
        simp

theorem sum_count (R : List (Int × List Int)) (m : Nat) : ∀ k : Nat, sumTo R m k = ((List.range m).filter fun i => decide (0 ≤ leftOf R i ∧ leftOf R i < (k : Int))).length
  | 0 => by
    symm
    rw [sumTo, List.length_eq_zero_iff, List.filter_eq_nil_iff]
    intro i _
    rw [decide_eq_true_iff]
    omega
  | k + 1 => by rw [sumTo, sum_count R m k, sum_step R k m]

theorem sum_all {G : Gram} (h : knownB G = true) : sumTo G.rules G.rules.length (top G + 1) = G.rules.length := by
  rw [sum_count, List.filter_eq_self.2 (fun i hi => ?_)]
  · simp
  · have := nonB_iff.1 (known_non h (List.mem_range.1 hi))
    rw [decide_eq_true_iff]
    unfold top
    omega

end Go.Proofs.Ytoohnkffclkmhaa.Gr
