/-
  The plain answers' rounds: a list of symbols grows till a round adds none; then it holds all that is productive, or reached. No program in it.
-/
import Derived.Test.YtljblpekpmgmaaaGreatDoorLiveTrim
namespace Go.Proofs.YtljblpekpmgmaaaGreatDoor.Lv
open Go.Proofs.YtljblpekpmgmaaaGreatDoor.Gr (Gram nonB termB top names nameS checkN)
set_option linter.unusedVariables false

theorem nodup_len {l m : List Int} (hn : l.Nodup) (h : ∀ x ∈ l, x ∈ m) : l.length ≤ m.length := by
  induction l generalizing m with
  | nil => exact Nat.zero_le _
  | cons a r ih =>
    rw [List.nodup_cons] at hn
    have ha := h a (List.mem_cons_self ..)
    have h2 := ih (m := m.erase a) hn.2 fun x hx => (List.mem_erase_of_ne (fun e => hn.1 (by rw [← e]; exact hx))).2 (h x (List.mem_cons_of_mem _ hx))
    have h3 := List.length_erase_of_mem ha
    have h4 := List.length_pos_of_mem ha
    rw [List.length_cons]
    omega

/-- A list with an element more, if it is new. -/
def add (l : List Int) (x : Int) : List Int := if x ∈ l then l else l ++ [x]
theorem add_in {l : List Int} {x : Int} (h : x ∈ l) : add l x = l := by unfold add; rw [if_pos h]
theorem add_new {l : List Int} {x : Int} (h : x ∉ l) : add l x = l ++ [x] := by unfold add; rw [if_neg h]
theorem mem_add {l : List Int} {x y : Int} : y ∈ add l x ↔ y ∈ l ∨ y = x := by
  unfold add
  split
  · constructor
    · exact .inl
    · rintro (h | rfl)
      · exact h
      · assumption
  · rw [List.mem_append, List.mem_singleton]
theorem add_nodup {l : List Int} {x : Int} (h : l.Nodup) : (add l x).Nodup := by
  unfold add
  split
  · exact h
  · rename_i hx
    rw [List.nodup_append]
    exact ⟨h, by simp, fun a ha b hb e => by rw [List.mem_singleton] at hb; subst hb; subst e; exact hx ha⟩
theorem add_len (l : List Int) (x : Int) : l.length ≤ (add l x).length ∧ ((add l x).length = l.length → x ∈ l) := by
  unfold add
  split
  · exact ⟨Nat.le_refl _, fun _ => by assumption⟩
  · rw [List.length_append, List.length_singleton]
    exact ⟨by omega, fun e => by omega⟩

/-! ### Productive -/

def fineB (G : Gram) (r : Int × List Int) (l : List Int) : Bool := r.2.all fun x => !nonB G x || decide (x ∈ l)
theorem fineB_iff {G : Gram} {r : Int × List Int} {l : List Int} : fineB G r l = true ↔ ∀ x ∈ r.2, nonB G x = true → x ∈ l := by
  unfold fineB
  rw [List.all_eq_true]
  constructor
  · intro h x hx hn
    have := h x hx
    rw [hn] at this
    simpa using this
  · intro h x hx
    cases hn : nonB G x with
    | false => rfl
    | true => simpa using h x hx hn

/-- One rule. -/
def stepP (G : Gram) (l : List Int) (r : Int × List Int) : List Int := if fineB G r l = true then add l r.1 else l
/-- The first k rules of a round. -/
def roundP (G : Gram) (l : List Int) (k : Nat) : List Int := (G.rules.take k).foldl (stepP G) l
theorem roundP_zero (G : Gram) (l : List Int) : roundP G l 0 = l := rfl
theorem roundP_next {G : Gram} {l : List Int} {k : Nat} (h : k < G.rules.length) : roundP G l (k + 1) = stepP G (roundP G l k) G.rules[k] := by
  unfold roundP
  rw [List.take_succ_eq_append_getElem h, List.foldl_append]
  rfl
theorem stepP_add {G : Gram} {l : List Int} {r : Int × List Int} (h : r.1 ∉ l) (hf : fineB G r l = true) : stepP G l r = l ++ [r.1] := by
  unfold stepP
  rw [if_pos hf, add_new h]
theorem stepP_in {G : Gram} {l : List Int} {r : Int × List Int} (h : r.1 ∈ l) : stepP G l r = l := by
  unfold stepP
  split
  · exact add_in h
  · rfl
theorem stepP_not {G : Gram} {l : List Int} {r : Int × List Int} (h : fineB G r l = false) : stepP G l r = l := by
  unfold stepP
  rw [h]
  rfl

/-- Productive nonterminals, each once. -/
structure OkP (G : Gram) (l : List Int) : Prop where
  once : l.Nodup
  are : ∀ x ∈ l, Prod G x
theorem OkP.nil (G : Gram) : OkP G [] := ⟨List.nodup_nil, fun x hx => by cases hx⟩
theorem OkP.step {G : Gram} {l : List Int} (h : OkP G l) {r : Int × List Int} (hr : r ∈ G.rules) : OkP G (stepP G l r) := by
  unfold stepP
  split
  · rename_i hf
    refine ⟨add_nodup h.once, fun x hx => ?_⟩
    rcases mem_add.1 hx with hx | rfl
    · exact h.are x hx
    · exact .mk r hr fun y hy hn => h.are y (fineB_iff.1 hf y hy hn)
  · exact h
theorem OkP.round {G : Gram} {l : List Int} (h : OkP G l) : ∀ k, k ≤ G.rules.length → OkP G (roundP G l k)
  | 0, _ => h
  | k + 1, hk => by
    rw [roundP_next hk]
    exact (OkP.round h k (by omega)).step (List.getElem_mem hk)
theorem OkP.len {G : Gram} {l : List Int} (h : OkP G l) (hk : Gr.knownB G = true) : l.length ≤ G.nons.length := by
  have := nodup_len (m := up G.terms.length G.nons.length) h.once fun x hx => by
    have := Gr.nonB_iff.1 (prod_non hk (h.are x hx))
    exact mem_up.2 (by omega)
  rwa [up_length] at this
theorem stepP_len (G : Gram) (l : List Int) (r : Int × List Int) : l.length ≤ (stepP G l r).length ∧ ((stepP G l r).length = l.length → stepP G l r = l ∧ (fineB G r l = true → r.1 ∈ l)) := by
  unfold stepP
  split
  · obtain ⟨h1, h2⟩ := add_len l r.1
    exact ⟨h1, fun e => ⟨add_in (h2 e), fun _ => h2 e⟩⟩
  · rename_i hf
    exact ⟨Nat.le_refl _, fun _ => ⟨rfl, fun hh => absurd hh hf⟩⟩
/-- A round that adds none. -/
theorem roundP_len (G : Gram) (l : List Int) : ∀ k, k ≤ G.rules.length → l.length ≤ (roundP G l k).length ∧ ((roundP G l k).length = l.length → roundP G l k = l ∧ ∀ j (h : j < G.rules.length), j < k → fineB G G.rules[j] l = true → G.rules[j].1 ∈ l)
  | 0, _ => ⟨Nat.le_refl _, fun _ => ⟨rfl, fun j _ h => absurd h (by omega)⟩⟩
  | k + 1, hk => by
    obtain ⟨a1, a2⟩ := roundP_len G l k (by omega)
    rw [roundP_next hk]
    obtain ⟨b1, b2⟩ := stepP_len G (roundP G l k) G.rules[k]
    refine ⟨by omega, fun e => ?_⟩
    obtain ⟨c1, c2⟩ := a2 (by omega)
    obtain ⟨d1, d2⟩ := b2 (by omega)
    rw [c1] at d1 d2
    rw [c1]
    refine ⟨d1, fun j hj hlt hf => ?_⟩
    by_cases ej : j = k
    · subst ej
      exact d2 hf
    · exact c2 j hj (by omega) hf
theorem OkP.all {G : Gram} {l : List Int} (h : OkP G l) (he : (roundP G l G.rules.length).length = l.length) (x : Int) : x ∈ l ↔ Prod G x := by
  refine ⟨h.are x, fun hx => ?_⟩
  obtain ⟨_, h2⟩ := roundP_len G l G.rules.length (Nat.le_refl _)
  obtain ⟨_, h3⟩ := h2 he
  refine prod_closed (P := fun x => x ∈ l) (fun r hr ih => ?_) hx
  obtain ⟨j, hj, e⟩ := List.getElem_of_mem hr
  subst e
  exact h3 j hj hj (fineB_iff.2 ih)

/-! ### Reached -/

/-- The first k symbols of a right side. -/
def rightR (l : List Int) (q : List Int) (k : Nat) : List Int := (q.take k).foldl add l
def stepR (l : List Int) (r : Int × List Int) : List Int := if r.1 ∈ l then r.2.foldl add l else l
def roundR (G : Gram) (l : List Int) (k : Nat) : List Int := (G.rules.take k).foldl stepR l
theorem rightR_zero (l q : List Int) : rightR l q 0 = l := rfl
theorem rightR_next {l q : List Int} {k : Nat} (h : k < q.length) : rightR l q (k + 1) = add (rightR l q k) q[k] := by
  unfold rightR
  rw [List.take_succ_eq_append_getElem h, List.foldl_append]
  rfl
theorem rightR_all (l q : List Int) : rightR l q q.length = q.foldl add l := by
  unfold rightR
  rw [List.take_length]
theorem roundR_zero (G : Gram) (l : List Int) : roundR G l 0 = l := rfl
theorem roundR_next {G : Gram} {l : List Int} {k : Nat} (h : k < G.rules.length) : roundR G l (k + 1) = stepR (roundR G l k) G.rules[k] := by
  unfold roundR
  rw [List.take_succ_eq_append_getElem h, List.foldl_append]
  rfl
theorem mem_rightR {l q : List Int} {y : Int} : ∀ {k : Nat}, k ≤ q.length → y ∈ l → y ∈ rightR l q k
  | 0, _, h => h
  | k + 1, hk, h => by
    rw [rightR_next hk]
    exact mem_add.2 (.inl (mem_rightR (k := k) (by omega) h))

structure OkR (G : Gram) (l : List Int) : Prop where
  once : l.Nodup
  start : G.start ∈ l
  are : ∀ x ∈ l, Rch G x
theorem OkR.first (G : Gram) : OkR G [G.start] := ⟨by simp, by simp, fun x hx => by rw [List.mem_singleton] at hx; subst hx; exact .start⟩
theorem OkR.add {G : Gram} {l : List Int} (h : OkR G l) {x : Int} (hx : Rch G x) : OkR G (add l x) :=
  ⟨add_nodup h.once, mem_add.2 (.inl h.start), fun y hy => by
    rcases mem_add.1 hy with hy | rfl
    · exact h.are y hy
    · exact hx⟩
theorem OkR.right {G : Gram} {l : List Int} (h : OkR G l) {r : Int × List Int} (hr : r ∈ G.rules) (hl : r.1 ∈ l) : ∀ k, k ≤ r.2.length → OkR G (rightR l r.2 k)
  | 0, _ => h
  | k + 1, hk => by
    rw [rightR_next hk]
    exact (OkR.right h hr hl k (by omega)).add (.step r hr (h.are _ hl) _ (List.getElem_mem hk))
theorem OkR.step {G : Gram} {l : List Int} (h : OkR G l) {r : Int × List Int} (hr : r ∈ G.rules) : OkR G (stepR l r) := by
  unfold stepR
  split
  · rw [← rightR_all]
    exact h.right hr (by assumption) _ (Nat.le_refl _)
  · exact h
theorem OkR.round {G : Gram} {l : List Int} (h : OkR G l) : ∀ k, k ≤ G.rules.length → OkR G (roundR G l k)
  | 0, _ => h
  | k + 1, hk => by
    rw [roundR_next hk]
    exact (OkR.round h k (by omega)).step (List.getElem_mem hk)
theorem OkR.len {G : Gram} {l : List Int} (h : OkR G l) (hk : Gr.knownB G = true) : l.length ≤ top G := by
  have := nodup_len (m := up 0 (top G)) h.once fun x hx => by
    have := rch_in hk (h.are x hx)
    exact mem_up.2 (by omega)
  rwa [up_length] at this
theorem rightR_len (l q : List Int) : ∀ k, k ≤ q.length → l.length ≤ (rightR l q k).length ∧ ((rightR l q k).length = l.length → rightR l q k = l ∧ ∀ j (h : j < q.length), j < k → q[j] ∈ l)
  | 0, _ => ⟨Nat.le_refl _, fun _ => ⟨rfl, fun j _ h => absurd h (by omega)⟩⟩
  | k + 1, hk => by
    obtain ⟨a1, a2⟩ := rightR_len l q k (by omega)
    rw [rightR_next hk]
    obtain ⟨b1, b2⟩ := add_len (rightR l q k) q[k]
    refine ⟨by omega, fun e => ?_⟩
    obtain ⟨c1, c2⟩ := a2 (by omega)
    have d := b2 (by omega)
    rw [add_in d]
    rw [c1] at d
    refine ⟨c1, fun j hj hlt => ?_⟩
    by_cases ej : j = k
    · subst ej
      exact d
    · exact c2 j hj (by omega)
theorem stepR_len (l : List Int) (r : Int × List Int) : l.length ≤ (stepR l r).length ∧ ((stepR l r).length = l.length → stepR l r = l ∧ (r.1 ∈ l → ∀ x ∈ r.2, x ∈ l)) := by
  unfold stepR
  split
  · obtain ⟨h1, h2⟩ := rightR_len l r.2 r.2.length (Nat.le_refl _)
    rw [rightR_all] at h1 h2
    refine ⟨h1, fun e => ⟨(h2 e).1, fun _ x hx => ?_⟩⟩
    obtain ⟨j, hj, ej⟩ := List.getElem_of_mem hx
    subst ej
    exact (h2 e).2 j hj hj
  · rename_i hf
    exact ⟨Nat.le_refl _, fun _ => ⟨rfl, fun hh => absurd hh hf⟩⟩
theorem roundR_len (G : Gram) (l : List Int) : ∀ k, k ≤ G.rules.length → l.length ≤ (roundR G l k).length ∧ ((roundR G l k).length = l.length → roundR G l k = l ∧ ∀ j (h : j < G.rules.length), j < k → G.rules[j].1 ∈ l → ∀ x ∈ G.rules[j].2, x ∈ l)
  | 0, _ => ⟨Nat.le_refl _, fun _ => ⟨rfl, fun j _ h => absurd h (by omega)⟩⟩
  | k + 1, hk => by
    obtain ⟨a1, a2⟩ := roundR_len G l k (by omega)
    rw [roundR_next hk]
    obtain ⟨b1, b2⟩ := stepR_len (roundR G l k) G.rules[k]
    refine ⟨by omega, fun e => ?_⟩
    obtain ⟨c1, c2⟩ := a2 (by omega)
    obtain ⟨d1, d2⟩ := b2 (by omega)
    rw [c1] at d1 d2
    rw [c1]
    refine ⟨d1, fun j hj hlt hf => ?_⟩
    by_cases ej : j = k
    · subst ej
      exact d2 hf
    · exact c2 j hj (by omega) hf
theorem OkR.all {G : Gram} {l : List Int} (h : OkR G l) (he : (roundR G l G.rules.length).length = l.length) (x : Int) : x ∈ l ↔ Rch G x := by
  refine ⟨h.are x, fun hx => ?_⟩
  obtain ⟨_, h2⟩ := roundR_len G l G.rules.length (Nat.le_refl _)
  obtain ⟨_, h3⟩ := h2 he
  refine rch_closed (P := fun x => x ∈ l) h.start (fun r hr hl => ?_) hx
  obtain ⟨j, hj, e⟩ := List.getElem_of_mem hr
  subst e
  exact h3 j hj hj hl

/-- What is sorted. -/
theorem sort_sel {l : List Int} {P : Int → Prop} (h : ∀ x, x ∈ l ↔ P x) (m : List Int) : (m.filter fun s => decide (s ∈ l)) = sel P m := by
  unfold sel
  refine List.filter_congr fun x _ => ?_
  rw [Bool.eq_iff_iff, decide_eq_true_iff, @decide_eq_true_iff _ (Classical.propDecidable _)]
  exact h x

end Go.Proofs.YtljblpekpmgmaaaGreatDoor.Lv
