/-
  What a state's transitions are, read off the states that come back; which are seen so far. No program in it.
-/
import Derived.Test.YtjjmoonajijnmaaMAutoF
import Derived.Test.YtjjmoonajijnmaaMAutoP
namespace Go.Proofs.Ytjjmoonajijnmaa.Au
open Go.Proofs.Ytjjmoonajijnmaa.Gr (Gram checkN check_ok manyB top)
open Go.Proofs.Ytjjmoonajijnmaa.Im
set_option linter.unusedVariables false

theorem top_small {G : Gram} (hv : checkN G = 0) : top G ≤ 240 := by
  have h := (check_ok hv).1
  unfold manyB at h
  simp only [Bool.or_eq_false_iff, decide_eq_false_iff_not] at h
  unfold top
  omega

/-- The states of an automaton. -/
structure Ent (G : Gram) (X : List Sta) : Prop where
  hv : checkN G = 0
  small : Small X
  len : X.length ≤ 2000
  right : ∀ s ∈ X, Srt s.1 ∧ ∀ x ∈ s.1, rightB G x = true
  to : ∀ k (h : k < X.length) j (h' : j < X[k].2.length), ∃ n : Nat, X[k].2[j].2 = (n : Int) ∧ ∃ hn : n < X.length, ∀ x ∈ X[n].1, entersB G X[k].2[j].1 x
  early : ∀ t, 0 < t → t < X.length → ∃ k, ∃ h : k < X.length, ∃ j, ∃ h' : j < X[k].2.length, k < t ∧ X[k].2[j].2 = (t : Int)
  some : ∀ t (h : t < X.length), X[t].1 ≠ []
  spells : ∀ i (hi : i < X.length) (r : Int), Gr.ruleB G r = true → (Gr.ruleR G r).2.length ≠ 0 → Clo G X[i].1 (r, 0) → ∃ j : Nat, ∃ hj : j < X.length, walkS X (i : Int) (Gr.ruleR G r).2 = (j : Int) ∧ (r, ((Gr.ruleR G r).2.length : Int)) ∈ X[j].1

theorem ent_of {G : Gram} {X : List Sta} (h : Built G 0 X) : Ent G X := by
  generalize he : (0 : Int) = e at h
  cases h with
  | bad hb => exact absurd he.symm hb
  | many _ _ _ => cases he
  | all hv hs hf =>
    rename_i n
    have D := hs.done hf
    generalize runs G (top G) n = q at *
    have hl := states_len D.all
    have at1 : ∀ i (h : i < (states q).length), (states q)[i] = (stateK q.1 i, q.2.getD i []) := fun i h => by
      have := states_at D.all (i := i) (by omega)
      rw [List.getElem?_eq_getElem h, Option.some.injEq] at this
      exact this
    have good : ∀ s ∈ states q, s.1 ∈ q.1 := fun s hs => by
      obtain ⟨i, hi, rfl⟩ := List.mem_iff_getElem.1 hs
      rw [at1 i hi]
      exact stateK_mem (by omega)
    have hr : ∀ s ∈ states q, Srt s.1 ∧ ∀ x ∈ s.1, rightB G x = true := fun s hs => (D.ok.good _ (good s hs)).2
    refine ⟨hv, ⟨by omega, fun s hs => ?_, fun s hs => ?_⟩, by omega, hr, fun k h j h' => ?_, fun t h0 ht => ?_, fun t ht => ?_, fun i hi r hr h0 hx => ?_⟩
    · have := Nat.le_trans (srt_len (hr s hs).1 (hr s hs).2) (all_small hv)
      omega
    · obtain ⟨i, hi, rfl⟩ := List.mem_iff_getElem.1 hs
      rw [at1 i hi]
      have hi2 : i < q.2.length := by rw [D.all]; omega
      rw [← out_all D.ok hi2]
      have := out_len q.2 (i : Int) (top G + 1)
      have := top_small hv
      dsimp only
      omega
    · have hk : k < q.1.length := by omega
      have e2 : (states q)[k].2 = q.2.getD k [] := by rw [at1 k h]
      have hm : (states q)[k].2[j] ∈ q.2.getD k [] := by
        rw [← e2]
        exact List.getElem_mem h'
      obtain ⟨n, h1, h2, h3⟩ := D.enters hk (s := (states q)[k].2[j].1) (t := (states q)[k].2[j].2) hm
      refine ⟨n, h1, by omega, ?_⟩
      rw [at1 n (by omega)]
      exact h3
    · obtain ⟨k, s, h1, h2⟩ := D.early h0 (by omega)
      have hk : k < (states q).length := by omega
      have e2 : (states q)[k].2 = q.2.getD k [] := by rw [at1 k hk]
      rw [← e2] at h2
      obtain ⟨j, hj, e⟩ := List.mem_iff_getElem.1 h2
      exact ⟨k, hk, j, hj, h1, by rw [e]⟩
    · rw [at1 t ht]
      exact D.some (by omega)
    · rw [at1 i hi] at hx
      obtain ⟨j, h1, h2, h3⟩ := D.spells hv (i := i) (by omega) hr h0 (((is_cl _ _).2 _).2 hx)
      refine ⟨j, by omega, ?_, by rw [at1 j (by omega)]; exact h3⟩
      rw [← hl, walkP_s (fun i h => by rw [at1 i h])] at h2
      exact h2
theorem none_of {G : Gram} {X : List Sta} {e : Int} (h : Built G e X) (he : e ≠ 0) : X = [] := by
  cases h with
  | bad _ => rfl
  | many _ _ _ => rfl
  | all _ _ _ => exact absurd rfl he

/-! ### Seen so far -/

/-- State i is 0, or was met as a target of a state ahead of it, among those read so far. -/
def Seen (X : List Sta) (i k j : Nat) : Prop := i = 0 ∨ ∃ k', ∃ h : k' < X.length, ∃ j', ∃ h' : j' < X[k'].2.length, (k' < k ∨ (k' = k ∧ j' < j)) ∧ k' < i ∧ X[k'].2[j'].2 = (i : Int)
theorem seen_zero {X : List Sta} {i : Nat} (h : Seen X i 0 0) : i = 0 := by
  rcases h with h | ⟨k', _, j', _, h, _⟩
  · exact h
  · omega
theorem seen_miss {X : List Sta} {i k j : Nat} (hk : k < X.length) (hj : j < X[k].2.length) (e : X[k].2[j].2 ≠ (i : Int)) (h : Seen X i k (j + 1)) : Seen X i k j := by
  rcases h with h | ⟨k', h1, j', h2, h3, h4, h5⟩
  · exact .inl h
  · refine .inr ⟨k', h1, j', h2, ?_, h4, h5⟩
    by_cases q : k' = k ∧ j' = j
    · obtain ⟨rfl, rfl⟩ := q
      exact absurd h5 e
    · omega
theorem seen_hit {X : List Sta} {i k j : Nat} (h : Seen X i k (j + 1)) : Seen X i k j ∨ k < i := by
  rcases h with h | ⟨k', h1, j', h2, h3, h4, h5⟩
  · exact .inl (.inl h)
  · by_cases q : k' = k
    · exact .inr (q ▸ h4)
    · exact .inl (.inr ⟨k', h1, j', h2, by omega, h4, h5⟩)
theorem seen_row {X : List Sta} {i k : Nat} (hk : k < X.length) (h : Seen X i (k + 1) 0) : Seen X i k X[k].2.length := by
  rcases h with h | ⟨k', h1, j', h2, h3, h4, h5⟩
  · exact .inl h
  · refine .inr ⟨k', h1, j', h2, ?_, h4, h5⟩
    by_cases q : k' = k
    · subst q
      exact .inr ⟨rfl, h2⟩
    · omega
theorem seen_all {G : Gram} {X : List Sta} (e : Ent G X) {i : Nat} (hi : i < X.length) : Seen X i X.length 0 := by
  by_cases h0 : i = 0
  · exact .inl h0
  · obtain ⟨k, h, j, h', h1, h2⟩ := e.early i (by omega) hi
    exact .inr ⟨k, h, j, h', .inl h, h1, h2⟩

end Go.Proofs.Ytjjmoonajijnmaa.Au
