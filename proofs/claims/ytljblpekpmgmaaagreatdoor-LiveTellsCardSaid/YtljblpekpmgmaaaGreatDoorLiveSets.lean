/-
  Plain facts on sets of symbols as they are filled: what is productive by a set, when it is full, how many numbers are still missing, its numbers as a list.
-/
import Derived.Test.YtljblpekpmgmaaaGreatDoorLiveDer
namespace Go.Proofs.YtljblpekpmgmaaaGreatDoor.Lv
open Go.Proofs.YtljblpekpmgmaaaGreatDoor.Gr
open Go.Proofs.YtljblpekpmgmaaaGreatDoor.Bt (has has_nat put els els_at Upto)
set_option linter.unusedVariables false

/-- A grammar whose sizes are within bounds and whose numbers are symbols. -/
structure Sml (G : Gram) : Prop where
  t : G.terms.length ≤ 120
  n : G.nons.length ≤ 120
  r : G.rules.length ≤ 300
  known : knownB G = true
  w : ∀ r ∈ G.rules, r.2.length ≤ 8
theorem sml_of {G : Gram} (h : checkN G = 0) : Sml G := by
  obtain ⟨h1, _, _, h4, _, _⟩ := check_ok h
  unfold manyB at h1
  simp only [Bool.or_eq_false_iff, decide_eq_false_iff_not, List.any_eq_false, decide_eq_true_eq] at h1
  exact ⟨by omega, by omega, by omega, h4, fun r hr => by have := h1.2 r hr; omega⟩
theorem sml_kept {G : Gram} (h : Sml G) : Sml (keptG G) :=
  ⟨h.t, h.n, Nat.le_trans (List.length_filter_le _ _) h.r, kept_known h.known, fun r hr => h.w r (mem_keep.1 hr).1⟩

/-! ### How many are missing -/

def miss : Nat → (Nat → Bool) → Nat
  | 0, _ => 0
  | n + 1, B => miss n B + if B n = true then 0 else 1
theorem miss_le (n : Nat) (B : Nat → Bool) : miss n B ≤ n := by
  induction n with
  | zero => exact Nat.le_refl _
  | succ n ih => unfold miss; split <;> omega
theorem miss_same {n : Nat} {B C : Nat → Bool} (h : ∀ i, i < n → B i = C i) : miss n B = miss n C := by
  induction n with
  | zero => rfl
  | succ n ih => unfold miss; rw [ih fun i hi => h i (by omega), h n (by omega)]
theorem put_at (B : Nat → Bool) (i : Nat) : put B i i = true := by simp [put]
theorem put_ne {B : Nat → Bool} {i j : Nat} (h : j ≠ i) : put B i j = B j := by simp [put, h]
theorem miss_put {n i : Nat} {B : Nat → Bool} (hi : i < n) (hb : B i = false) : miss n (put B i) < miss n B := by
  induction n with
  | zero => omega
  | succ n ih =>
    unfold miss
    by_cases e : i = n
    · subst e
      rw [put_at, hb, miss_same (B := put B i) (C := B) fun j hj => put_ne (by omega)]
      simp
    · have := ih (by omega)
      rw [put_ne (show n ≠ i from fun h => e h.symm)]
      omega

/-! ### Productive by a set -/

def Sound (Q : Int → Prop) (B : Nat → Bool) : Prop := ∀ s : Int, has B s = true → Q s
def Full (Q : Int → Prop) (B : Nat → Bool) : Prop := ∀ s : Int, has B s = true ↔ Q s
theorem has_int {B : Nat → Bool} {s : Int} : has B s = true ↔ ∃ j : Nat, s = (j : Int) ∧ B j = true := by
  unfold has
  rw [Bool.and_eq_true, decide_eq_true_eq]
  constructor
  · rintro ⟨h1, h2⟩
    exact ⟨s.toNat, by omega, h2⟩
  · rintro ⟨j, rfl, h⟩
    exact ⟨by omega, by simpa using h⟩
theorem sound_empty (Q : Int → Prop) : Sound Q (fun _ => false) := fun s h => by
  obtain ⟨_, _, h⟩ := has_int.1 h
  cases h
theorem has_put {B : Nat → Bool} {i : Nat} {s : Int} : has (put B i) s = true ↔ has B s = true ∨ s = (i : Int) := by
  rw [has_int, has_int]
  constructor
  · rintro ⟨j, rfl, h⟩
    by_cases e : j = i
    · exact .inr (by rw [e])
    · rw [put_ne e] at h
      exact .inl ⟨j, rfl, h⟩
  · rintro (⟨j, rfl, h⟩ | rfl)
    · exact ⟨j, rfl, by unfold put; rw [h]; rfl⟩
    · exact ⟨i, rfl, put_at B i⟩
theorem sound_put {Q : Int → Prop} {B : Nat → Bool} {i : Nat} (h : Sound Q B) (hq : Q (i : Int)) : Sound Q (put B i) := fun s hs => by
  rcases has_put.1 hs with h1 | rfl
  · exact h s h1
  · exact hq

theorem der_iff {G : Gram} {B : Nat → Bool} {s : Int} : derB G B s = true ↔ ∃ r ∈ G.rules, r.1 = s ∧ ∀ x ∈ r.2, nonB G x = true → has B x = true := by
  unfold derB
  rw [List.any_eq_true]
  constructor
  · rintro ⟨x, hx, hg⟩
    unfold ofL ofI at hx
    obtain ⟨j, hj, rfl⟩ := List.mem_map.1 hx
    obtain ⟨h1, h2⟩ := mem_ofTo.1 hj
    refine ⟨G.rules[j], List.getElem_mem h1, by rw [← leftOf_get h1]; exact h2, fun y hy hn => ?_⟩
    unfold goodB at hg
    rw [rightOf_get h1, Bool.not_eq_true', List.any_eq_false] at hg
    have := hg y hy
    simpa [deadB, hn] using this
  · rintro ⟨r, hr, rfl, h⟩
    obtain ⟨j, hj, e⟩ := List.getElem_of_mem hr
    subst e
    refine ⟨(j : Int), ?_, ?_⟩
    · unfold ofL ofI
      exact List.mem_map.2 ⟨j, mem_ofTo.2 ⟨hj, leftOf_get hj⟩, rfl⟩
    · unfold goodB
      rw [rightOf_get hj, Bool.not_eq_true', List.any_eq_false]
      intro y hy
      cases hn : nonB G y with
      | false => simp [deadB, hn]
      | true => simp [deadB, hn, h y hy hn]
theorem der_sound {G : Gram} {B : Nat → Bool} {s : Int} (h : Sound (Prod G) B) (hd : derB G B s = true) : Prod G s := by
  obtain ⟨r, hr, rfl, h1⟩ := der_iff.1 hd
  exact .mk r hr fun x hx hn => h x (h1 x hx hn)
/-- All that is productive by the set is in it, up to the k-th nonterminal. -/
def DoneTo (G : Gram) (B : Nat → Bool) (k : Nat) : Prop := ∀ j : Nat, j < k → derB G B ((G.terms.length : Int) + 1 + j) = true → has B ((G.terms.length : Int) + 1 + j) = true
theorem done_full {G : Gram} {B : Nat → Bool} (hk : knownB G = true) (h : Sound (Prod G) B) (hd : DoneTo G B G.nons.length) : Full (Prod G) B := fun s =>
  ⟨h s, fun hp => prod_closed (P := fun s => has B s = true) (fun r hr ih => by
    have hn := nonB_iff.1 (rule_known hk hr).1
    have e : r.1 = (G.terms.length : Int) + 1 + ((r.1 - G.terms.length - 1).toNat : Int) := by omega
    rw [e]
    refine hd _ (by omega) ?_
    rw [← e]
    exact der_iff.2 ⟨r, hr, rfl, ih⟩) hp⟩
theorem done_zero (G : Gram) (B : Nat → Bool) : DoneTo G B 0 := fun _ h => absurd h (by omega)
theorem done_step {G : Gram} {B : Nat → Bool} {k : Nat} (h : DoneTo G B k) (hh : derB G B ((G.terms.length : Int) + 1 + k) = true → has B ((G.terms.length : Int) + 1 + k) = true) : DoneTo G B (k + 1) := fun j hj => by
  by_cases e : j = k
  · subst e
    exact hh
  · exact h j (by omega)

/-! ### A set's numbers as a list -/

theorem els_sel {B : Nat → Bool} {n : Nat} {Q : Int → Prop} (hB : Upto B (n + 1)) (h : Full Q B) (h0 : ¬ Q 0) : (els B).map (fun i : Nat => (i : Int)) = sel Q (up 0 n) := by
  have e0 : B 0 = false := by
    cases hb : B 0 with
    | false => rfl
    | true => exact absurd ((h 0).1 (has_int.2 ⟨0, rfl, hb⟩)) h0
  rw [els_at hB, List.range_succ_eq_map, List.filter_cons, if_neg (by rw [e0]; decide)]
  unfold sel up
  rw [List.filter_map, List.filter_map, List.map_map]
  have e : (List.range n).filter (B ∘ Nat.succ) = (List.range n).filter ((fun s => @decide (Q s) (Classical.propDecidable _)) ∘ fun i : Nat => ((0 + i : Nat) : Int) + 1) := by
    refine List.filter_congr fun i _ => ?_
    rw [Bool.eq_iff_iff, Function.comp, Function.comp, @decide_eq_true_iff _ (Classical.propDecidable _), ← h]
    have e2 : ((0 + i : Nat) : Int) + 1 = ((i + 1 : Nat) : Int) := by omega
    rw [e2, has_nat]
  rw [e]
  refine List.map_congr_left fun i _ => ?_
  simp

end Go.Proofs.YtljblpekpmgmaaaGreatDoor.Lv
