/-
  Plain facts on least words and what symbols begin with: the least word is empty just if the symbol can be empty, and begins with what the symbol begins with. No program in it.
-/
import Derived.Test.YtoipinnfmjaaaaaDoorFirstPlain
import Derived.Test.YtoipinnfmjaaaaaDoorLeastInv
namespace Go.Proofs.YtoipinnfmjaaaaaDoor.Fi
open Go.Proofs.YtoipinnfmjaaaaaDoor.Gr (Gram nonB termB top names nameS checkN termB_iff nonB_iff knownB)
open Go.Proofs.YtoipinnfmjaaaaaDoor.Le (Ws Ans isA wordA OkS Cls base base_pos len_of_num dig_nil isA_of)
set_option linter.unusedVariables false

/-- The symbols of right sides are symbols. -/
theorem right_pos {G : Gram} (h : knownB G = true) {r : Int × List Int} (hr : r ∈ G.rules) {y : Int} (hy : y ∈ r.2) : 1 ≤ y ∧ y ≤ (top G : Int) := by
  unfold knownB at h
  simp only [Bool.and_eq_true, List.all_eq_true] at h
  have := (h.2 r hr).2 y hy
  simpa using this
theorem ws_nil {G : Gram} (hk : knownB G = true) {l w : List Int} (h : Ws G l w) : w = [] → ∀ y ∈ l, y = 0 ∨ Can G y := by
  induction h with
  | nil => exact fun _ y hy => by cases hy
  | zero _ ih =>
    intro e y hy
    rcases List.mem_cons.1 hy with h | h
    · exact .inl h
    · exact ih e y h
  | term _ _ _ => intro e; cases e
  | @rule r l v w hr h1 h2 ih1 ih2 =>
    intro e y hy
    obtain ⟨e1, e2⟩ := List.append_eq_nil_iff.1 e
    rcases List.mem_cons.1 hy with h | h
    · subst h
      refine .inr (.mk r hr fun z hz => ?_)
      rcases ih1 e1 z hz with h0 | h0
      · have := (right_pos hk hr hz).1
        omega
      · exact h0
    · exact ih2 e2 y h
theorem ws_head {G : Gram} (hk : knownB G = true) {l w : List Int} (h : Ws G l w) : (∀ y ∈ l, y ≠ 0) → ∀ t w', w = t :: w' → LineP G l t := by
  induction h with
  | nil => intro _ t w' e; cases e
  | zero _ _ => intro h0; exact absurd rfl (h0 0 (List.mem_cons_self ..))
  | @term s l w ht _ _ =>
    intro _ t w' e
    injection e with e1 e2
    subst e1
    exact lineP_cons.2 (.inl (.leaf (.inr ht)))
  | @rule r l v w hr h1 h2 ih1 ih2 =>
    intro h0 t w' e
    cases v with
    | nil =>
      have hc := ws_nil hk (.rule hr h1 .nil) rfl r.1 (List.mem_cons_self ..)
      rcases hc with hc | hc
      · exact absurd hc (h0 _ (List.mem_cons_self ..))
      · exact lineP_cons.2 (.inr ⟨hc, ih2 (fun y hy => h0 y (List.mem_cons_of_mem _ hy)) t w' e⟩)
    | cons a v =>
      injection e with e1 e2
      subst e1
      refine lineP_cons.2 (.inl (.line hr (ih1 (fun y hy e0 => ?_) a v rfl)))
      have := (right_pos hk hr hy).1
      omega
theorem can_ws {G : Gram} {x : Int} (h : Can G x) : Ws G [x] [] := by
  induction h with
  | mk r hr _ ih =>
    have : ∀ l : List Int, (∀ y ∈ l, Ws G [y] []) → Ws G l [] := by
      intro l
      induction l with
      | nil => exact fun _ => .nil
      | cons a l ihl =>
        intro h
        have := (h a (List.mem_cons_self ..)).cons (ihl fun y hy => h y (List.mem_cons_of_mem _ hy))
        exact this
    exact .one hr (this r.2 ih)
/-- The least word. -/
theorem word_empty {G : Gram} {M : Nat} {T : Int → Ans} (hk : knownB G = true) (ok : OkS G M T) (c : Cls G M T) {x : Int} (hx : x ≠ 0) : (isA (T x) = true ∧ wordA (T x) = []) ↔ Can G x := by
  constructor
  · rintro ⟨h1, h2⟩
    have e := isA_of h1
    rw [h2] at e
    have hw := ((ok x).1 [] e).1
    rcases ws_nil hk hw rfl x (List.mem_cons_self ..) with h | h
    · exact absurd h hx
    · exact h
  · intro h
    have hw := can_ws h
    obtain ⟨v, e, n⟩ := (c.one ok hw).2 (Nat.zero_le _)
    have hv := ((ok x).1 v e).1
    have hl := len_of_num (base_pos G) hv.dig (dig_nil _) n
    have : v = [] := List.eq_nil_of_length_eq_zero (by simpa using hl)
    subst this
    rw [e]
    exact ⟨rfl, rfl⟩
theorem word_begins {G : Gram} {M : Nat} {T : Int → Ans} (hk : knownB G = true) (ok : OkS G M T) {x t : Int} {w : List Int} (hx : x ≠ 0) (e : T x = .is (t :: w)) : Fst G x t := by
  have hw := ((ok x).1 _ e).1
  rcases lineP_cons.1 (ws_head hk hw (fun y hy => by rw [List.mem_singleton] at hy; subst hy; exact hx) t w rfl) with h | h
  · exact h
  · exact absurd h.2 lineP_nil

end Go.Proofs.YtoipinnfmjaaaaaDoor.Fi
