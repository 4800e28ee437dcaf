/-
  Plain facts on tables of words: what words a list of symbols has, a table that holds for each symbol none, a word that is too long, or a word; such a table, when it is sound and no rule betters it, tells the least word of each symbol, and there is only one such table; bettering ends. No program in it.
-/
import Derived.Test.YtoipinnfmjaaaaaGreatDoorLeastPlain
namespace Go.Proofs.YtoipinnfmjaaaaaGreatDoor.Le
open Go.Proofs.YtoipinnfmjaaaaaGreatDoor.Gr (Gram nonB termB top names nameS checkN termB_iff nonB_iff)
set_option linter.unusedVariables false

/-! ### The words of a list of symbols -/

inductive Ws (G : Gram) : List Int → List Int → Prop
  | nil : Ws G [] []
  | zero {l w} : Ws G l w → Ws G (0 :: l) w
  | term {s : Int} {l w} : termB G s = true → Ws G l w → Ws G (s :: l) (s :: w)
  | rule {r : Int × List Int} {l v w} : r ∈ G.rules → Ws G r.2 v → Ws G l w → Ws G (r.1 :: l) (v ++ w)

def base (G : Gram) : Nat := G.terms.length + 1
theorem base_pos (G : Gram) : 0 < base G := Nat.succ_pos _
theorem Ws.dig {G : Gram} {l w : List Int} (h : Ws G l w) : Dig (base G) w := by
  induction h with
  | nil => exact dig_nil _
  | zero _ ih => exact ih
  | term ht _ ih =>
    rw [termB_iff] at ht
    intro x hx
    rcases List.mem_cons.1 hx with h1 | h1
    · subst h1
      unfold base
      omega
    · exact ih x h1
  | rule _ _ _ ih1 ih2 => exact dig_append ih1 ih2
theorem Ws.append {G : Gram} {l k v w : List Int} (h : Ws G l v) (h' : Ws G k w) : Ws G (l ++ k) (v ++ w) := by
  induction h with
  | nil => exact h'
  | zero _ ih => exact .zero ih
  | term ht _ ih => exact .term ht ih
  | rule hr h1 _ _ ih => rw [List.append_assoc]; exact .rule hr h1 ih
theorem Ws.cons {G : Gram} {s : Int} {l v w : List Int} (h : Ws G [s] v) (h' : Ws G l w) : Ws G (s :: l) (v ++ w) := h.append h'
theorem Ws.one {G : Gram} {r : Int × List Int} {v : List Int} (hr : r ∈ G.rules) (h : Ws G r.2 v) : Ws G [r.1] v := by
  have := Ws.rule hr h .nil
  rwa [List.append_nil] at this
/-- The words of one symbol: none of 0, the terminal, those of its rules. -/
theorem Ws.of_one {G : Gram} {s : Int} {w : List Int} (h : Ws G [s] w) : (s = 0 ∧ w = []) ∨ (termB G s = true ∧ w = [s]) ∨ ∃ r ∈ G.rules, r.1 = s ∧ Ws G r.2 w := by
  cases h with
  | zero h => cases h; exact Or.inl ⟨rfl, rfl⟩
  | term ht h => cases h; exact Or.inr (Or.inl ⟨ht, rfl⟩)
  | rule hr h1 h =>
    cases h
    refine Or.inr (Or.inr ⟨_, hr, rfl, ?_⟩)
    rw [List.append_nil]
    exact h1

/-! ### Answers -/

inductive Ans where
  | none
  | far
  | is (w : List Int)

def putA (M : Nat) : Ans → Ans → Ans
  | .none, _ => .none
  | _, .none => .none
  | .far, _ => .far
  | _, .far => .far
  | .is v, .is w => if (v ++ w).length ≤ M then .is (v ++ w) else .far
def joinS (M : Nat) (T : Int → Ans) : List Int → Ans
  | [] => .is []
  | s :: l => putA M (T s) (joinS M T l)
/-- Is the first one better than what is there? -/
def betterS : Ans → Ans → Bool
  | .none, _ => false
  | _, .none => true
  | .is _, .far => true
  | .is v, .is w => lessB v w
  | .far, _ => false

theorem putA_is {M : Nat} {a b : Ans} {x : List Int} (h : putA M a b = .is x) : ∃ v w, a = .is v ∧ b = .is w ∧ x = v ++ w ∧ x.length ≤ M := by
  cases a with
  | none => cases h
  | far => cases b <;> cases h
  | is v =>
    cases b with
    | none => cases h
    | far => cases h
    | is w =>
      by_cases hl : (v ++ w).length ≤ M
      · have e : putA M (.is v) (.is w) = .is (v ++ w) := if_pos hl
        rw [e] at h
        injection h with h
        subst h
        exact ⟨_, _, rfl, rfl, rfl, hl⟩
      · have e : putA M (.is v) (.is w) = .far := if_neg hl
        rw [e] at h
        cases h
theorem putA_none {M : Nat} {a b : Ans} : putA M a b = .none ↔ a = .none ∨ b = .none := by
  cases a <;> cases b <;> simp [putA]
  split <;> simp

/-- What a table says is so, if not the best. -/
def OkS (G : Gram) (M : Nat) (T : Int → Ans) : Prop := ∀ s, (∀ w, T s = .is w → Ws G [s] w ∧ w.length ≤ M) ∧ (T s = .far → ∃ w, Ws G [s] w)
/-- No rule betters it. -/
structure Cls (G : Gram) (M : Nat) (T : Int → Ans) : Prop where
  zero : T 0 = .is []
  term : ∀ s, termB G s = true → T s = .is [s]
  rule : ∀ r ∈ G.rules, betterS (joinS M T r.2) (T r.1) = false

theorem OkS.some {G : Gram} {M : Nat} {T : Int → Ans} (h : OkS G M T) {s : Int} (hs : T s ≠ .none) : ∃ w, Ws G [s] w := by
  cases e : T s with
  | none => exact absurd e hs
  | far => exact (h s).2 e
  | is w => exact ⟨w, ((h s).1 w e).1⟩
theorem OkS.join_some {G : Gram} {M : Nat} {T : Int → Ans} (h : OkS G M T) : ∀ {l : List Int}, joinS M T l ≠ .none → ∃ w, Ws G l w := by
  intro l
  induction l with
  | nil => exact fun _ => ⟨[], .nil⟩
  | cons s l ih =>
    intro hn
    have h1 : ¬ (T s = .none ∨ joinS M T l = .none) := fun k => hn (putA_none.2 k)
    obtain ⟨v, hv⟩ := h.some fun k => h1 (Or.inl k)
    obtain ⟨w, hw⟩ := ih fun k => h1 (Or.inr k)
    exact ⟨v ++ w, hv.cons hw⟩
theorem OkS.join_is {G : Gram} {M : Nat} {T : Int → Ans} (h : OkS G M T) : ∀ {l x : List Int}, joinS M T l = .is x → Ws G l x ∧ x.length ≤ M := by
  intro l
  induction l with
  | nil =>
    intro x hx
    injection hx with hx
    subst hx
    exact ⟨.nil, Nat.zero_le _⟩
  | cons s l ih =>
    intro x hx
    obtain ⟨v, w, h1, h2, h3, h4⟩ := putA_is hx
    subst h3
    exact ⟨((h s).1 v h1).1.cons (ih h2).1, h4⟩

def setA (T : Int → Ans) (s : Int) (a : Ans) : Int → Ans := fun t => if t = s then a else T t
theorem setA_hit (T : Int → Ans) (s : Int) (a : Ans) : setA T s a s = a := if_pos rfl
theorem setA_miss (T : Int → Ans) {s t : Int} (a : Ans) (h : t ≠ s) : setA T s a t = T t := if_neg h
/-- What a rule gives may be written down. -/
theorem OkS.set {G : Gram} {M : Nat} {T : Int → Ans} (h : OkS G M T) {r : Int × List Int} (hr : r ∈ G.rules) : OkS G M (setA T r.1 (joinS M T r.2)) := by
  intro s
  by_cases e : s = r.1
  · subst e
    rw [setA_hit]
    refine ⟨fun w hw => ?_, fun hf => ?_⟩
    · have := h.join_is hw
      exact ⟨.one hr this.1, this.2⟩
    · obtain ⟨w, hw⟩ := h.join_some (l := r.2) (by rw [hf]; exact (fun k => by cases k))
      exact ⟨w, .one hr hw⟩
  · rw [setA_miss _ _ e]
    exact h s

/-! ### A sound table that no rule betters tells the least words -/

theorem better_none {a : Ans} (h : betterS a .none = false) : a = .none := by
  cases a <;> simp [betterS] at h ⊢
theorem Cls.least {G : Gram} {M : Nat} {T : Int → Ans} (ok : OkS G M T) (c : Cls G M T) {l w : List Int} (h : Ws G l w) :
    joinS M T l ≠ .none ∧ (w.length ≤ M → ∃ v, joinS M T l = .is v ∧ numW (base G) v ≤ numW (base G) w) := by
  have hB := base_pos G
  -- the word of a symbol, then that of the rest
  have step : ∀ {s : Int} {l v w : List Int}, Dig (base G) v → Ws G l w → (T s ≠ .none ∧ (v.length ≤ M → ∃ u, T s = .is u ∧ Dig (base G) u ∧ numW (base G) u ≤ numW (base G) v)) →
      (joinS M T l ≠ .none ∧ (w.length ≤ M → ∃ v, joinS M T l = .is v ∧ numW (base G) v ≤ numW (base G) w)) →
      joinS M T (s :: l) ≠ .none ∧ ((v ++ w).length ≤ M → ∃ u, joinS M T (s :: l) = .is u ∧ numW (base G) u ≤ numW (base G) (v ++ w)) := by
    intro s l v w hv hw h1 h2
    refine ⟨fun k => ?_, fun hl => ?_⟩
    · rcases putA_none.1 k with k | k
      · exact h1.1 k
      · exact h2.1 k
    · rw [List.length_append] at hl
      obtain ⟨u, e1, du, n1⟩ := h1.2 (by omega)
      obtain ⟨x, e2, n2⟩ := h2.2 (by omega)
      have dx := (ok.join_is e2).1.dig
      have l1 := len_of_num hB du hv n1
      have l2 := len_of_num hB dx hw.dig n2
      refine ⟨u ++ x, ?_, numW_mono hB dx hw.dig n1 n2⟩
      show putA M (T s) (joinS M T l) = _
      rw [e1, e2]
      show (if (u ++ x).length ≤ M then _ else _) = _
      rw [if_pos (by rw [List.length_append]; omega)]
  induction h with
  | nil => exact ⟨(fun k => by cases k), fun _ => ⟨[], rfl, Nat.le_refl _⟩⟩
  | zero hw ih =>
    exact step (s := 0) (v := []) (dig_nil _) hw ⟨by rw [c.zero]; exact (fun k => by cases k), fun _ => ⟨[], c.zero, dig_nil _, Nat.le_refl _⟩⟩ ih
  | @term s l w ht hw ih =>
    have d : Dig (base G) [s] := Ws.dig (Ws.term ht .nil)
    exact step (v := [s]) d hw ⟨by rw [c.term s ht]; exact (fun k => by cases k), fun _ => ⟨[s], c.term s ht, d, Nat.le_refl _⟩⟩ ih
  | @rule r l v w hr hv hw ih1 ih2 =>
    refine step hv.dig hw ?_ ih2
    have hb := c.rule r hr
    refine ⟨fun k => ?_, fun hl => ?_⟩
    · rw [k] at hb
      exact ih1.1 (better_none hb)
    · obtain ⟨x, e, n⟩ := ih1.2 hl
      rw [e] at hb
      have dx := (ok.join_is e).1.dig
      cases eT : T r.1 with
      | none => rw [eT] at hb; simp [betterS] at hb
      | far => rw [eT] at hb; simp [betterS] at hb
      | is u =>
        rw [eT] at hb
        have du := ((ok r.1).1 u eT).1.dig
        refine ⟨u, rfl, du, ?_⟩
        have hn : ¬ numW (base G) x < numW (base G) u := fun k => by
          have := (less_num hB dx du).2 k
          have hb' : lessB x u = false := hb
          rw [hb'] at this
          cases this
        omega

/-- What it tells of one symbol: none, as it has no word; far, as each word is too long; a word that is the least. -/
theorem Cls.one {G : Gram} {M : Nat} {T : Int → Ans} (ok : OkS G M T) (c : Cls G M T) {s : Int} {w : List Int} (h : Ws G [s] w) :
    T s ≠ .none ∧ (w.length ≤ M → ∃ v, T s = .is v ∧ numW (base G) v ≤ numW (base G) w) := by
  have k := c.least ok h
  refine ⟨fun e => k.1 (putA_none.2 (Or.inl e)), fun hl => ?_⟩
  obtain ⟨v, e, n⟩ := k.2 hl
  obtain ⟨a, b, e1, e2, e3, _⟩ := putA_is e
  injection e2 with e2
  subst e2
  rw [List.append_nil] at e3
  subst e3
  exact ⟨_, e1, n⟩
theorem Cls.unique {G : Gram} {M : Nat} {T T' : Int → Ans} (ok : OkS G M T) (c : Cls G M T) (ok' : OkS G M T') (c' : Cls G M T') (s : Int) : T s = T' s := by
  have hB := base_pos G
  cases e : T s with
  | none =>
    cases e' : T' s with
    | none => rfl
    | far => obtain ⟨w, hw⟩ := (ok' s).2 e'; exact absurd e (c.one ok hw).1
    | is w => exact absurd e (c.one ok ((ok' s).1 w e').1).1
  | far =>
    obtain ⟨w, hw⟩ := (ok s).2 e
    cases e' : T' s with
    | none => exact absurd e' (c'.one ok' hw).1
    | far => rfl
    | is x =>
      have hx := (ok' s).1 x e'
      obtain ⟨v, ev, _⟩ := (c.one ok hx.1).2 hx.2
      rw [e] at ev
      cases ev
  | is v =>
    have hv := (ok s).1 v e
    obtain ⟨w, ew, n⟩ := (c'.one ok' hv.1).2 hv.2
    have hw := (ok' s).1 w ew
    obtain ⟨x, ex, n'⟩ := (c.one ok hw.1).2 hw.2
    rw [e] at ex
    injection ex with ex
    subst ex
    rw [ew, numW_inj hB hv.1.dig hw.1.dig (by omega)]
/-- One of the rules of a symbol has its word. -/
theorem Cls.met {G : Gram} {M : Nat} {T : Int → Ans} (ok : OkS G M T) (c : Cls G M T) {s : Int} {w : List Int} (e : T s = .is w) (h0 : s ≠ 0) (ht : termB G s = false) :
    ∃ r ∈ G.rules, r.1 = s ∧ joinS M T r.2 = .is w := by
  have hB := base_pos G
  have hw := (ok s).1 w e
  rcases hw.1.of_one with h | h | ⟨r, hr, h1, h2⟩
  · exact absurd h.1 h0
  · rw [ht] at h
    cases h.1
  · refine ⟨r, hr, h1, ?_⟩
    obtain ⟨v, ev, n⟩ := (c.least ok h2).2 hw.2
    have hb := c.rule r hr
    rw [ev, h1, e] at hb
    have hv := ok.join_is ev
    have hn : ¬ numW (base G) v < numW (base G) w := fun k => by
      have := (less_num hB hv.1.dig hw.1.dig).2 k
      have hb' : lessB v w = false := hb
      rw [hb'] at this
      cases this
    rw [ev, numW_inj hB hv.1.dig hw.1.dig (by omega)]

/-! ### Bettering ends -/

def rankA (B M : Nat) : Ans → Nat
  | .none => B ^ (M + 1) + 1
  | .far => B ^ (M + 1)
  | .is w => numW B w
theorem rank_is {B M : Nat} (hB : 0 < B) {w : List Int} (h : Dig B w) (hl : w.length ≤ M) : numW B w < B ^ (M + 1) :=
  Nat.lt_of_lt_of_le (numW_lt hB h) (Nat.pow_le_pow_right hB (by omega))
theorem better_rank {B M : Nat} (hB : 0 < B) {a b : Ans} (ha : ∀ w, a = .is w → Dig B w ∧ w.length ≤ M) (hb : ∀ w, b = .is w → Dig B w) (h : betterS a b = true) : rankA B M a < rankA B M b := by
  cases a with
  | none => cases b <;> simp [betterS] at h
  | far => cases b <;> simp [betterS, rankA] at h ⊢
  | is v =>
    have hv := ha v rfl
    have h1 := rank_is hB hv.1 hv.2
    cases b with
    | none => show numW B v < B ^ (M + 1) + 1; omega
    | far => exact h1
    | is w => exact (less_num hB hv.1 (hb w rfl)).1 h

def sumTo (f : Nat → Nat) : Nat → Nat
  | 0 => 0
  | n + 1 => sumTo f n + f n
theorem sumTo_le {f g : Nat → Nat} : ∀ {n : Nat}, (∀ i, i < n → f i ≤ g i) → sumTo f n ≤ sumTo g n := by
  intro n
  induction n with
  | zero => exact fun _ => Nat.le_refl _
  | succ n ih => exact fun h => Nat.add_le_add (ih fun i hi => h i (by omega)) (h n (by omega))
theorem sumTo_lt {f g : Nat → Nat} : ∀ {n k : Nat}, (∀ i, i < n → f i ≤ g i) → k < n → f k < g k → sumTo f n < sumTo g n := by
  intro n
  induction n with
  | zero => intro k _ hk; omega
  | succ n ih =>
    intro k h hk hlt
    show sumTo f n + f n < sumTo g n + g n
    by_cases e : k = n
    · subst e
      have := sumTo_le (f := f) (g := g) (n := k) fun i hi => h i (by omega)
      omega
    · have h1 := ih (k := k) (fun i hi => h i (by omega)) (by omega) hlt
      have h2 := h n (by omega)
      omega
/-- What is left to better, over the symbols below n. -/
def leftA (G : Gram) (M : Nat) (T : Int → Ans) (n : Nat) : Nat := sumTo (fun i => rankA (base G) M (T (i : Int))) n
theorem left_set {G : Gram} {M : Nat} {T : Int → Ans} (ok : OkS G M T) {r : Int × List Int} (hr : r ∈ G.rules) {n : Nat} (h0 : 0 ≤ r.1) (hn : r.1 < (n : Int)) (hb : betterS (joinS M T r.2) (T r.1) = true) :
    leftA G M (setA T r.1 (joinS M T r.2)) n < leftA G M T n := by
  have hB := base_pos G
  have hk : rankA (base G) M (joinS M T r.2) < rankA (base G) M (T r.1) :=
    better_rank hB (fun w hw => ⟨(ok.join_is hw).1.dig, (ok.join_is hw).2⟩) (fun w hw => ((ok r.1).1 w hw).1.dig) hb
  have e : ((r.1.toNat : Nat) : Int) = r.1 := by omega
  refine sumTo_lt (k := r.1.toNat) (fun i _ => ?_) (by omega) ?_
  · by_cases ei : (i : Int) = r.1
    · rw [ei, setA_hit]
      exact Nat.le_of_lt hk
    · rw [setA_miss _ _ ei]
      exact Nat.le_refl _
  · show rankA (base G) M (setA T r.1 (joinS M T r.2) ((r.1.toNat : Nat) : Int)) < rankA (base G) M (T ((r.1.toNat : Nat) : Int))
    rw [e, setA_hit]
    exact hk

/-! ### The table at the beginning -/

def tab0 (G : Gram) : Int → Ans := fun s => if s = 0 then .is [] else if termB G s = true then .is [s] else .none
theorem ok_tab0 {G : Gram} {M : Nat} (hM : 1 ≤ M) : OkS G M (tab0 G) := by
  intro s
  unfold tab0
  split
  · rename_i h
    subst h
    refine ⟨fun w hw => ?_, fun h => by cases h⟩
    injection hw with hw
    subst hw
    exact ⟨.zero .nil, Nat.zero_le _⟩
  · split
    · rename_i ht
      refine ⟨fun w hw => ?_, fun h => by cases h⟩
      injection hw with hw
      subst hw
      exact ⟨.term ht .nil, hM⟩
    · exact ⟨(fun w hw => by cases hw), fun h => by cases h⟩
/-- Zero and the terminals keep what they have, as no rule has them on the left. -/
theorem keep_set {G : Gram} {M : Nat} {T : Int → Ans} {r : Int × List Int} (hn : nonB G r.1 = true) {s : Int} (h : s = 0 ∨ termB G s = true) : setA T r.1 (joinS M T r.2) s = T s := by
  refine setA_miss _ _ fun e => ?_
  subst e
  rw [nonB_iff] at hn
  rcases h with h | h
  · omega
  · rw [termB_iff] at h
    omega

end Go.Proofs.YtoipinnfmjaaaaaGreatDoor.Le
