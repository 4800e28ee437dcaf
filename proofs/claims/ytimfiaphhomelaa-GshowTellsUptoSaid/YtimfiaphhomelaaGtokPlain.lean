/-
  The tokens of a grammar's source as plain data: what begins at a place, and all of them. No program in it.
-/
import Derived.Test.YtimfiaphhomelaaCharPlain
import Derived.Lib.Index
namespace Go.Proofs.Ytimfiaphhomelaa.Tk
set_option linter.unusedVariables false
set_option linter.unusedSimpArgs false

/-- A token: its kind, its text, its place. -/
structure Tok where
  k : Int
  s : ByteArray
  at_ : Nat

/-- What begins at a place: a kind (-1: passed over; 0: the end) and how many bytes; or an error and its place. -/
inductive Step where
  | tok (k : Int) (n : Nat)
  | bad (e : Int) (p : Nat)

def letB (c : UInt8) : Bool := Ch.cb c == 4
def inNB (c : UInt8) : Bool := Ch.inN (Ch.cb c)

/-- A quoted token from its i-th byte on. -/
def quoL : List UInt8 → Nat → Step
  | [], i => .bad 4 i
  | c :: r, i => if c.toNat < 33 ∨ 126 < c.toNat ∨ (c.toNat = 39 ∧ i = 1) then .bad 2 i else if 24 ≤ i then .bad 5 0 else if c.toNat = 39 then .tok 2 (i + 1) else quoL r (i + 1)

/-- A comment, behind its two bytes. -/
def comL (r : List UInt8) : Step := if Lib.index r [42, 47] < 0 then .bad 4 (2 + r.length) else .tok (-1) (2 + (Lib.index r [42, 47]).toNat + 2)

def slaL : List UInt8 → Step
  | 42 :: r => comL r
  | _ => .bad 2 0

def spanL (p : UInt8 → Bool) (l : List UInt8) : Nat := (l.takeWhile p).length

/-- Behind a %. -/
def pctL (r : List UInt8) : Step :=
  if r.head? = some 37 then .tok 6 2
  else if r.take (spanL letB r) = [116, 111, 107, 101, 110] then .tok 7 6
  else if r.take (spanL letB r) = [115, 116, 97, 114, 116] then .tok 8 6
  else .bad 2 0

def namL (l : List UInt8) : Step := if 24 < spanL inNB l then .bad 5 0 else .tok 1 (spanL inNB l)

/-- What begins where these bytes stand. -/
def stepL : List UInt8 → Step
  | [] => .tok 0 0
  | c :: r =>
    if c = 32 ∨ c = 9 ∨ c = 10 ∨ c = 13 then .tok (-1) 1
    else if c = 58 then .tok 3 1
    else if c = 124 then .tok 4 1
    else if c = 59 then .tok 5 1
    else if c = 47 then slaL r
    else if c = 37 then pctL r
    else if c = 39 then quoL r 1
    else if letB c then namL (c :: r)
    else .bad 2 0

/-- All tokens, or the first error. -/
inductive Res where
  | ok (T : List Tok)
  | bad (e : Int) (p : Nat)

/-- With tokens ahead. -/
def Res.add (T : List Tok) : Res → Res
  | .ok U => .ok (T ++ U)
  | .bad e p => .bad e p

theorem Res.add_nil (r : Res) : r.add [] = r := by cases r <;> rfl
theorem Res.add_add (T U : List Tok) (r : Res) : (r.add U).add T = r.add (T ++ U) := by cases r <;> simp [Res.add]

def mk (k : Int) (l : List UInt8) (n at_ : Nat) : Tok := ⟨k, ⟨(l.take n).toArray⟩, at_⟩

def lexL : Nat → List UInt8 → Nat → Option Res
  | 0, _, _ => none
  | f + 1, l, at_ =>
    match stepL l with
    | .bad e p => some (.bad e (at_ + p))
    | .tok k n =>
      if k = 0 then some (.ok [mk 0 l 0 at_])
      else if k = -1 then lexL f (l.drop n) (at_ + n)
      else (lexL f (l.drop n) (at_ + n)).map (Res.add [mk k l n at_])

theorem lexL_mono {f g : Nat} {l : List UInt8} {a : Nat} {r : Res} (h : lexL f l a = some r) (hfg : f ≤ g) : lexL g l a = some r := by
  induction f generalizing g l a r with
  | zero => simp [lexL] at h
  | succ f ih =>
    obtain ⟨g, rfl⟩ : ∃ m, g = m + 1 := ⟨g - 1, by omega⟩
    unfold lexL at h ⊢
    cases hs : stepL l with
    | bad e p => simpa [hs] using h
    | tok k n =>
      simp only [hs] at h ⊢
      by_cases h0 : k = 0
      · simpa [h0] using h
      · by_cases h1 : k = -1
        · simp only [h0, h1, if_false, if_true] at h ⊢
          exact ih h (by omega)
        · simp only [h0, h1, if_false] at h ⊢
          obtain ⟨q, hq, rfl⟩ := Option.map_eq_some_iff.1 h
          rw [ih hq (by omega)]
          rfl

/-- The text has these tokens, or that error. -/
def Lexes (l : List UInt8) (r : Res) : Prop := if 8192 < l.length then r = .bad 5 0 else ∃ f, lexL f l 0 = some r

theorem Lexes.one {l : List UInt8} {r q : Res} (h : Lexes l r) (k : Lexes l q) : r = q := by
  unfold Lexes at h k
  split at h
  · simp_all
  · simp_all only [if_false]
    obtain ⟨f, hf⟩ := h
    obtain ⟨g, hg⟩ := k
    have := lexL_mono hf (Nat.le_max_left f g)
    rw [lexL_mono hg (Nat.le_max_right f g)] at this
    exact (Option.some.inj this).symm

/-- From a place on, with tokens ahead, the whole is so. -/
def LexFrom (l : List UInt8) (a : Nat) (T : List Tok) (r : Res) : Prop := ∃ f, (lexL f (l.drop a) a).map (Res.add T) = some r

theorem lexFrom_zero {l : List UInt8} {r : Res} (hl : ¬ 8192 < l.length) (h : Lexes l r) : LexFrom l 0 [] r := by
  unfold Lexes at h
  rw [if_neg hl] at h
  obtain ⟨f, hf⟩ := h
  exact ⟨f, by rw [List.drop_zero, hf]; simp [Res.add_nil]⟩
theorem lexFrom_fuel {l : List UInt8} {a : Nat} {T : List Tok} {r : Res} (h : LexFrom l a T r) : ∃ f, (lexL (f + 1) (l.drop a) a).map (Res.add T) = some r := by
  obtain ⟨f, hf⟩ := h
  cases f with
  | zero => simp [lexL] at hf
  | succ f => exact ⟨f, hf⟩
theorem lexFrom_gap {l : List UInt8} {T : List Tok} {a n : Nat} {r : Res} (h : LexFrom l a T r) (hs : stepL (l.drop a) = .tok (-1) n) : LexFrom l (a + n) T r := by
  obtain ⟨f, hf⟩ := lexFrom_fuel h
  unfold lexL at hf
  simp only [hs] at hf
  rw [if_neg (by decide), if_pos trivial, List.drop_drop] at hf
  exact ⟨f, hf⟩
theorem lexFrom_tok {l : List UInt8} {T : List Tok} {a n : Nat} {k : Int} {r : Res} (h : LexFrom l a T r) (hs : stepL (l.drop a) = .tok k n) (h0 : ¬ k = 0) (h1 : ¬ k = -1) : LexFrom l (a + n) (T ++ [mk k (l.drop a) n a]) r := by
  obtain ⟨f, hf⟩ := lexFrom_fuel h
  unfold lexL at hf
  simp only [hs] at hf
  rw [if_neg h0, if_neg h1, List.drop_drop, Option.map_map] at hf
  refine ⟨f, ?_⟩
  rw [← hf]
  congr 1
  funext r
  exact (Res.add_add _ _ _).symm
theorem lexFrom_end {l : List UInt8} {T : List Tok} {a n : Nat} {r : Res} (h : LexFrom l a T r) (hs : stepL (l.drop a) = .tok 0 n) : r = .ok (T ++ [⟨0, ⟨#[]⟩, a⟩]) := by
  obtain ⟨f, hf⟩ := lexFrom_fuel h
  unfold lexL at hf
  simp only [hs] at hf
  simpa [Res.add, mk, eq_comm] using hf
theorem lexFrom_bad {l : List UInt8} {T : List Tok} {a p : Nat} {e : Int} {r : Res} (h : LexFrom l a T r) (hs : stepL (l.drop a) = .bad e p) : r = .bad e (a + p) := by
  obtain ⟨f, hf⟩ := lexFrom_fuel h
  unfold lexL at hf
  simp only [hs] at hf
  simpa [Res.add, eq_comm] using hf

/-! ### What a token is -/

/-- A token within quotes, from its i-th byte on. -/
theorem quoL_tok {r : List UInt8} {i : Nat} {k : Int} {n : Nat} (hi : 1 ≤ i) (h : quoL r i = .tok k n) : k = 2 ∧ i < n ∧ n ≤ 24 ∧ n - 1 - i < r.length ∧ 2 < n ∧
    (∀ j (hj : j < r.length), j < n - 1 - i → 33 ≤ (r[j]).toNat ∧ (r[j]).toNat ≤ 126 ∧ (r[j]).toNat ≠ 39) ∧ ∃ hj : n - 1 - i < r.length, (r[n - 1 - i]).toNat = 39 := by
  induction r generalizing i with
  | nil => simp [quoL] at h
  | cons c r ih =>
    unfold quoL at h
    split at h
    · cases h
    · rename_i h1
      split at h
      · cases h
      · rename_i h2
        split at h
        · rename_i h3
          injection h with ha hb
          subst ha hb
          refine ⟨rfl, by omega, by omega, by simp, by omega, fun j hj hl => absurd hl (by omega), by simp, by simpa using h3⟩
        · rename_i h3
          obtain ⟨g1, g2, g3, g4, g5, g6, g7, g8⟩ := ih (by omega) h
          refine ⟨g1, by omega, g3, by simp; omega, by omega, fun j hj hl => ?_, by simp; omega, ?_⟩
          · cases j with
            | zero => simp only [List.getElem_cons_zero]; omega
            | succ j =>
              simp only [List.getElem_cons_succ]
              exact g6 j (by simpa using hj) (by omega)
          · have e : n - 1 - i = (n - 1 - (i + 1)) + 1 := by omega
            simp only [e, List.getElem_cons_succ]
            exact g8

theorem spanL_le (p : UInt8 → Bool) (l : List UInt8) : spanL p l ≤ l.length := by
  unfold spanL
  exact (List.takeWhile_prefix p).length_le
theorem spanL_take (p : UInt8 → Bool) (l : List UInt8) : l.take (spanL p l) = l.takeWhile p := by
  unfold spanL
  exact (List.prefix_iff_eq_take.1 (List.takeWhile_prefix p)).symm

/-- How far the bytes fit, by what a loop finds. -/
theorem spanL_at {p : UInt8 → Bool} {l : List UInt8} {n : Nat} (hn : n ≤ l.length) (h : ∀ j (hj : j < l.length), j < n → p l[j] = true) (he : ∀ hj : n < l.length, p l[n] = false) : spanL p l = n := by
  induction l generalizing n with
  | nil => simp [spanL] at hn ⊢; omega
  | cons c r ih =>
    cases n with
    | zero =>
      have := he (by simp)
      simp only [List.getElem_cons_zero] at this
      simp [spanL, List.takeWhile_cons, this]
    | succ n =>
      have h0 := h 0 (by simp) (by omega)
      simp only [List.getElem_cons_zero] at h0
      have := ih (n := n) (by simpa using hn) (fun j hj hl => by simpa only [List.getElem_cons_succ] using h (j + 1) (Nat.succ_lt_succ hj) (by omega)) (fun hj => by simpa only [List.getElem_cons_succ] using he (Nat.succ_lt_succ hj))
      simp only [spanL, List.takeWhile_cons, h0, if_true, List.length_cons] at this ⊢
      omega

theorem index_le (s t : List UInt8) (h : ¬ Lib.index s t < 0) : (Lib.index s t).toNat + t.length ≤ s.length := by
  induction s with
  | nil =>
    unfold Lib.index at h ⊢
    split at h <;> simp_all
  | cons b l ih =>
    unfold Lib.index at h ⊢
    by_cases hp : t.isPrefixOf (b :: l) = true
    · simp only [hp, if_true] at h ⊢
      have := (List.isPrefixOf_iff_prefix.1 hp).length_le
      simpa using this
    · simp only [hp] at h ⊢
      by_cases hi : (Lib.index l t == -1) = true
      · simp [hi] at h
      · have hge := Lib.index_ge l t
        simp only [beq_iff_eq] at hi
        have := ih (by omega)
        simp [hi]
        omega

/-- A token has a byte, and no more than there are. -/
theorem stepL_tok {l : List UInt8} {k : Int} {n : Nat} (h : stepL l = .tok k n) : (k = 0 ∧ n = 0 ∧ l = []) ∨ (¬ k = 0 ∧ 1 ≤ n ∧ n ≤ l.length) := by
  cases l with
  | nil =>
    simp only [stepL, Step.tok.injEq] at h
    exact .inl ⟨h.1.symm, h.2.symm, rfl⟩
  | cons c r =>
    right
    simp only [stepL] at h
    have one : ∀ (k' : Int), ¬ k' = 0 → Step.tok k' 1 = .tok k n → ¬ k = 0 ∧ 1 ≤ n ∧ n ≤ (c :: r).length := fun k' hk e => by
      injection e with e1 e2
      subst e1 e2
      exact ⟨hk, Nat.le_refl _, by simp⟩
    split at h
    · exact one _ (by decide) h
    split at h
    · exact one _ (by decide) h
    split at h
    · exact one _ (by decide) h
    split at h
    · exact one _ (by decide) h
    split at h
    · unfold slaL at h
      split at h
      · rename_i r2
        unfold comL at h
        split at h
        · cases h
        · rename_i hi
          injection h with e1 e2
          have := index_le _ _ hi
          subst e1 e2
          simp at this ⊢
          omega
      · cases h
    split at h
    · unfold pctL at h
      have sl := spanL_le letB r
      split at h
      · rename_i hh
        injection h with e1 e2
        subst e1 e2
        cases r with
        | nil => simp at hh
        | cons d r => simp
      · split at h
        · rename_i ht
          injection h with e1 e2
          have := congrArg List.length ht
          simp at this
          subst e1 e2
          simp
          omega
        · split at h
          · rename_i ht
            injection h with e1 e2
            have := congrArg List.length ht
            simp at this
            subst e1 e2
            simp
            omega
          · cases h
    split at h
    · obtain ⟨g1, g2, g3, g4, g5, _⟩ := quoL_tok (Nat.le_refl _) h
      subst g1
      simp
      omega
    split at h
    · rename_i hl
      unfold namL at h
      split at h
      · cases h
      · injection h with e1 e2
        subst e1 e2
        have sl := spanL_le inNB (c :: r)
        refine ⟨by decide, ?_, sl⟩
        have hc : inNB c = true := by
          unfold letB at hl
          unfold inNB Ch.inN
          rw [hl]
          rfl
        unfold spanL
        rw [List.takeWhile_cons, if_pos hc]
        simp
    · cases h

/-- Every text has tokens, or an error. -/
theorem lexL_total (l : List UInt8) (a : Nat) : ∃ f r, lexL f l a = some r := by
  induction hn : l.length using Nat.strongRecOn generalizing l a with
  | ind n ih =>
    subst hn
    cases hs : stepL l with
    | bad e p => exact ⟨1, _, by unfold lexL; rw [hs]⟩
    | tok k n =>
      rcases stepL_tok hs with ⟨rfl, rfl, rfl⟩ | ⟨hk, h1, h2⟩
      · exact ⟨1, _, by unfold lexL; rw [hs]; rfl⟩
      · obtain ⟨f, r, hf⟩ := ih (l.drop n).length (by rw [List.length_drop]; omega) (l.drop n) (a + n) rfl
        by_cases h1 : k = -1
        · exact ⟨f + 1, r, by unfold lexL; simp only [hs]; rw [if_neg hk, if_pos h1, hf]⟩
        · exact ⟨f + 1, r.add [mk k l n a], by unfold lexL; simp only [hs]; rw [if_neg hk, if_neg h1, hf]; rfl⟩
theorem lexes_total (l : List UInt8) : ∃ r, Lexes l r := by
  unfold Lexes
  by_cases h : 8192 < l.length
  · exact ⟨_, by rw [if_pos h]⟩
  · obtain ⟨f, r, hf⟩ := lexL_total l 0
    exact ⟨r, by rw [if_neg h]; exact ⟨f, hf⟩⟩

end Go.Proofs.Ytimfiaphhomelaa.Tk
