/-
  The form of a grammar's source as plain data: declarations and rules out of tokens, or the first token that cannot stand where it is. No program in it.
-/
import Derived.Test.YtimfiaphhomelaaGtokPlain
namespace Go.Proofs.Ytimfiaphhomelaa.Rd
open Go.Proofs.Ytimfiaphhomelaa.Tk (Tok)
set_option linter.unusedVariables false
set_option linter.unusedSimpArgs false

structure Decl where
  mark : Tok
  names : List Tok
structure Side where
  first : Tok
  syms : List Tok
structure Rul where
  left : Tok
  sides : List Side
structure Src where
  decls : List Decl
  rules : List Rul

/-- What a part of the parser gives: something and the tokens behind it; an error and its place; or no answer (too little fuel). -/
inductive Pr (α : Type) where
  | ok (a : α) (rest : List Tok)
  | no (e : Int) (p : Nat)
  | out

def Pr.bind {α β : Type} (x : Pr α) (f : α → List Tok → Pr β) : Pr β := match x with
  | .ok a r => f a r
  | .no e p => .no e p
  | .out => .out

def symB (t : Tok) : Bool := t.k == 1 || t.k == 2
def symsL (l : List Tok) : List Tok := l.takeWhile symB
def restL (l : List Tok) : List Tok := l.dropWhile symB
def noTok : Tok := ⟨0, ⟨#[]⟩, 0⟩
def headT (l : List Tok) : Tok := l.headD noTok

def takeP (ks : List Int) : List Tok → Pr Tok
  | [] => .out
  | t :: r => if ks.contains t.k then .ok t r else .no (if t.k = 0 then 4 else 3) t.at_

def declP (l : List Tok) : Pr Decl := (takeP [7, 8] l).bind fun m r =>
  if m.k = 8 then (takeP [1] r).bind fun n r2 => .ok ⟨m, [n]⟩ r2
  else (takeP [1, 2] r).bind fun f r2 => .ok ⟨m, f :: symsL r2⟩ (restL r2)

def sidesP : Nat → List Tok → List Side → Pr (List Side)
  | 0, _, _ => .out
  | f + 1, l, acc => (takeP [4, 5] (restL l)).bind fun t r => if t.k = 5 then .ok (acc ++ [⟨headT l, symsL l⟩]) r else sidesP f r (acc ++ [⟨headT l, symsL l⟩])

def ruleP (f : Nat) (l : List Tok) : Pr Rul := (takeP [1] l).bind fun left r => (takeP [3] r).bind fun _ r2 => (sidesP f r2 []).bind fun S r3 => .ok ⟨left, S⟩ r3

def declsP : Nat → List Tok → List Decl → Pr (List Decl)
  | 0, _, _ => .out
  | f + 1, l, acc => if (headT l).k = 6 then .ok acc l else (declP l).bind fun d r => declsP f r (acc ++ [d])

def rulesP : Nat → List Tok → List Rul → Pr (List Rul)
  | 0, _, _ => .out
  | f + 1, l, acc => if (headT l).k = 0 then .ok acc l else (ruleP (f + 1) l).bind fun R r => rulesP f r (acc ++ [R])

def sourceP (f : Nat) (l : List Tok) : Pr Src := (declsP f l []).bind fun D r => (takeP [6] r).bind fun _ r2 => (ruleP f r2).bind fun R r3 => (rulesP f r3 [R]).bind fun Rs r4 => .ok ⟨D, Rs⟩ r4

/-! ### More fuel gives the same -/

def Pr.le {α : Type} (x y : Pr α) : Prop := x = .out ∨ x = y
theorem Pr.le_refl {α : Type} (x : Pr α) : x.le x := .inr rfl
theorem Pr.le_bind {α β : Type} {x y : Pr α} {f g : α → List Tok → Pr β} (h : x.le y) (hf : ∀ a r, (f a r).le (g a r)) : (x.bind f).le (y.bind g) := by
  rcases h with rfl | rfl
  · exact .inl rfl
  · cases x with
    | ok a r => exact hf a r
    | no e p => exact .inr rfl
    | out => exact .inl rfl
theorem Pr.le_ite {α : Type} {c : Prop} [Decidable c] {x y z u : Pr α} (h : x.le y) (k : z.le u) : (if c then x else z).le (if c then y else u) := by
  split
  · exact h
  · exact k

theorem sidesP_le : ∀ (f g : Nat) (l : List Tok) (acc : List Side), f ≤ g → (sidesP f l acc).le (sidesP g l acc)
  | 0, _, _, _, _ => .inl rfl
  | f + 1, 0, _, _, h => absurd h (by omega)
  | f + 1, g + 1, l, acc, h => Pr.le_bind (Pr.le_refl _) fun t r => Pr.le_ite (Pr.le_refl _) (sidesP_le f g r _ (by omega))
theorem ruleP_le (f g : Nat) (l : List Tok) (h : f ≤ g) : (ruleP f l).le (ruleP g l) :=
  Pr.le_bind (Pr.le_refl _) fun _ r => Pr.le_bind (Pr.le_refl _) fun _ r2 => Pr.le_bind (sidesP_le f g r2 [] h) fun _ _ => Pr.le_refl _
theorem declsP_le : ∀ (f g : Nat) (l : List Tok) (acc : List Decl), f ≤ g → (declsP f l acc).le (declsP g l acc)
  | 0, _, _, _, _ => .inl rfl
  | f + 1, 0, _, _, h => absurd h (by omega)
  | f + 1, g + 1, l, acc, h => Pr.le_ite (Pr.le_refl _) (Pr.le_bind (Pr.le_refl _) fun d r => declsP_le f g r _ (by omega))
theorem rulesP_le : ∀ (f g : Nat) (l : List Tok) (acc : List Rul), f ≤ g → (rulesP f l acc).le (rulesP g l acc)
  | 0, _, _, _, _ => .inl rfl
  | f + 1, 0, _, _, h => absurd h (by omega)
  | f + 1, g + 1, l, acc, h => Pr.le_ite (Pr.le_refl _) (Pr.le_bind (ruleP_le _ _ l (by omega)) fun d r => rulesP_le f g r _ (by omega))
theorem sourceP_le (f g : Nat) (l : List Tok) (h : f ≤ g) : (sourceP f l).le (sourceP g l) :=
  Pr.le_bind (declsP_le f g l [] h) fun _ r => Pr.le_bind (Pr.le_refl _) fun _ r2 => Pr.le_bind (ruleP_le f g r2 h) fun R r3 => Pr.le_bind (rulesP_le f g r3 [R] h) fun _ _ => Pr.le_refl _

/-! ### What is so with fuel enough -/

def Is {α : Type} (F : Nat → Pr α) (x : Pr α) : Prop := ∃ f, F f = x ∧ x ≠ .out

theorem Is.one {α : Type} {F : Nat → Pr α} (hF : ∀ f g, f ≤ g → (F f).le (F g)) {x y : Pr α} (h : Is F x) (k : Is F y) : x = y := by
  obtain ⟨f, rfl, hf⟩ := h
  obtain ⟨g, rfl, hg⟩ := k
  rcases hF f (max f g) (by omega) with e | e
  · exact absurd e hf
  · rcases hF g (max f g) (by omega) with e2 | e2
    · exact absurd e2 hg
    · rw [e, e2]

/-- The last token is the end, and no other one. -/
def EndT : List Tok → Prop
  | [] => False
  | [t] => t.k = 0
  | t :: r => ¬ t.k = 0 ∧ EndT r

theorem endT_ne {l : List Tok} (h : EndT l) : l ≠ [] := by rintro rfl; exact h
theorem endT_cons {t : Tok} {r : List Tok} (h : EndT (t :: r)) (hk : ¬ t.k = 0) : EndT r := by
  cases r with
  | nil => exact absurd h hk
  | cons u r => exact h.2
theorem endT_symB {t : Tok} {r : List Tok} (h : EndT (t :: r)) (hk : symB t = true) : EndT r := endT_cons h (fun e => by simp [symB, e] at hk)
theorem endT_rest {l : List Tok} (h : EndT l) : EndT (restL l) := by
  induction l with
  | nil => exact h
  | cons t r ih =>
    unfold restL
    rw [List.dropWhile_cons]
    split
    · rename_i hs
      exact ih (endT_symB h hs)
    · exact h
theorem restL_le (l : List Tok) : (restL l).length ≤ l.length := by
  unfold restL
  exact (List.dropWhile_suffix symB).length_le

theorem takeP_ok {ks : List Int} {l r : List Tok} {t : Tok} (h : takeP ks l = .ok t r) : l = t :: r ∧ ks.contains t.k = true := by
  cases l with
  | nil => simp [takeP] at h
  | cons u r =>
    simp only [takeP] at h
    split at h
    · rename_i hk
      injection h with h1 h2
      subst h1 h2
      exact ⟨rfl, hk⟩
    · cases h
theorem takeP_end {ks : List Int} {l r : List Tok} {t : Tok} (h : takeP ks l = .ok t r) (hl : EndT l) (h0 : ks.contains 0 = false) : EndT r ∧ l.length = r.length + 1 := by
  obtain ⟨rfl, hk⟩ := takeP_ok h
  exact ⟨endT_cons hl (fun e => by rw [e, h0] at hk; cases hk), by simp⟩
theorem takeP_in {ks : List Int} {l : List Tok} (hl : EndT l) : takeP ks l ≠ .out := by
  cases l with
  | nil => exact absurd rfl (endT_ne hl)
  | cons t r =>
    simp only [takeP]
    split <;> exact fun h => by cases h

theorem declP_end {l r : List Tok} {d : Decl} (h : declP l = .ok d r) (hl : EndT l) : EndT r ∧ r.length + 2 ≤ l.length := by
  unfold declP at h
  cases h1 : takeP [7, 8] l with
  | out => simp [h1, Pr.bind] at h
  | no e p => simp [h1, Pr.bind] at h
  | ok m r1 =>
    obtain ⟨e1, n1⟩ := takeP_end h1 hl rfl
    simp only [h1, Pr.bind] at h
    split at h
    · cases h2 : takeP [1] r1 with
      | out => simp [h2] at h
      | no e p => simp [h2] at h
      | ok n r2 =>
        obtain ⟨e2, n2⟩ := takeP_end h2 e1 rfl
        simp only [h2, Pr.ok.injEq] at h
        obtain ⟨_, rfl⟩ := h
        exact ⟨e2, by omega⟩
    · cases h2 : takeP [1, 2] r1 with
      | out => simp [h2] at h
      | no e p => simp [h2] at h
      | ok n r2 =>
        obtain ⟨e2, n2⟩ := takeP_end h2 e1 rfl
        simp only [h2, Pr.ok.injEq] at h
        obtain ⟨_, rfl⟩ := h
        have := restL_le r2
        exact ⟨endT_rest e2, by omega⟩
theorem declP_in {l : List Tok} (hl : EndT l) : declP l ≠ .out := by
  unfold declP
  cases h1 : takeP [7, 8] l with
  | out => exact absurd h1 (takeP_in hl)
  | no e p => exact fun h => by cases h
  | ok m r1 =>
    have e1 := (takeP_end h1 hl rfl).1
    simp only [Pr.bind]
    split
    · cases h2 : takeP [1] r1 with
      | out => exact absurd h2 (takeP_in e1)
      | no e p => exact fun h => by cases h
      | ok n r2 => exact fun h => by cases h
    · cases h2 : takeP [1, 2] r1 with
      | out => exact absurd h2 (takeP_in e1)
      | no e p => exact fun h => by cases h
      | ok n r2 => exact fun h => by cases h

theorem sidesP_in : ∀ (f : Nat) (l : List Tok) (acc : List Side), EndT l → l.length ≤ f → sidesP f l acc ≠ .out ∧ ∀ S r, sidesP f l acc = .ok S r → EndT r ∧ r.length < l.length
  | 0, l, acc, hl, hf => absurd (List.eq_nil_of_length_eq_zero (by omega)) (endT_ne hl)
  | f + 1, l, acc, hl, hf => by
    have hr := endT_rest hl
    have hle := restL_le l
    unfold sidesP
    cases h1 : takeP [4, 5] (restL l) with
    | out => exact absurd h1 (takeP_in hr)
    | no e p => exact ⟨(fun h => by cases h), (fun S r h => by cases h)⟩
    | ok t r1 =>
      obtain ⟨e1, n1⟩ := takeP_end h1 hr rfl
      simp only [Pr.bind]
      split
      · refine ⟨(fun h => by cases h), fun S r h => ?_⟩
        injection h with _ h2
        subst h2
        exact ⟨e1, by omega⟩
      · obtain ⟨g1, g2⟩ := sidesP_in f r1 (acc ++ [⟨headT l, symsL l⟩]) e1 (by omega)
        exact ⟨g1, fun S r h => by obtain ⟨g3, g4⟩ := g2 S r h; exact ⟨g3, by omega⟩⟩

theorem ruleP_in (f : Nat) (l : List Tok) (hl : EndT l) (hf : l.length ≤ f) : ruleP f l ≠ .out ∧ ∀ R r, ruleP f l = .ok R r → EndT r ∧ r.length < l.length := by
  unfold ruleP
  cases h1 : takeP [1] l with
  | out => exact absurd h1 (takeP_in hl)
  | no e p => exact ⟨(fun h => by cases h), (fun S r h => by cases h)⟩
  | ok t r1 =>
    obtain ⟨e1, n1⟩ := takeP_end h1 hl rfl
    simp only [Pr.bind]
    cases h2 : takeP [3] r1 with
    | out => exact absurd h2 (takeP_in e1)
    | no e p => exact ⟨(fun h => by cases h), (fun S r h => by cases h)⟩
    | ok t2 r2 =>
      obtain ⟨e2, n2⟩ := takeP_end h2 e1 rfl
      obtain ⟨g1, g2⟩ := sidesP_in f r2 [] e2 (by omega)
      simp only
      cases h3 : sidesP f r2 [] with
      | out => exact absurd h3 g1
      | no e p => exact ⟨(fun h => by cases h), (fun S r h => by cases h)⟩
      | ok S r3 =>
        obtain ⟨e3, n3⟩ := g2 S r3 h3
        refine ⟨(fun h => by cases h), fun R r h => ?_⟩
        injection h with _ h2
        subst h2
        exact ⟨e3, by omega⟩

theorem declsP_in : ∀ (f : Nat) (l : List Tok) (acc : List Decl), EndT l → l.length ≤ f → declsP f l acc ≠ .out ∧ ∀ D r, declsP f l acc = .ok D r → EndT r ∧ r.length ≤ l.length
  | 0, l, acc, hl, hf => absurd (List.eq_nil_of_length_eq_zero (by omega)) (endT_ne hl)
  | f + 1, l, acc, hl, hf => by
    unfold declsP
    split
    · refine ⟨(fun h => by cases h), fun S r h => ?_⟩
      injection h with _ h2
      subst h2
      exact ⟨hl, Nat.le_refl _⟩
    · cases h1 : declP l with
      | out => exact absurd h1 (declP_in hl)
      | no e p => exact ⟨(fun h => by cases h), (fun S r h => by cases h)⟩
      | ok d r1 =>
        obtain ⟨e1, n1⟩ := declP_end h1 hl
        obtain ⟨g1, g2⟩ := declsP_in f r1 (acc ++ [d]) e1 (by omega)
        exact ⟨g1, fun S r h => by obtain ⟨g3, g4⟩ := g2 S r h; exact ⟨g3, by omega⟩⟩

theorem rulesP_in : ∀ (f : Nat) (l : List Tok) (acc : List Rul), EndT l → l.length ≤ f → rulesP f l acc ≠ .out ∧ ∀ D r, rulesP f l acc = .ok D r → EndT r ∧ r.length ≤ l.length
  | 0, l, acc, hl, hf => absurd (List.eq_nil_of_length_eq_zero (by omega)) (endT_ne hl)
  | f + 1, l, acc, hl, hf => by
    unfold rulesP
    split
    · refine ⟨(fun h => by cases h), fun S r h => ?_⟩
      injection h with _ h2
      subst h2
      exact ⟨hl, Nat.le_refl _⟩
    · obtain ⟨k1, k2⟩ := ruleP_in (f + 1) l hl hf
      cases h1 : ruleP (f + 1) l with
      | out => exact absurd h1 k1
      | no e p => exact ⟨(fun h => by cases h), (fun S r h => by cases h)⟩
      | ok d r1 =>
        obtain ⟨e1, n1⟩ := k2 d r1 h1
        obtain ⟨g1, g2⟩ := rulesP_in f r1 (acc ++ [d]) e1 (by omega)
        exact ⟨g1, fun S r h => by obtain ⟨g3, g4⟩ := g2 S r h; exact ⟨g3, by omega⟩⟩

theorem sourceP_in (f : Nat) (l : List Tok) (hl : EndT l) (hf : l.length ≤ f) : sourceP f l ≠ .out := by
  unfold sourceP
  obtain ⟨k1, k2⟩ := declsP_in f l [] hl hf
  cases h1 : declsP f l [] with
  | out => exact absurd h1 k1
  | no e p => exact fun h => by cases h
  | ok D r1 =>
    obtain ⟨e1, n1⟩ := k2 D r1 h1
    simp only [Pr.bind]
    cases h2 : takeP [6] r1 with
    | out => exact absurd h2 (takeP_in e1)
    | no e p => exact fun h => by cases h
    | ok t r2 =>
      obtain ⟨e2, n2⟩ := takeP_end h2 e1 rfl
      obtain ⟨k3, k4⟩ := ruleP_in f r2 e2 (by omega)
      simp only
      cases h3 : ruleP f r2 with
      | out => exact absurd h3 k3
      | no e p => exact fun h => by cases h
      | ok R r3 =>
        obtain ⟨e3, n3⟩ := k4 R r3 h3
        obtain ⟨k5, _⟩ := rulesP_in f r3 [R] e3 (by omega)
        simp only
        cases h4 : rulesP f r3 [R] with
        | out => exact absurd h4 k5
        | no e p => exact fun h => by cases h
        | ok Rs r4 => exact fun h => by cases h

end Go.Proofs.Ytimfiaphhomelaa.Rd
