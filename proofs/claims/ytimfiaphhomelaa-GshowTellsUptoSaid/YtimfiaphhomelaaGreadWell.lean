/-
  Tokens are well formed, and so is what the plain parser makes of them. No program in it.
-/
import Derived.Test.YtimfiaphhomelaaGreadToks
import Derived.Test.YtimfiaphhomelaaGramPlain
namespace Go.Proofs.Ytimfiaphhomelaa.Rd
open Go.Proofs.Ytimfiaphhomelaa.Tk (Tok Res lexL mk stepL stepL_tok Lexes)
set_option linter.unusedVariables false
set_option linter.unusedSimpArgs false

/-- A name is a plain name; a quoted token is just one quoted token. -/
def TokOk (t : Tok) : Prop := (t.k = 1 → Gr.plnS t.s = true) ∧ (t.k = 2 → Gr.quoS t.s = true)

theorem namL_ok {c : UInt8} {r : List UInt8} {k : Int} {n : Nat} (hl : Tk.letB c = true) (h : Tk.namL (c :: r) = .tok k n) (a : Nat) : k = 1 ∧ Gr.plnS (mk k (c :: r) n a).s = true := by
  unfold Tk.namL at h
  split at h
  · cases h
  · rename_i hn
    injection h with e1 e2
    subst e1 e2
    refine ⟨rfl, ?_⟩
    have hsz : ((c :: r).take (Tk.spanL Tk.inNB (c :: r))).length ≤ 24 := by
      rw [List.length_take]
      omega
    show (decide ((⟨((c :: r).take (Tk.spanL Tk.inNB (c :: r))).toArray⟩ : ByteArray).size ≤ 24) && Ch.namB ((c :: r).take (Tk.spanL Tk.inNB (c :: r)))) = true
    rw [Bool.and_eq_true, decide_eq_true_iff]
    refine ⟨hsz, ?_⟩
    rw [Tk.spanL_take]
    have hc : Tk.inNB c = true := by
      unfold Tk.letB at hl
      unfold Tk.inNB Ch.inN
      rw [hl]
      rfl
    rw [List.takeWhile_cons, if_pos hc]
    unfold Tk.letB at hl
    show (Ch.cb c == 4 && (r.takeWhile Tk.inNB).all fun c => Ch.inN (Ch.cb c)) = true
    rw [hl, Bool.true_and, List.all_eq_true]
    intro x hx
    exact List.all_eq_true.1 (List.all_takeWhile (p := Tk.inNB) (l := r)) x hx

theorem quoL_ok {r : List UInt8} {k : Int} {n : Nat} (h : Tk.quoL r 1 = .tok k n) (a : Nat) : k = 2 ∧ Gr.quoS (mk k (39 :: r) n a).s = true := by
  obtain ⟨g1, g2, g3, g4, g5, g6, g7, g8⟩ := Tk.quoL_tok (Nat.le_refl _) h
  refine ⟨g1, ?_⟩
  have hsz : (mk k (39 :: r) n a).s.size = n := by
    show ((39 :: r).take n).toArray.size = n
    simp
    omega
  have hget : ∀ j (hj : j < (mk k (39 :: r) n a).s.size), ((mk k (39 :: r) n a).s[j]'hj) = (39 :: r)[j]'(by simp; omega) := fun j hj => by
    have e : ((mk k (39 :: r) n a).s[j]'hj) = ((39 :: r).take n)[j]'(by simp; omega) := rfl
    rw [e, List.getElem_take]
  unfold Gr.quoS
  rw [@decide_eq_true_iff _ (Classical.propDecidable _)]
  refine ⟨⟨by omega, by rw [hget]; rfl⟩, n - 1, ⟨by omega, by omega, fun j hj h1 h2 => ?_, ⟨by omega, ?_⟩⟩, by omega⟩
  · rw [hget]
    obtain ⟨i, rfl⟩ : ∃ i, j = i + 1 := ⟨j - 1, by omega⟩
    have := g6 i (by omega) (by omega)
    unfold Gr.insB
    rw [decide_eq_true_iff]
    simp only [List.getElem_cons_succ]
    omega
  · rw [hget]
    obtain ⟨m, hm⟩ : ∃ m, n - 1 = m + 1 := ⟨n - 1 - 1, by omega⟩
    simp only [hm, List.getElem_cons_succ]
    simp only [hm, Nat.add_sub_cancel] at g8
    exact g8

theorem step_ok {l : List UInt8} {k : Int} {n : Nat} (h : stepL l = .tok k n) (a : Nat) : TokOk (mk k l n a) := by
  have other : ∀ {k' : Int} {n' : Nat}, ¬ k' = 1 → ¬ k' = 2 → Tk.Step.tok k' n' = .tok k n → TokOk (mk k l n a) := fun h1 h2 e => by
    injection e with e1 e2
    subst e1 e2
    exact ⟨fun e => absurd e h1, fun e => absurd e h2⟩
  cases l with
  | nil => exact other (by decide) (by decide) h
  | cons c r =>
    simp only [stepL] at h
    split at h
    · exact other (by decide) (by decide) h
    split at h
    · exact other (by decide) (by decide) h
    split at h
    · exact other (by decide) (by decide) h
    split at h
    · exact other (by decide) (by decide) h
    split at h
    · unfold Tk.slaL at h
      split at h
      · unfold Tk.comL at h
        split at h
        · cases h
        · exact other (by decide) (by decide) h
      · cases h
    split at h
    · unfold Tk.pctL at h
      split at h
      · exact other (by decide) (by decide) h
      · split at h
        · exact other (by decide) (by decide) h
        · split at h
          · exact other (by decide) (by decide) h
          · cases h
    split at h
    · rename_i hc
      subst hc
      obtain ⟨rfl, hq⟩ := quoL_ok h a
      exact ⟨fun e => absurd e (show ¬ (2 : Int) = 1 by decide), fun _ => hq⟩
    split at h
    · rename_i hl
      obtain ⟨rfl, hq⟩ := namL_ok hl h a
      exact ⟨fun _ => hq, fun e => absurd e (show ¬ (1 : Int) = 2 by decide)⟩
    · cases h

def AllOk (l : List Tok) : Prop := ∀ t ∈ l, TokOk t

theorem lexL_well : ∀ (f : Nat) (l : List UInt8) (a : Nat) (T : List Tok), lexL f l a = some (.ok T) → AllOk T := by
  intro f
  induction f with
  | zero => intro l a T h; simp [lexL] at h
  | succ f ih =>
    intro l a T h
    unfold lexL at h
    cases hs : stepL l with
    | bad e p => rw [hs] at h; simp at h
    | tok k n =>
      rw [hs] at h
      have ht := step_ok hs a
      simp only at h
      by_cases h0 : k = 0
      · simp only [h0, if_true, Option.some.injEq, Res.ok.injEq] at h
        subst h
        intro t hm
        rw [List.mem_singleton] at hm
        subst hm
        exact ⟨fun e => absurd e (show ¬ (0 : Int) = 1 by decide), fun e => absurd e (show ¬ (0 : Int) = 2 by decide)⟩
      · by_cases h1 : k = -1
        · exact ih _ _ _ (by simpa [h1] using h)
        · simp only [h0, h1, if_false] at h
          obtain ⟨q, hq, hr⟩ := Option.map_eq_some_iff.1 h
          cases q with
          | bad e p => simp [Res.add] at hr
          | ok U =>
            simp only [Res.add, Res.ok.injEq] at hr
            subst hr
            intro t hm
            rcases List.mem_cons.1 (by simpa using hm) with rfl | hm
            · exact ht
            · exact ih _ _ _ hq t hm

theorem lexes_well {l : List UInt8} {T : List Tok} (h : Lexes l (.ok T)) : AllOk T := by
  unfold Lexes at h
  split at h
  · cases h
  · obtain ⟨f, hf⟩ := h
    exact lexL_well f l 0 T hf

/-! ### The parser -/

def WSide (s : Side) : Prop := ∀ t ∈ s.syms, symB t = true ∧ TokOk t
def WDecl (d : Decl) : Prop := ¬ d.mark.k = 8 → ∀ t ∈ d.names, symB t = true ∧ TokOk t
structure WRul (R : Rul) : Prop where
  left : R.left.k = 1 ∧ TokOk R.left
  some : R.sides ≠ []
  sides : ∀ s ∈ R.sides, WSide s
structure WSrc (src : Src) : Prop where
  decls : ∀ d ∈ src.decls, WDecl d
  some : src.rules ≠ []
  rules : ∀ R ∈ src.rules, WRul R

theorem Pr.bind_okW {α β : Type} {x : Pr α} {f : α → List Tok → Pr β} {b : β} {r : List Tok} (h : x.bind f = .ok b r) : ∃ a r1, x = .ok a r1 ∧ f a r1 = .ok b r := by
  cases x with
  | ok a r1 => exact ⟨a, r1, rfl, h⟩
  | no e q => cases h
  | out => cases h

theorem takeP_well {ks : List Int} {l r : List Tok} {t : Tok} (h : takeP ks l = .ok t r) (hs : AllOk l) : TokOk t ∧ AllOk r ∧ ks.contains t.k = true := by
  obtain ⟨rfl, hk⟩ := takeP_ok h
  exact ⟨hs t (List.mem_cons_self ..), fun y hy => hs y (List.mem_cons_of_mem _ hy), hk⟩

theorem syms_well {l : List Tok} (hs : AllOk l) : (∀ t ∈ symsL l, symB t = true ∧ TokOk t) ∧ AllOk (restL l) :=
  ⟨fun t h => ⟨List.all_eq_true.1 (List.all_takeWhile (p := symB) (l := l)) t h, hs t ((List.takeWhile_sublist _).subset h)⟩, fun t h => hs t ((List.dropWhile_sublist _).subset h)⟩

theorem declP_well {l r : List Tok} {d : Decl} (h : declP l = .ok d r) (hs : AllOk l) : WDecl d ∧ AllOk r := by
  obtain ⟨m, r1, h1, h2⟩ := Pr.bind_okW (show (takeP [7, 8] l).bind _ = _ from h)
  obtain ⟨_, s1, _⟩ := takeP_well h1 hs
  split at h2
  · rename_i hm
    obtain ⟨n, r2, h3, h4⟩ := Pr.bind_okW h2
    obtain ⟨k1, s2, _⟩ := takeP_well h3 s1
    injection h4 with h5 h6
    subst h5 h6
    exact ⟨fun hn => absurd hm hn, s2⟩
  · obtain ⟨n, r2, h3, h4⟩ := Pr.bind_okW h2
    obtain ⟨k1, s2, kk⟩ := takeP_well h3 s1
    obtain ⟨q1, q2⟩ := syms_well s2
    injection h4 with h5 h6
    subst h5 h6
    refine ⟨fun _ t ht => ?_, q2⟩
    rcases List.mem_cons.1 ht with rfl | ht
    · refine ⟨?_, k1⟩
      simpa [symB] using kk
    · exact q1 t ht

theorem sidesP_well : ∀ (f : Nat) (l : List Tok) (acc S : List Side) (r : List Tok), sidesP f l acc = .ok S r → AllOk l → (∀ s ∈ acc, WSide s) → (∀ s ∈ S, WSide s) ∧ S ≠ [] ∧ AllOk r := by
  intro f
  induction f with
  | zero => intro l acc S r h; cases h
  | succ f ih =>
    intro l acc S r h hs ha
    obtain ⟨t, r1, h1, h2⟩ := Pr.bind_okW (show (takeP [4, 5] (restL l)).bind _ = _ from h)
    obtain ⟨q1, q2⟩ := syms_well hs
    obtain ⟨_, s1, _⟩ := takeP_well h1 q2
    have hnew : ∀ s ∈ acc ++ [(⟨headT l, symsL l⟩ : Side)], WSide s := fun s hm => by
      rcases List.mem_append.1 hm with hm | hm
      · exact ha s hm
      · rw [List.mem_singleton] at hm
        subst hm
        exact q1
    split at h2
    · injection h2 with h5 h6
      subst h5 h6
      exact ⟨hnew, by simp, s1⟩
    · exact ih _ _ _ _ h2 s1 hnew

theorem ruleP_well {f : Nat} {l r : List Tok} {R : Rul} (h : ruleP f l = .ok R r) (hs : AllOk l) : WRul R ∧ AllOk r := by
  obtain ⟨left, r1, h1, h2⟩ := Pr.bind_okW (show (takeP [1] l).bind _ = _ from h)
  obtain ⟨k1, s1, e1⟩ := takeP_well h1 hs
  obtain ⟨c, r2, h3, h4⟩ := Pr.bind_okW h2
  obtain ⟨_, s2, _⟩ := takeP_well h3 s1
  obtain ⟨S, r3, h5, h6⟩ := Pr.bind_okW h4
  obtain ⟨a, b, c3⟩ := sidesP_well f r2 [] S r3 h5 s2 (fun s hm => by cases hm)
  injection h6 with h7 h8
  subst h7 h8
  exact ⟨⟨⟨by simpa using e1, k1⟩, b, a⟩, c3⟩

theorem declsP_well : ∀ (f : Nat) (l : List Tok) (acc D : List Decl) (r : List Tok), declsP f l acc = .ok D r → AllOk l → (∀ d ∈ acc, WDecl d) → (∀ d ∈ D, WDecl d) ∧ AllOk r := by
  intro f
  induction f with
  | zero => intro l acc S r h; cases h
  | succ f ih =>
    intro l acc D r h hs ha
    unfold declsP at h
    split at h
    · injection h with h5 h6
      subst h5 h6
      exact ⟨ha, hs⟩
    · obtain ⟨d, r1, h1, h2⟩ := Pr.bind_okW h
      obtain ⟨k1, s1⟩ := declP_well h1 hs
      exact ih _ _ _ _ h2 s1 (fun x hm => by
        rcases List.mem_append.1 hm with hm | hm
        · exact ha x hm
        · rw [List.mem_singleton] at hm
          subst hm
          exact k1)

theorem rulesP_well : ∀ (f : Nat) (l : List Tok) (acc D : List Rul) (r : List Tok), rulesP f l acc = .ok D r → AllOk l → acc ≠ [] → (∀ d ∈ acc, WRul d) → (∀ d ∈ D, WRul d) ∧ D ≠ [] := by
  intro f
  induction f with
  | zero => intro l acc S r h; cases h
  | succ f ih =>
    intro l acc D r h hs hne ha
    unfold rulesP at h
    split at h
    · injection h with h5 h6
      subst h5 h6
      exact ⟨ha, hne⟩
    · obtain ⟨d, r1, h1, h2⟩ := Pr.bind_okW h
      obtain ⟨k1, s1⟩ := ruleP_well h1 hs
      exact ih _ _ _ _ h2 s1 (by simp) (fun x hm => by
        rcases List.mem_append.1 hm with hm | hm
        · exact ha x hm
        · rw [List.mem_singleton] at hm
          subst hm
          exact k1)

theorem sourceP_well {f : Nat} {l r : List Tok} {src : Src} (h : sourceP f l = .ok src r) (hs : AllOk l) : WSrc src := by
  obtain ⟨D, r1, h1, h2⟩ := Pr.bind_okW h
  obtain ⟨d1, s1⟩ := declsP_well f l [] D r1 h1 hs (fun d hm => by cases hm)
  obtain ⟨m, r2, h3, h4⟩ := Pr.bind_okW h2
  obtain ⟨_, s2, _⟩ := takeP_well h3 s1
  obtain ⟨R, r3, h5, h6⟩ := Pr.bind_okW h4
  obtain ⟨k1, s3⟩ := ruleP_well h5 s2
  obtain ⟨Rs, r4, h7, h8⟩ := Pr.bind_okW h6
  obtain ⟨k2, k3⟩ := rulesP_well f r3 [R] Rs r4 h7 s3 (by simp) (fun x hm => by
    rw [List.mem_singleton] at hm
    subst hm
    exact k1)
  injection h8 with h9 h10
  subst h9
  exact ⟨d1, k3, k2⟩

end Go.Proofs.Ytimfiaphhomelaa.Rd
