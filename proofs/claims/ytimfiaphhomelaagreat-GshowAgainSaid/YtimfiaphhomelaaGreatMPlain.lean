/-
  No error of the plain parser or maker has the number 0. No program in it.
  The tokens of a text end with the end, are no more than its bytes and one, and none is longer than it. No program in it.
  Tokens are well formed, and so is what the plain parser makes of them. No program in it.
  What the plain maker makes is a valid grammar, and its nonterminals are ordered. No program in it.
  The tokens of a text that is put together of pieces. No program in it.
  What the plain parser makes of the text of a grammar. No program in it.
  The text of a valid and ordered grammar is read as that grammar. No program in it.
-/
import Derived.Test.YtimfiaphhomelaaGreatGreadPlain
import Derived.Test.YtimfiaphhomelaaGreatGramPlain
import Derived.Test.YtimfiaphhomelaaGreatGreadMk
import Derived.Test.YtimfiaphhomelaaGreatGshowPlain
namespace Go.Proofs.YtimfiaphhomelaaGreat.Rd
open Go.Proofs.YtimfiaphhomelaaGreat.Tk (Tok Res lexL mk stepL_tok Lexes)
set_option linter.unusedVariables false
set_option linter.unusedSimpArgs false

theorem mk_size (k : Int) (l : List UInt8) (n a : Nat) : (mk k l n a).s.size ≤ l.length := by
  show (l.take n).toArray.size ≤ l.length
  simp
  omega

theorem lexL_ok : ∀ (f : Nat) (l : List UInt8) (a : Nat) (T : List Tok), lexL f l a = some (.ok T) → EndT T ∧ T.length ≤ l.length + 1 ∧ ∀ t ∈ T, t.s.size ≤ l.length := by
  intro f
  induction f with
  | zero => intro l a T h; simp [lexL] at h
  | succ f ih =>
    intro l a T h
    unfold lexL at h
    cases hs : Tk.stepL l with
    | bad e p => rw [hs] at h; simp at h
    | tok k n =>
      rw [hs] at h
      have ht := stepL_tok hs
      simp only at h
      by_cases h0 : k = 0
      · simp only [h0, if_true, Option.some.injEq, Res.ok.injEq] at h
        subst h
        refine ⟨rfl, by simp, fun t hm => ?_⟩
        rw [List.mem_singleton] at hm
        subst hm
        exact mk_size _ _ _ _
      · obtain ⟨_, hn1, hn2⟩ : ¬ k = 0 ∧ 1 ≤ n ∧ n ≤ l.length := by
          rcases ht with h1 | h1
          · exact absurd h1.1 h0
          · exact h1
        have hd : (l.drop n).length = l.length - n := List.length_drop ..
        by_cases h1 : k = -1
        · simp only [h0, h1, if_false, if_true] at h
          obtain ⟨e1, e2, e3⟩ := ih _ _ _ (by simpa [h1] using h)
          exact ⟨e1, by omega, fun t hm => by have := e3 t hm; omega⟩
        · simp only [h0, h1, if_false] at h
          obtain ⟨q, hq, hr⟩ := Option.map_eq_some_iff.1 h
          cases q with
          | bad e p => simp [Res.add] at hr
          | ok U =>
            simp only [Res.add, Res.ok.injEq] at hr
            subst hr
            obtain ⟨e1, e2, e3⟩ := ih _ _ _ hq
            refine ⟨?_, by simp; omega, fun t hm => ?_⟩
            · cases U with
              | nil => exact absurd e1 id
              | cons u U => exact ⟨h0, e1⟩
            · rcases List.mem_cons.1 (by simpa using hm) with rfl | hm
              · exact mk_size _ _ _ _
              · have := e3 t hm; omega

theorem lexes_ok {l : List UInt8} {T : List Tok} (h : Lexes l (.ok T)) : EndT T ∧ T.length ≤ 8193 ∧ ∀ t ∈ T, t.s.size ≤ 8192 := by
  unfold Lexes at h
  split at h
  · cases h
  · obtain ⟨f, hf⟩ := h
    obtain ⟨a, b, c⟩ := lexL_ok f l 0 T hf
    exact ⟨a, by omega, fun t ht => by have := c t ht; omega⟩

end Go.Proofs.YtimfiaphhomelaaGreat.Rd

namespace Go.Proofs.YtimfiaphhomelaaGreat.Rd
open Go.Proofs.YtimfiaphhomelaaGreat.Tk (Tok Res lexL mk stepL stepL_tok Lexes)
set_option linter.unusedVariables false
set_option linter.unusedSimpArgs false

/-- A name is a plain name; a quoted token is just one quoted token. -/
def TokOk (t : Tok) : Prop := (t.k = 1 → Gr.plnS t.s = true) ∧ (t.k = 2 → Gr.quoS t.s = true)

theorem namL_ok {c : UInt8} {r : List UInt8} {k : Int} {n : Nat} (hl : Tk.letB c = true) (h : Tk.namL (c :: r) = .tok k n) (a : Nat) : k = 1 ∧ Gr.plnS (mk k (c :: r) n a).s = true := by
  unfold Tk.namL at h
  split at h
  · cases h
  · rename_i hn
    injection h with e1 e2
    subst e1 e2
    refine ⟨rfl, ?_⟩
    have hsz : ((c :: r).take (Tk.spanL Tk.inNB (c :: r))).length ≤ 24 := by
      rw [List.length_take]
      omega
    show (decide ((⟨((c :: r).take (Tk.spanL Tk.inNB (c :: r))).toArray⟩ : ByteArray).size ≤ 24) && Ch.namB ((c :: r).take (Tk.spanL Tk.inNB (c :: r)))) = true
    rw [Bool.and_eq_true, decide_eq_true_iff]
    refine ⟨hsz, ?_⟩
    rw [Tk.spanL_take]
    have hc : Tk.inNB c = true := by
      unfold Tk.letB at hl
      unfold Tk.inNB Ch.inN
      rw [hl]
      rfl
    rw [List.takeWhile_cons, if_pos hc]
    unfold Tk.letB at hl
    show (Ch.cb c == 4 && (r.takeWhile Tk.inNB).all fun c => Ch.inN (Ch.cb c)) = true
    rw [hl, Bool.true_and, List.all_eq_true]
    intro x hx
    exact List.all_eq_true.1 (List.all_takeWhile (p := Tk.inNB) (l := r)) x hx

theorem quoL_ok {r : List UInt8} {k : Int} {n : Nat} (h : Tk.quoL r 1 = .tok k n) (a : Nat) : k = 2 ∧ Gr.quoS (mk k (39 :: r) n a).s = true := by
  obtain ⟨g1, g2, g3, g4, g5, g6, g7, g8⟩ := Tk.quoL_tok (Nat.le_refl _) h
  refine ⟨g1, ?_⟩
  have hsz : (mk k (39 :: r) n a).s.size = n := by
    show ((39 :: r).take n).toArray.size = n
    simp
    omega
  have hget : ∀ j (hj : j < (mk k (39 :: r) n a).s.size), ((mk k (39 :: r) n a).s[j]'hj) = (39 :: r)[j]'(by simp; omega) := fun j hj => by
    have e : ((mk k (39 :: r) n a).s[j]'hj) = ((39 :: r).take n)[j]'(by simp; omega) := rfl
    rw [e, List.getElem_take]
  unfold Gr.quoS
  rw [@decide_eq_true_iff _ (Classical.propDecidable _)]
  refine ⟨⟨by omega, by rw [hget]; rfl⟩, n - 1, ⟨by omega, by omega, fun j hj h1 h2 => ?_, ⟨by omega, ?_⟩⟩, by omega⟩
  · rw [hget]
    obtain ⟨i, rfl⟩ : ∃ i, j = i + 1 := ⟨j - 1, by omega⟩
    have := g6 i (by omega) (by omega)
    unfold Gr.insB
    rw [decide_eq_true_iff]
    simp only [List.getElem_cons_succ]
    omega
  · rw [hget]
    obtain ⟨m, hm⟩ : ∃ m, n - 1 = m + 1 := ⟨n - 1 - 1, by omega⟩
    simp only [hm, List.getElem_cons_succ]
    simp only [hm, Nat.add_sub_cancel] at g8
    exact g8

theorem step_ok {l : List UInt8} {k : Int} {n : Nat} (h : stepL l = .tok k n) (a : Nat) : TokOk (mk k l n a) := by
  have other : ∀ {k' : Int} {n' : Nat}, ¬ k' = 1 → ¬ k' = 2 → Tk.Step.tok k' n' = .tok k n → TokOk (mk k l n a) := fun h1 h2 e => by
    injection e with e1 e2
    subst e1 e2
    exact ⟨fun e => absurd e h1, fun e => absurd e h2⟩
  cases l with
  | nil => exact other (by decide) (by decide) h
  | cons c r =>
    simp only [stepL] at h
    split at h
    · exact other (by decide) (by decide) h
    split at h
    · exact other (by decide) (by decide) h
    split at h
    · exact other (by decide) (by decide) h
    split at h
    · exact other (by decide) (by decide) h
    split at h
    · unfold Tk.slaL at h
      split at h
      · unfold Tk.comL at h
        split at h
        · cases h
        · exact other (by decide) (by decide) h
      · cases h
    split at h
    · unfold Tk.pctL at h
      split at h
      · exact other (by decide) (by decide) h
      · split at h
        · exact other (by decide) (by decide) h
        · split at h
          · exact other (by decide) (by decide) h
          · cases h
    split at h
    · rename_i hc
      subst hc
      obtain ⟨rfl, hq⟩ := quoL_ok h a
      exact ⟨fun e => absurd e (show ¬ (2 : Int) = 1 by decide), fun _ => hq⟩
    split at h
    · rename_i hl
      obtain ⟨rfl, hq⟩ := namL_ok hl h a
      exact ⟨fun _ => hq, fun e => absurd e (show ¬ (1 : Int) = 2 by decide)⟩
    · cases h

def AllOk (l : List Tok) : Prop := ∀ t ∈ l, TokOk t

theorem lexL_well : ∀ (f : Nat) (l : List UInt8) (a : Nat) (T : List Tok), lexL f l a = some (.ok T) → AllOk T := by
  intro f
  induction f with
  | zero => intro l a T h; simp [lexL] at h
  | succ f ih =>
    intro l a T h
    unfold lexL at h
    cases hs : stepL l with
    | bad e p => rw [hs] at h; simp at h
    | tok k n =>
      rw [hs] at h
      have ht := step_ok hs a
      simp only at h
      by_cases h0 : k = 0
      · simp only [h0, if_true, Option.some.injEq, Res.ok.injEq] at h
        subst h
        intro t hm
        rw [List.mem_singleton] at hm
        subst hm
        exact ⟨fun e => absurd e (show ¬ (0 : Int) = 1 by decide), fun e => absurd e (show ¬ (0 : Int) = 2 by decide)⟩
      · by_cases h1 : k = -1
        · exact ih _ _ _ (by simpa [h1] using h)
        · simp only [h0, h1, if_false] at h
          obtain ⟨q, hq, hr⟩ := Option.map_eq_some_iff.1 h
          cases q with
          | bad e p => simp [Res.add] at hr
          | ok U =>
            simp only [Res.add, Res.ok.injEq] at hr
            subst hr
            intro t hm
            rcases List.mem_cons.1 (by simpa using hm) with rfl | hm
            · exact ht
            · exact ih _ _ _ hq t hm

theorem lexes_well {l : List UInt8} {T : List Tok} (h : Lexes l (.ok T)) : AllOk T := by
  unfold Lexes at h
  split at h
  · cases h
  · obtain ⟨f, hf⟩ := h
    exact lexL_well f l 0 T hf

/-! ### The parser -/

def WSide (s : Side) : Prop := ∀ t ∈ s.syms, symB t = true ∧ TokOk t
def WDecl (d : Decl) : Prop := ¬ d.mark.k = 8 → ∀ t ∈ d.names, symB t = true ∧ TokOk t
structure WRul (R : Rul) : Prop where
  left : R.left.k = 1 ∧ TokOk R.left
  some : R.sides ≠ []
  sides : ∀ s ∈ R.sides, WSide s
structure WSrc (src : Src) : Prop where
  decls : ∀ d ∈ src.decls, WDecl d
  some : src.rules ≠ []
  rules : ∀ R ∈ src.rules, WRul R

theorem Pr.bind_okW {α β : Type} {x : Pr α} {f : α → List Tok → Pr β} {b : β} {r : List Tok} (h : x.bind f = .ok b r) : ∃ a r1, x = .ok a r1 ∧ f a r1 = .ok b r := by
  cases x with
  | ok a r1 => exact ⟨a, r1, rfl, h⟩
  | no e q => cases h
  | out => cases h

theorem takeP_well {ks : List Int} {l r : List Tok} {t : Tok} (h : takeP ks l = .ok t r) (hs : AllOk l) : TokOk t ∧ AllOk r ∧ ks.contains t.k = true := by
  obtain ⟨rfl, hk⟩ := takeP_ok h
  exact ⟨hs t (List.mem_cons_self ..), fun y hy => hs y (List.mem_cons_of_mem _ hy), hk⟩

theorem syms_well {l : List Tok} (hs : AllOk l) : (∀ t ∈ symsL l, symB t = true ∧ TokOk t) ∧ AllOk (restL l) :=
  ⟨fun t h => ⟨List.all_eq_true.1 (List.all_takeWhile (p := symB) (l := l)) t h, hs t ((List.takeWhile_sublist _).subset h)⟩, fun t h => hs t ((List.dropWhile_sublist _).subset h)⟩

theorem declP_well {l r : List Tok} {d : Decl} (h : declP l = .ok d r) (hs : AllOk l) : WDecl d ∧ AllOk r := by
  obtain ⟨m, r1, h1, h2⟩ := Pr.bind_okW (show (takeP [7, 8] l).bind _ = _ from h)
  obtain ⟨_, s1, _⟩ := takeP_well h1 hs
  split at h2
  · rename_i hm
    obtain ⟨n, r2, h3, h4⟩ := Pr.bind_okW h2
    obtain ⟨k1, s2, _⟩ := takeP_well h3 s1
    injection h4 with h5 h6
    subst h5 h6
    exact ⟨fun hn => absurd hm hn, s2⟩
  · obtain ⟨n, r2, h3, h4⟩ := Pr.bind_okW h2
    obtain ⟨k1, s2, kk⟩ := takeP_well h3 s1
    obtain ⟨q1, q2⟩ := syms_well s2
    injection h4 with h5 h6
    subst h5 h6
    refine ⟨fun _ t ht => ?_, q2⟩
    rcases List.mem_cons.1 ht with rfl | ht
    · refine ⟨?_, k1⟩
      simpa [symB] using kk
    · exact q1 t ht

theorem sidesP_well : ∀ (f : Nat) (l : List Tok) (acc S : List Side) (r : List Tok), sidesP f l acc = .ok S r → AllOk l → (∀ s ∈ acc, WSide s) → (∀ s ∈ S, WSide s) ∧ S ≠ [] ∧ AllOk r := by
  intro f
  induction f with
  | zero => intro l acc S r h; cases h
  | succ f ih =>
    intro l acc S r h hs ha
    obtain ⟨t, r1, h1, h2⟩ := Pr.bind_okW (show (takeP [4, 5] (restL l)).bind _ = _ from h)
    obtain ⟨q1, q2⟩ := syms_well hs
    obtain ⟨_, s1, _⟩ := takeP_well h1 q2
    have hnew : ∀ s ∈ acc ++ [(⟨headT l, symsL l⟩ : Side)], WSide s := fun s hm => by
      rcases List.mem_append.1 hm with hm | hm
      · exact ha s hm
      · rw [List.mem_singleton] at hm
        subst hm
        exact q1
    split at h2
    · injection h2 with h5 h6
      subst h5 h6
      exact ⟨hnew, by simp, s1⟩
    · exact ih _ _ _ _ h2 s1 hnew

theorem ruleP_well {f : Nat} {l r : List Tok} {R : Rul} (h : ruleP f l = .ok R r) (hs : AllOk l) : WRul R ∧ AllOk r := by
  obtain ⟨left, r1, h1, h2⟩ := Pr.bind_okW (show (takeP [1] l).bind _ = _ from h)
  obtain ⟨k1, s1, e1⟩ := takeP_well h1 hs
  obtain ⟨c, r2, h3, h4⟩ := Pr.bind_okW h2
  obtain ⟨_, s2, _⟩ := takeP_well h3 s1
  obtain ⟨S, r3, h5, h6⟩ := Pr.bind_okW h4
  obtain ⟨a, b, c3⟩ := sidesP_well f r2 [] S r3 h5 s2 (fun s hm => by cases hm)
  injection h6 with h7 h8
  subst h7 h8
  exact ⟨⟨⟨by simpa using e1, k1⟩, b, a⟩, c3⟩

theorem declsP_well : ∀ (f : Nat) (l : List Tok) (acc D : List Decl) (r : List Tok), declsP f l acc = .ok D r → AllOk l → (∀ d ∈ acc, WDecl d) → (∀ d ∈ D, WDecl d) ∧ AllOk r := by
  intro f
  induction f with
  | zero => intro l acc S r h; cases h
  | succ f ih =>
    intro l acc D r h hs ha
    unfold declsP at h
    split at h
    · injection h with h5 h6
      subst h5 h6
      exact ⟨ha, hs⟩
    · obtain ⟨d, r1, h1, h2⟩ := Pr.bind_okW h
      obtain ⟨k1, s1⟩ := declP_well h1 hs
      exact ih _ _ _ _ h2 s1 (fun x hm => by
        rcases List.mem_append.1 hm with hm | hm
        · exact ha x hm
        · rw [List.mem_singleton] at hm
          subst hm
          exact k1)

theorem rulesP_well : ∀ (f : Nat) (l : List Tok) (acc D : List Rul) (r : List Tok), rulesP f l acc = .ok D r → AllOk l → acc ≠ [] → (∀ d ∈ acc, WRul d) → (∀ d ∈ D, WRul d) ∧ D ≠ [] := by
  intro f
  induction f with
  | zero => intro l acc S r h; cases h
  | succ f ih =>
    intro l acc D r h hs hne ha
    unfold rulesP at h
    split at h
    · injection h with h5 h6
      subst h5 h6
      exact ⟨ha, hne⟩
    · obtain ⟨d, r1, h1, h2⟩ := Pr.bind_okW h
      obtain ⟨k1, s1⟩ := ruleP_well h1 hs
      exact ih _ _ _ _ h2 s1 (by simp) (fun x hm => by
        rcases List.mem_append.1 hm with hm | hm
        · exact ha x hm
        · rw [List.mem_singleton] at hm
          subst hm
          exact k1)

theorem sourceP_well {f : Nat} {l r : List Tok} {src : Src} (h : sourceP f l = .ok src r) (hs : AllOk l) : WSrc src := by
  obtain ⟨D, r1, h1, h2⟩ := Pr.bind_okW h
  obtain ⟨d1, s1⟩ := declsP_well f l [] D r1 h1 hs (fun d hm => by cases hm)
  obtain ⟨m, r2, h3, h4⟩ := Pr.bind_okW h2
  obtain ⟨_, s2, _⟩ := takeP_well h3 s1
  obtain ⟨R, r3, h5, h6⟩ := Pr.bind_okW h4
  obtain ⟨k1, s3⟩ := ruleP_well h5 s2
  obtain ⟨Rs, r4, h7, h8⟩ := Pr.bind_okW h6
  obtain ⟨k2, k3⟩ := rulesP_well f r3 [R] Rs r4 h7 s3 (by simp) (fun x hm => by
    rw [List.mem_singleton] at hm
    subst hm
    exact k1)
  injection h8 with h9 h10
  subst h9
  exact ⟨d1, k3, k2⟩

end Go.Proofs.YtimfiaphhomelaaGreat.Rd

namespace Go.Proofs.YtimfiaphhomelaaGreat.Rd
open Go.Proofs.YtimfiaphhomelaaGreat.Tk (Tok)
set_option linter.unusedVariables false
set_option linter.unusedSimpArgs false

theorem Mo.bind_okG {α β : Type} {x : Mo α} {f : α → Mo β} {b : β} (h : x.bind f = .ok b) : ∃ a, x = .ok a ∧ f a = .ok b := by
  cases x with
  | ok a => exact ⟨a, rfl, h⟩
  | no e q => cases h

/-- What is so of the names ahead of the rules. -/
structure Nms (L : List ByteArray) : Prop where
  once : L.Nodup
  form : ∀ s ∈ L, Gr.plnS s = true ∨ Gr.quoS s = true
  few : L.length ≤ 120

theorem nodup_snoc {L : List ByteArray} {s : ByteArray} (h : L.Nodup) (hn : It.isIn L s = false) : (L ++ [s]).Nodup := by
  have hm : s ∉ L := fun hm => by rw [It.isIn_mem.2 hm] at hn; cases hn
  refine List.nodup_append.2 ⟨h, by simp, fun a ha b hb => ?_⟩
  simp only [List.mem_singleton] at hb
  subst hb
  exact fun e => hm (e ▸ ha)

theorem putM_ok {L L' : List ByteArray} {t : Tok} (h : putM L t = .ok L') : (L' = L ∧ It.isIn L t.s = true) ∨ (L' = L ++ [t.s] ∧ It.isIn L t.s = false ∧ L.length < 120) := by
  unfold putM at h
  split at h
  · rename_i he
    injection h with h
    subst h
    unfold It.putE at he
    unfold It.putL
    split at he
    · rename_i ho
      rw [if_pos ho]
      split at he
      · rename_i hi
        rw [if_pos hi]
        exact .inl ⟨rfl, hi⟩
      · rename_i hi
        rw [if_neg hi]
        split at he
        · cases he
        · rename_i hn
          rw [if_neg hn]
          exact .inr ⟨rfl, by simpa using hi, by omega⟩
    · cases he
  · cases h

theorem putM_in {L L' : List ByteArray} {t : Tok} (h : putM L t = .ok L') : t.s ∈ L' ∧ ∀ s ∈ L, s ∈ L' := by
  rcases putM_ok h with ⟨rfl, hi⟩ | ⟨rfl, hi, _⟩
  · exact ⟨It.isIn_mem.1 hi, fun s hs => hs⟩
  · exact ⟨by simp, fun s hs => by simp [hs]⟩

theorem Nms.put {L L' : List ByteArray} {t : Tok} (hL : Nms L) (h : putM L t = .ok L') (ht : Gr.plnS t.s = true ∨ Gr.quoS t.s = true) : Nms L' := by
  rcases putM_ok h with ⟨rfl, hi⟩ | ⟨rfl, hi, hn⟩
  · exact hL
  · refine ⟨nodup_snoc hL.once hi, fun s hs => ?_, by simp; omega⟩
    rcases List.mem_append.1 hs with hs | hs
    · exact hL.form s hs
    · rw [List.mem_singleton] at hs
      subst hs
      exact ht

theorem tok_form {t : Tok} (h : symB t = true ∧ TokOk t) : Gr.plnS t.s = true ∨ Gr.quoS t.s = true := by
  obtain ⟨h1, h2⟩ := h
  simp only [symB, Bool.or_eq_true, beq_iff_eq] at h1
  rcases h1 with h1 | h1
  · exact .inl (h2.1 h1)
  · exact .inr (h2.2 h1)

theorem namesM_ok : ∀ (T : List Tok) (L L' : List ByteArray), namesM L T = .ok L' → Nms L → (∀ t ∈ T, symB t = true ∧ TokOk t) → Nms L' := by
  intro T
  induction T with
  | nil => intro L L' h hL _; injection h with h; subst h; exact hL
  | cons t r ih =>
    intro L L' h hL hT
    unfold namesM at h
    split at h
    · cases h
    · obtain ⟨L1, h1, h2⟩ := Mo.bind_okG h
      exact ih _ _ h2 (hL.put h1 (tok_form (hT t (List.mem_cons_self ..)))) fun x hx => hT x (List.mem_cons_of_mem _ hx)

/-- How far the maker has come: the rules behind it, each with its left side. -/
structure Inv (lf : List ByteArray) (st : MSt) (D : List (Tok × Side)) : Prop where
  one : Nms st.L1
  sta : isEmp st.start = true ∨ st.start ∈ lf
  l2 : st.L2.Nodup
  f2 : ∀ s ∈ st.L2, Gr.plnS s = true
  n2 : st.L2.length ≤ 120
  off : ∀ s ∈ st.L2, s ∉ st.L1
  tx : st.texts = D.map fun d => joinedS d.1 d.2
  tn : st.texts.Nodup
  t3 : st.texts.length ≤ 300
  sy : ∀ d ∈ D, d.2.syms.length ≤ 8 ∧ ∀ t ∈ d.2.syms, t.s ∈ st.L1 ∨ t.s ∈ lf
  le : ∀ d ∈ D, d.1.s ∈ st.L2
  od : ∀ j (hj : j < D.length), ∀ i (hi : i < st.L2.length), i < It.num st.L2 D[j].1.s → ∃ j', ∃ hj' : j' < D.length, j' < j ∧ D[j'].1.s = st.L2[i]

theorem declM_ok {lf : List ByteArray} {st st' : MSt} {d : Decl} (h : declM lf st d = .ok st') (hi : Inv lf st []) (h2 : st.L2 = []) (hd : WDecl d) : Inv lf st' [] ∧ st'.L2 = [] := by
  unfold declM at h
  split at h
  · split at h
    · cases h
    · split at h
      · cases h
      · rename_i hx
        injection h with h
        subst h
        exact ⟨{ hi with sta := .inr (It.isIn_mem.1 (by simpa using hx)) }, h2⟩
  · rename_i hk
    obtain ⟨L, h1, h3⟩ := Mo.bind_okG h
    injection h3 with h3
    subst h3
    refine ⟨{ hi with one := namesM_ok _ _ _ h1 hi.one (hd hk), off := ?_, sy := ?_ }, h2⟩
    · intro s hs
      simp only [h2] at hs
      cases hs
    · intro d hd
      cases hd

theorem declsM_ok {lf : List ByteArray} : ∀ (D : List Decl) (st st' : MSt), declsM lf st D = .ok st' → Inv lf st [] → st.L2 = [] → (∀ d ∈ D, WDecl d) → Inv lf st' [] ∧ st'.L2 = [] := by
  intro D
  induction D with
  | nil => intro st st' h hi h2 _; injection h with h; subst h; exact ⟨hi, h2⟩
  | cons d r ih =>
    intro st st' h hi h2 hD
    obtain ⟨s1, h1, h3⟩ := Mo.bind_okG (show (declM lf st d).bind _ = _ from h)
    obtain ⟨a, b⟩ := declM_ok h1 hi h2 (hD d (List.mem_cons_self ..))
    exact ih _ _ h3 a b fun x hx => hD x (List.mem_cons_of_mem _ hx)

/-- What the symbols of a side add: quoted tokens alone. -/
theorem symsM_ok {lf : List ByteArray} : ∀ (T : List Tok) (L L' : List ByteArray) (i : Nat), symsM lf L T i = .ok L' → Nms L → (∀ t ∈ T, symB t = true ∧ TokOk t) → (i ≤ 8) →
    Nms L' ∧ i + T.length ≤ 8 ∧ (∀ s ∈ L, s ∈ L') ∧ (∀ s ∈ L', s ∈ L ∨ Gr.quoS s = true) ∧ ∀ t ∈ T, t.s ∈ L' ∨ t.s ∈ lf := by
  intro T
  induction T with
  | nil => intro L L' i h hL _ hi; injection h with h; subst h; exact ⟨hL, by simpa using hi, fun s hs => hs, fun s hs => .inl hs, fun t ht => by cases ht⟩
  | cons t r ih =>
    intro L L' i h hL hT hi
    obtain ⟨L1, h1, h2⟩ := Mo.bind_okG (show (symM lf L t i).bind _ = _ from h)
    have htt := hT t (List.mem_cons_self ..)
    have hrr : ∀ x ∈ r, symB x = true ∧ TokOk x := fun x hx => hT x (List.mem_cons_of_mem _ hx)
    unfold symM at h1
    split at h1
    · cases h1
    · rename_i hu
      split at h1
      · cases h1
      · rename_i h8
        split at h1
        · rename_i hk
          obtain ⟨a, b, c, d, e⟩ := ih _ _ _ h2 (hL.put h1 (tok_form htt)) hrr (by omega)
          obtain ⟨p1, p2⟩ := putM_in h1
          refine ⟨a, by simp; omega, fun s hs => c s (p2 s hs), fun s hs => ?_, fun x hx => ?_⟩
          · rcases d s hs with hs | hs
            · rcases putM_ok h1 with ⟨rfl, _⟩ | ⟨rfl, _⟩
              · exact .inl hs
              · rcases List.mem_append.1 hs with hs | hs
                · exact .inl hs
                · rw [List.mem_singleton] at hs
                  subst hs
                  exact .inr (htt.2.2 hk)
            · exact .inr hs
          · rcases List.mem_cons.1 hx with rfl | hx
            · exact .inl (c _ p1)
            · exact e x hx
        · rename_i hk
          injection h1 with h1
          subst h1
          obtain ⟨a, b, c, d, e⟩ := ih _ _ _ h2 hL hrr (by omega)
          refine ⟨a, by simp; omega, c, d, fun x hx => ?_⟩
          rcases List.mem_cons.1 hx with rfl | hx
          · have hk1 : x.k = 1 := by
              have := htt.1
              simp only [symB, Bool.or_eq_true, beq_iff_eq] at this
              omega
            simp only [unkB, hk1, beq_self_eq_true, Bool.true_and, Bool.and_eq_true, Bool.not_eq_true', not_and, Bool.not_eq_false] at hu
            by_cases hin : It.isIn L x.s = true
            · exact .inl (c _ (It.isIn_mem.1 hin))
            · exact .inr (It.isIn_mem.1 (hu (by simpa using hin)))
          · exact e x hx

theorem pln_quo {s : ByteArray} (h : Gr.plnS s = true) : Gr.quoS s = false := by
  apply Gr.quo_no
  rintro ⟨h0, h1⟩
  unfold Gr.plnS at h
  rw [Bool.and_eq_true] at h
  have h2 := h.2
  obtain ⟨⟨l⟩⟩ := s
  cases l with
  | nil => cases h2
  | cons c r =>
    have hc : c.toNat = 39 := h1
    have h3 : (Ch.cb c == 4 && r.all fun c => Ch.inN (Ch.cb c)) = true := h2
    rw [Bool.and_eq_true] at h3
    have h4 := h3.1
    unfold Ch.cb at h4
    rw [hc] at h4
    exact absurd h4 (by decide)

theorem num_same {L : List ByteArray} (h : L.Nodup) {i : Nat} (hi : i < L.length) : It.num L L[i] = i := by
  have hp := It.pl_at (L := L) (s := L[i]) hi rfl (fun j hj e => absurd ((List.getElem_inj h).1 e) (by omega))
  simp [It.num, hp]

/-- A side more. -/
theorem sideM_ok {lf : List ByteArray} {left : Tok} {st st' : MSt} {s : Side} {D : List (Tok × Side)} (h : sideM lf left st s = .ok st') (hi : Inv lf st D) (hs : WSide s) (hl : left.s ∈ st.L2)
    (hru : ∀ x ∈ st.L2, x = left.s ∨ ∃ d ∈ D, d.1.s = x) : Inv lf st' (D ++ [(left, s)]) ∧ st'.L2 = st.L2 := by
  unfold sideM at h
  split at h
  · cases h
  · rename_i hx
    split at h
    · cases h
    · split at h
      · cases h
      · rename_i hx3
        obtain ⟨L, h1, h2⟩ := Mo.bind_okG h
        injection h2 with h2
        subst h2
        obtain ⟨a, b, c, d, e⟩ := symsM_ok _ _ _ _ h1 hi.one hs (by omega)
        refine ⟨⟨a, hi.sta, hi.l2, hi.f2, hi.n2, fun x hx2 hm => ?_, ?_, nodup_snoc hi.tn (by simpa using hx), ?_, fun p hp => ?_, fun p hp => ?_, fun j hj i hi2 hlt => ?_⟩, rfl⟩
        · rcases d x hm with hm | hm
          · exact hi.off x hx2 hm
          · have := pln_quo (hi.f2 x hx2)
            rw [hm] at this
            cases this
        · simp only [hi.tx, List.map_append, List.map_cons, List.map_nil]
        · have := hi.t3
          simp
          omega
        · rcases List.mem_append.1 hp with hp | hp
          · obtain ⟨q1, q2⟩ := hi.sy p hp
            refine ⟨q1, fun t ht => ?_⟩
            rcases q2 t ht with q | q
            · exact .inl (c _ q)
            · exact .inr q
          · rw [List.mem_singleton] at hp
            subst hp
            exact ⟨by simpa using b, e⟩
        · rcases List.mem_append.1 hp with hp | hp
          · exact hi.le p hp
          · rw [List.mem_singleton] at hp
            subst hp
            exact hl
        · by_cases hj2 : j < D.length
          · rw [List.getElem_append_left hj2] at hlt
            obtain ⟨j', hj', g1, g2⟩ := hi.od j hj2 i hi2 hlt
            exact ⟨j', by simp; omega, g1, by rw [List.getElem_append_left hj']; exact g2⟩
          · have hje : j = D.length := by simp at hj; omega
            subst hje
            simp only [List.getElem_concat_length] at hlt
            rcases hru _ (List.getElem_mem hi2) with q | ⟨p, hp, q⟩
            · have h3 := num_same hi.l2 hi2
              rw [q] at h3
              omega
            · obtain ⟨j', hj', rfl⟩ := List.mem_iff_getElem.1 hp
              exact ⟨j', by simp; omega, hj', by rw [List.getElem_append_left hj']; exact q⟩

theorem sidesM_ok {lf : List ByteArray} {left : Tok} : ∀ (S : List Side) (st st' : MSt) (D : List (Tok × Side)), sidesM lf left st S = .ok st' → Inv lf st D → (∀ s ∈ S, WSide s) → left.s ∈ st.L2 →
    (∀ x ∈ st.L2, x = left.s ∨ ∃ d ∈ D, d.1.s = x) → Inv lf st' (D ++ S.map fun s => (left, s)) ∧ st'.L2 = st.L2 := by
  intro S
  induction S with
  | nil => intro st st' D h hi _ _ _; injection h with h; subst h; exact ⟨by simpa using hi, rfl⟩
  | cons s r ih =>
    intro st st' D h hi hS hl hru
    obtain ⟨s1, h1, h2⟩ := Mo.bind_okG (show (sideM lf left st s).bind _ = _ from h)
    obtain ⟨a, b⟩ := sideM_ok h1 hi (hS s (List.mem_cons_self ..)) hl hru
    obtain ⟨c, d⟩ := ih _ _ _ h2 a (fun x hx => hS x (List.mem_cons_of_mem _ hx)) (b ▸ hl) (fun x hx => by
      rw [b] at hx
      rcases hru x hx with q | ⟨p, hp, q⟩
      · exact .inl q
      · exact .inr ⟨p, by simp [hp], q⟩)
    refine ⟨?_, d.trans b⟩
    simpa [List.append_assoc] using c

theorem ruleM_ok {lf : List ByteArray} {st st' : MSt} {R : Rul} {D : List (Tok × Side)} (h : ruleM lf st R = .ok st') (hi : Inv lf st D) (hR : WRul R) (hru : ∀ x ∈ st.L2, ∃ d ∈ D, d.1.s = x) :
    Inv lf st' (D ++ R.sides.map fun s => (R.left, s)) ∧ (∀ x ∈ st'.L2, ∃ d ∈ D ++ R.sides.map (fun s => (R.left, s)), d.1.s = x) ∧ (∀ x ∈ st.L2, x ∈ st'.L2) := by
  unfold ruleM at h
  split at h
  · cases h
  · rename_i hx
    obtain ⟨L, h1, h2⟩ := Mo.bind_okG h
    obtain ⟨p1, p2⟩ := putM_in h1
    have hpl := hR.left.2.1 hR.left.1
    have hi2 : Inv lf { st with L2 := L } D := by
      rcases putM_ok h1 with ⟨rfl, _⟩ | ⟨rfl, hn, hl⟩
      · exact hi
      · refine { hi with l2 := nodup_snoc hi.l2 hn, f2 := ?_, n2 := ?_, off := ?_, le := ?_, od := ?_ }
        · intro s hs
          rcases List.mem_append.1 hs with hs | hs
          · exact hi.f2 s hs
          · rw [List.mem_singleton] at hs
            subst hs
            exact hpl
        · simp
          omega
        · intro s hs hm
          rcases List.mem_append.1 hs with hs | hs
          · exact hi.off s hs hm
          · rw [List.mem_singleton] at hs
            subst hs
            exact hx (It.isIn_mem.2 hm)
        · intro d hd
          exact p2 _ (hi.le d hd)
        · intro j hj i hi3 hlt
          have hin := It.isIn_mem.2 (hi.le _ (List.getElem_mem hj))
          simp only [(It.num_snoc_old (s := R.left.s) hin).2] at hlt
          obtain ⟨q1, q2⟩ := It.num_lt hin
          obtain ⟨j', hj', g1, g2⟩ := hi.od j hj i (by omega) hlt
          exact ⟨j', hj', g1, by simp only [List.getElem_append_left (show i < st.L2.length by omega)]; exact g2⟩
    have hru2 : ∀ x ∈ L, x = R.left.s ∨ ∃ d ∈ D, d.1.s = x := fun x hx => by
      rcases putM_ok h1 with ⟨rfl, _⟩ | ⟨rfl, hn, hl⟩
      · exact .inr (hru x hx)
      · rcases List.mem_append.1 hx with hx | hx
        · exact .inr (hru x hx)
        · exact .inl (by simpa using hx)
    obtain ⟨a, b⟩ := sidesM_ok _ _ _ _ h2 hi2 hR.sides p1 hru2
    refine ⟨a, fun x hx => ?_, fun x hx => by rw [b]; exact p2 x hx⟩
    rw [b] at hx
    rcases hru2 x hx with rfl | ⟨d, hd, q⟩
    · cases hs : R.sides with
      | nil => exact absurd hs hR.some
      | cons s r => exact ⟨(R.left, s), by simp, rfl⟩
    · exact ⟨d, by simp [hd], q⟩

theorem rulesM_ok {lf : List ByteArray} : ∀ (Q : List Rul) (st st' : MSt) (D : List (Tok × Side)), rulesM lf st Q = .ok st' → Inv lf st D → (∀ R ∈ Q, WRul R) → (∀ x ∈ st.L2, ∃ d ∈ D, d.1.s = x) →
    Inv lf st' (D ++ Q.flatMap fun R => R.sides.map fun s => (R.left, s)) ∧ (∀ x ∈ st'.L2, ∃ d ∈ D ++ Q.flatMap (fun R => R.sides.map fun s => (R.left, s)), d.1.s = x) := by
  intro Q
  induction Q with
  | nil => intro st st' D h hi _ hru; injection h with h; subst h; exact ⟨by simpa using hi, by simpa using hru⟩
  | cons R r ih =>
    intro st st' D h hi hQ hru
    obtain ⟨s1, h1, h2⟩ := Mo.bind_okG (show (ruleM lf st R).bind _ = _ from h)
    obtain ⟨a, b, _⟩ := ruleM_ok h1 hi (hQ R (List.mem_cons_self ..)) hru
    obtain ⟨c, d⟩ := ih _ _ _ h2 a (fun x hx => hQ x (List.mem_cons_of_mem _ hx)) b
    refine ⟨by simpa [List.flatMap_cons, List.append_assoc] using c, ?_⟩
    simpa [List.flatMap_cons, List.append_assoc] using d

/-- The rows of a source, one behind the other. -/
def rowsOf (src : Src) : List (Tok × Side) := src.rules.flatMap fun R => R.sides.map fun s => (R.left, s)

theorem runM_ok {src : Src} {st : MSt} (h : runM src = .ok st) (hw : WSrc src) : Inv (leftsM src) st (rowsOf src) ∧ (∀ x ∈ st.L2, ∃ d ∈ rowsOf src, d.1.s = x) ∧ ∀ x ∈ leftsM src, x ∈ st.L2 := by
  obtain ⟨s1, h1, h2⟩ := Mo.bind_okG h
  have h0 : Inv (leftsM src) st0 [] := ⟨⟨by simp [st0], by simp [st0], by simp [st0]⟩, .inl rfl, by simp [st0], by simp [st0], by simp [st0], by simp [st0], rfl, by simp [st0], by simp [st0], by simp, by simp, fun j hj => absurd hj (by simp)⟩
  obtain ⟨a, b⟩ := declsM_ok _ _ _ h1 h0 rfl hw.decls
  obtain ⟨c, d⟩ := rulesM_ok _ _ _ _ h2 a hw.rules (fun x hx => by rw [b] at hx; cases hx)
  rw [List.nil_append] at c d
  refine ⟨c, d, fun x hx => ?_⟩
  obtain ⟨R, hR, rfl⟩ := List.mem_map.1 hx
  cases hs : R.sides with
  | nil => exact absurd hs (hw.rules R hR).some
  | cons s r => exact c.le (R.left, s) (List.mem_flatMap.2 ⟨R, hR, by rw [hs]; simp⟩)

theorem nodup_through {α β γ : Type} (f : α → β) (g : α → γ) {D : List α} (h : (D.map g).Nodup) (hfg : ∀ x ∈ D, ∀ y ∈ D, f x = f y → g x = g y) : (D.map f).Nodup := by
  induction D with
  | nil => simp
  | cons a r ih =>
    rw [List.map_cons, List.nodup_cons] at h ⊢
    refine ⟨fun hm => h.1 ?_, ih h.2 fun x hx y hy => hfg x (List.mem_cons_of_mem _ hx) y (List.mem_cons_of_mem _ hy)⟩
    obtain ⟨y, hy, he⟩ := List.mem_map.1 hm
    rw [← hfg y (List.mem_cons_of_mem _ hy) a (List.mem_cons_self ..) he]
    exact List.mem_map_of_mem hy

theorem rules_rows (st : MSt) (src : Src) : src.rules.flatMap (rowsI st) = (rowsOf src).map fun d => (numI st d.1.s, d.2.syms.map fun t => numI st t.s) := by
  unfold rowsOf rowsI
  rw [List.map_flatMap]
  simp [List.map_map, Function.comp_def]

theorem num_range {st : MSt} {s : ByteArray} (h : s ∈ st.L1 ∨ s ∈ st.L2) : ∃ n : Nat, n < st.L1.length + st.L2.length ∧ numI st s = (n : Int) + 1 ∧ (st.L1 ++ st.L2)[n]? = some s := by
  unfold numI
  by_cases h1 : It.isIn st.L1 s = true
  · obtain ⟨a, b⟩ := It.num_lt h1
    refine ⟨It.num st.L1 s, by omega, by rw [if_pos h1], ?_⟩
    rw [List.getElem?_append_left a, List.getElem?_eq_getElem a, b]
  · have h2 : It.isIn st.L2 s = true := by
      rcases h with h | h
      · exact absurd (It.isIn_mem.2 h) h1
      · exact It.isIn_mem.2 h
    obtain ⟨a, b⟩ := It.num_lt h2
    refine ⟨st.L1.length + It.num st.L2 s, by omega, by rw [if_neg h1, It.place_in h2]; omega, ?_⟩
    rw [List.getElem?_append_right (by omega), Nat.add_sub_cancel_left, List.getElem?_eq_getElem a, b]

theorem num_non {st : MSt} {s : ByteArray} (h : s ∈ st.L2) (ho : ∀ s ∈ st.L2, s ∉ st.L1) : numI st s = (st.L1.length : Int) + 1 + (It.num st.L2 s : Int) ∧ It.num st.L2 s < st.L2.length := by
  unfold numI
  rw [if_neg (fun hh => ho s h (It.isIn_mem.1 hh)), It.place_in (It.isIn_mem.2 h)]
  obtain ⟨a, b⟩ := It.num_lt (It.isIn_mem.2 h)
  exact ⟨by omega, a⟩

/-- What is made is valid, its nonterminals are ordered, and it has one. -/
theorem makeM_good {src : Src} {G : Gr.Gram} (h : makeM src = .ok G) (hw : WSrc src) : Gr.checkN G = 0 ∧ Gr.ordB G = true ∧ 0 < G.nons.length := by
  obtain ⟨st, h1, h2⟩ := Mo.bind_okG h
  injection h2 with h2
  obtain ⟨hi, hru, hlf⟩ := runM_ok h1 hw
  have hrows : G.rules = (rowsOf src).map fun d => (numI st d.1.s, d.2.syms.map fun t => numI st t.s) := by rw [← h2]; exact rules_rows st src
  have ht : G.terms = st.L1 := by rw [← h2]; rfl
  have hn : G.nons = st.L2 := by rw [← h2]; rfl
  have hst : G.start = if isEmp st.start then (st.L1.length : Int) + 1 else numI st st.start := by rw [← h2]; rfl
  have hne : 0 < st.L2.length := by
    cases hr : src.rules with
    | nil => exact absurd hr hw.some
    | cons R r => exact List.length_pos_iff.2 (List.ne_nil_of_mem (hlf R.left.s (by unfold leftsM; rw [hr]; simp)))
  have hsym : ∀ s, s ∈ st.L1 ∨ s ∈ leftsM src → s ∈ st.L1 ∨ s ∈ st.L2 := fun s hs => by
    rcases hs with hs | hs
    · exact .inl hs
    · exact .inr (hlf s hs)
  have hname : ∀ s, s ∈ st.L1 ∨ s ∈ st.L2 → Gr.nameS G (numI st s) = s := fun s hs => by
    obtain ⟨n, a, b, c⟩ := num_range hs
    rw [b, Gr.name_in (by unfold Gr.top; rw [ht, hn]; exact a)]
    have : (Gr.names G)[n]? = some s := by unfold Gr.names; rw [ht, hn]; exact c
    exact (List.getElem?_eq_some_iff.1 this).2
  have hmany : Gr.manyB G = false := by
    have a1 := hi.one.few
    have a2 := hi.n2
    have a3 := hi.t3
    rw [hi.tx, List.length_map] at a3
    unfold Gr.manyB
    rw [ht, hn, hrows, List.length_map]
    simp only [Bool.or_eq_false_iff, decide_eq_false_iff_not, List.any_eq_false, decide_eq_true_eq]
    refine ⟨⟨⟨by omega, by omega⟩, by omega⟩, fun r hr => ?_⟩
    obtain ⟨d, hd, rfl⟩ := List.mem_map.1 hr
    have := (hi.sy d hd).1
    simp
    omega
  have hform : Gr.formB G = true := by
    unfold Gr.formB
    rw [ht, hn, Bool.and_eq_true, List.all_eq_true, List.all_eq_true]
    refine ⟨fun s hs => ?_, hi.f2⟩
    rcases hi.one.form s hs with q | q
    · rw [q]; rfl
    · rw [q, Bool.or_true]
  have honce : Gr.onceB G = true := by
    unfold Gr.onceB Gr.names
    rw [ht, hn, decide_eq_true_iff]
    exact List.nodup_append.2 ⟨hi.one.once, hi.l2, fun a ha b hb e => hi.off b hb (e ▸ ha)⟩
  have hleft : ∀ d ∈ rowsOf src, numI st d.1.s = (st.L1.length : Int) + 1 + (It.num st.L2 d.1.s : Int) ∧ It.num st.L2 d.1.s < st.L2.length := fun d hd => num_non (hi.le d hd) hi.off
  have hnon : ∀ s ∈ st.L2, Gr.nonB G (numI st s) = true := fun s hs => by
    obtain ⟨a, b⟩ := num_non hs hi.off
    rw [Gr.nonB_iff, ht, hn]
    omega
  have hknown : Gr.knownB G = true := by
    unfold Gr.knownB
    rw [Bool.and_eq_true, List.all_eq_true]
    constructor
    · rw [hst]
      split
      · rw [Gr.nonB_iff, ht, hn]
        omega
      · rename_i he
        rcases hi.sta with q | q
        · exact absurd q he
        · exact hnon _ (hlf _ q)
    · intro r hr
      rw [hrows] at hr
      obtain ⟨d, hd, rfl⟩ := List.mem_map.1 hr
      rw [Bool.and_eq_true, List.all_eq_true]
      refine ⟨hnon _ (hi.le d hd), fun x hx => ?_⟩
      obtain ⟨t, htt, rfl⟩ := List.mem_map.1 hx
      obtain ⟨n, a, b, _⟩ := num_range (hsym _ ((hi.sy d hd).2 t htt))
      unfold Gr.top
      rw [decide_eq_true_iff, ht, hn, b]
      omega
  have hunlike : Gr.unlikeB G = true := by
    unfold Gr.unlikeB
    rw [decide_eq_true_iff, hrows]
    refine nodup_through _ (fun d => joinedS d.1 d.2) (by rw [← hi.tx]; exact hi.tn) fun x hx y hy he => ?_
    injection he with e1 e2
    have f1 : x.1.s = y.1.s := by rw [← hname x.1.s (.inr (hi.le x hx)), ← hname y.1.s (.inr (hi.le y hy)), e1]
    have back : ∀ z ∈ rowsOf src, z.2.syms.map (·.s) = (z.2.syms.map fun t => numI st t.s).map (Gr.nameS G) := fun z hz => by
      rw [List.map_map]
      refine List.map_congr_left fun t htt => ?_
      exact (hname _ (hsym _ ((hi.sy z hz).2 t htt))).symm
    have f2 : x.2.syms.map (·.s) = y.2.syms.map (·.s) := by rw [back x hx, back y hy, e2]
    unfold joinedS
    rw [f1, f2]
  have hof : ∀ i, i < G.rules.length → ∃ hd : i < (rowsOf src).length, Gr.leftOf G.rules i = numI st (rowsOf src)[i].1.s := fun i hlt => by
    have hd : i < (rowsOf src).length := by simpa [hrows] using hlt
    refine ⟨hd, ?_⟩
    rw [Gr.leftOf_get hlt]
    simp only [hrows, List.getElem_map]
  have hruled : Gr.ruledB G = true := by
    unfold Gr.ruledB
    rw [List.all_eq_true]
    intro i hir
    rw [List.mem_range, hn] at hir
    obtain ⟨d, hd, he⟩ := hru _ (List.getElem_mem hir)
    obtain ⟨j, hj, rfl⟩ := List.mem_iff_getElem.1 hd
    have hj2 : j < G.rules.length := by rw [hrows, List.length_map]; exact hj
    have hm : j ∈ Gr.ofN G ((G.terms.length : Int) + 1 + i) := by
      rw [Gr.mem_ofN]
      refine ⟨hj2, ?_⟩
      obtain ⟨_, q⟩ := hof j hj2
      rw [q, (hleft _ (List.getElem_mem hj)).1, he, num_same hi.l2 hir, ht]
    cases ho : Gr.ofN G ((G.terms.length : Int) + 1 + i) with
    | nil => rw [ho] at hm; cases hm
    | cons a b => rfl
  refine ⟨?_, Gr.ord_true fun j hj i i' hi2 hlt he => ?_, by rw [hn]; exact hne⟩
  · unfold Gr.checkN
    rw [hmany, hform, honce, hknown, hunlike, hruled]
    rfl
  · obtain ⟨hd, q⟩ := hof j hj
    rw [q, (hleft _ (List.getElem_mem hd)).1, ht] at he
    have hnum : It.num st.L2 (rowsOf src)[j].1.s = i := by omega
    rw [hn] at hi2
    obtain ⟨j', hj', g1, g2⟩ := hi.od j hd i' (by omega) (by omega)
    refine ⟨j', g1, ?_⟩
    have hj2 : j' < G.rules.length := by rw [hrows, List.length_map]; exact hj'
    obtain ⟨_, q'⟩ := hof j' hj2
    rw [q', (hleft _ (List.getElem_mem hj')).1, g2, num_same hi.l2 (show i' < st.L2.length by omega), ht]

end Go.Proofs.YtimfiaphhomelaaGreat.Rd

namespace Go.Proofs.YtimfiaphhomelaaGreat.Sw
open Go.Proofs.YtimfiaphhomelaaGreat.Tk (Tok Res lexL stepL Lexes mk)
set_option linter.unusedVariables false
set_option linter.unusedSimpArgs false

/-- A piece of a text: a token's kind (-1: passed over); its bytes. -/
structure Pc where
  k : Int
  l : List UInt8
def txt (P : List Pc) : List UInt8 := P.flatMap (·.l)
/-- The tokens of pieces that begin at a place. -/
def toks : Nat → List Pc → List Tok
  | _, [] => []
  | a, p :: r => (if p.k = -1 then [] else [⟨p.k, ⟨p.l.toArray⟩, a⟩]) ++ toks (a + p.l.length) r

theorem txt_nil : txt [] = [] := rfl
theorem txt_cons (p : Pc) (r : List Pc) : txt (p :: r) = p.l ++ txt r := by simp [txt]
theorem txt_append (P Q : List Pc) : txt (P ++ Q) = txt P ++ txt Q := by simp [txt]
theorem toks_append (a : Nat) (P Q : List Pc) : toks a (P ++ Q) = toks a P ++ toks (a + (txt P).length) Q := by
  induction P generalizing a with
  | nil => simp [toks, txt]
  | cons p r ih =>
    simp only [List.cons_append, toks, ih, txt_cons, List.length_append, List.append_assoc, Nat.add_assoc]

/-- Each piece is read as it is, whatever stands behind it being so. -/
def Fits : List Pc → List UInt8 → Prop
  | [], _ => True
  | p :: r, z => (stepL (p.l ++ (txt r ++ z)) = .tok p.k p.l.length ∧ ¬ p.k = 0) ∧ Fits r z

theorem fits_append {P Q : List Pc} {z : List UInt8} (h : Fits P (txt Q ++ z)) (k : Fits Q z) : Fits (P ++ Q) z := by
  induction P with
  | nil => exact k
  | cons p r ih =>
    refine ⟨?_, ih h.2⟩
    show stepL (p.l ++ (txt (r ++ Q) ++ z)) = .tok p.k p.l.length ∧ ¬ p.k = 0
    rw [txt_append, List.append_assoc]
    exact h.1

theorem lex_pieces {P : List Pc} {z : List UInt8} (h : Fits P z) (a f : Nat) (r : Res) (hz : lexL f z (a + (txt P).length) = some r) : ∃ g, lexL g (txt P ++ z) a = some (r.add (toks a P)) := by
  induction P generalizing a with
  | nil => exact ⟨f, by simpa [txt, toks, Res.add_nil] using hz⟩
  | cons p q ih =>
    obtain ⟨⟨h1, h0⟩, h2⟩ := h
    obtain ⟨g, hg⟩ := ih h2 (a + p.l.length) (by rw [txt_cons, List.length_append, ← Nat.add_assoc] at hz; exact hz)
    refine ⟨g + 1, ?_⟩
    rw [txt_cons, List.append_assoc]
    unfold lexL
    rw [h1]
    simp only [h0, if_false, List.drop_left, hg]
    by_cases hk : p.k = -1
    · rw [if_pos hk]
      simp only [toks, hk, if_true, List.nil_append]
    · rw [if_neg hk]
      simp only [toks, hk, if_false, Option.map_some, Res.add_add, mk, List.take_left]

/-- A text of pieces has their tokens, and the end. -/
theorem lexes_pieces {P : List Pc} (h : Fits P []) (hl : (txt P).length ≤ 8192) : Lexes (txt P) (.ok (toks 0 P ++ [⟨0, ⟨#[]⟩, (txt P).length⟩])) := by
  unfold Lexes
  rw [if_neg (by omega)]
  obtain ⟨g, hg⟩ := lex_pieces h 0 1 (.ok [mk 0 [] 0 (0 + (txt P).length)]) (by rfl)
  refine ⟨g, ?_⟩
  rw [List.append_nil] at hg
  rw [hg]
  simp [Res.add, mk]

/-! ### What begins with what -/

theorem step_gap {c : UInt8} (h : c = 32 ∨ c = 9 ∨ c = 10 ∨ c = 13) (z : List UInt8) : stepL ([c] ++ z) = .tok (-1) 1 := by
  show stepL (c :: z) = _
  simp only [stepL]
  rw [if_pos h]
theorem step_colon (z : List UInt8) : stepL ([58] ++ z) = .tok 3 1 := rfl
theorem step_bar (z : List UInt8) : stepL ([124] ++ z) = .tok 4 1 := rfl
theorem step_semi (z : List UInt8) : stepL ([59] ++ z) = .tok 5 1 := rfl
theorem step_mark (z : List UInt8) : stepL ([37, 37] ++ z) = .tok 6 2 := rfl

/-- Behind it no letter, digit or line stands. -/
def Stops (z : List UInt8) : Prop := ∀ c r, z = c :: r → Tk.inNB c = false
theorem stops_cons {c : UInt8} (r : List UInt8) (h : Tk.inNB c = false) : Stops (c :: r) := fun d s e => by
  injection e with e1 e2
  subst e1
  exact h

theorem letB_of {c : UInt8} (h : Tk.inNB c = false) : Tk.letB c = false := by
  unfold Tk.inNB Ch.inN at h
  rw [Bool.or_eq_false_iff] at h
  exact h.1

theorem span_stop {p : UInt8 → Bool} {l z : List UInt8} (hl : l.all p = true) (hz : ∀ c r, z = c :: r → p c = false) : (l ++ z).takeWhile p = l := by
  induction l with
  | nil =>
    cases z with
    | nil => rfl
    | cons c r => rw [List.nil_append, List.takeWhile_cons, if_neg (by rw [hz c r rfl]; decide)]
  | cons c l ih =>
    rw [List.all_cons, Bool.and_eq_true] at hl
    rw [List.cons_append, List.takeWhile_cons, if_pos hl.1, ih hl.2]

theorem step_word {w : List UInt8} {k : Int} (hw : w.all Tk.letB = true) (hk : (w = [116, 111, 107, 101, 110] ∧ k = 7) ∨ (w = [115, 116, 97, 114, 116] ∧ k = 8)) {z : List UInt8} (hz : Stops z) : stepL ((37 :: w) ++ z) = .tok k 6 := by
  have hs : (w ++ z).takeWhile Tk.letB = w := span_stop hw fun c r e => letB_of (hz c r e)
  have h1 : (w ++ z).head? ≠ some 37 := by
    rcases hk with ⟨rfl, _⟩ | ⟨rfl, _⟩ <;> simp
  show Tk.pctL (w ++ z) = _
  unfold Tk.pctL
  rw [if_neg h1, Tk.spanL_take, hs]
  rcases hk with ⟨rfl, rfl⟩ | ⟨rfl, rfl⟩
  · rw [if_pos rfl]
  · rw [if_neg (by decide), if_pos rfl]

/-- A symbol's kind. -/
def kd (s : ByteArray) : Int := if s.data.toList.head? = some 39 then 2 else 1

theorem pln_head {s : ByteArray} (h : Gr.plnS s = true) : ∃ c r, s.data.toList = c :: r ∧ Tk.letB c = true ∧ (c :: r).all Tk.inNB = true ∧ (c :: r).length ≤ 24 := by
  unfold Gr.plnS at h
  rw [Bool.and_eq_true, decide_eq_true_iff] at h
  have hsz : s.data.toList.length ≤ 24 := by simpa using h.1
  cases hl : s.data.toList with
  | nil => rw [hl] at h; exact absurd h.2 (by decide)
  | cons c r =>
    have h2 := h.2
    rw [hl] at h2 hsz
    unfold Ch.namB at h2
    rw [Bool.and_eq_true] at h2
    refine ⟨c, r, rfl, h2.1, ?_, hsz⟩
    rw [List.all_cons, Bool.and_eq_true]
    refine ⟨?_, h2.2⟩
    unfold Tk.inNB Ch.inN
    rw [h2.1]
    rfl

theorem let_not {c : UInt8} (h : Tk.letB c = true) (n : Nat) (hn : Ch.cls (n : Int) ≠ 4) : ¬ c.toNat = n := fun e => by
  unfold Tk.letB Ch.cb at h
  rw [e] at h
  exact hn (by simpa using h)
theorem let_ne {c d : UInt8} (h : Tk.letB c = true) (hd : Tk.letB d = false) : ¬ c = d := fun e => by rw [e, hd] at h; cases h

theorem step_name {s : ByteArray} (h : Gr.plnS s = true) {z : List UInt8} (hz : Stops z) : stepL (s.data.toList ++ z) = .tok 1 s.data.toList.length ∧ kd s = 1 := by
  obtain ⟨c, r, hl, h1, h2, h3⟩ := pln_head h
  unfold kd
  rw [hl]
  have ne : ∀ d : UInt8, Tk.letB d = false → ¬ c = d := fun d hd => let_ne h1 hd
  refine ⟨?_, by rw [List.head?_cons, if_neg]; exact fun e => ne 39 (by decide) (by injection e)⟩
  rw [List.cons_append]
  simp only [stepL]
  rw [if_neg (by rintro (e | e | e | e) <;> exact ne _ (by decide) e), if_neg (ne _ (by decide)), if_neg (ne _ (by decide)), if_neg (ne _ (by decide)), if_neg (ne _ (by decide)), if_neg (ne _ (by decide)), if_neg (ne _ (by decide)), if_pos h1]
  unfold Tk.namL
  have hs : Tk.spanL Tk.inNB (c :: (r ++ z)) = (c :: r).length := by
    unfold Tk.spanL
    rw [← List.cons_append, span_stop h2 hz]
  rw [hs, if_neg (by omega)]

theorem quoL_at {r z : List UInt8} {i : Nat} (hr : ∀ c ∈ r, 33 ≤ c.toNat ∧ c.toNat ≤ 126 ∧ c.toNat ≠ 39) (hi : 1 ≤ i) (h2 : 2 ≤ i + r.length) (hn : i + r.length < 24) : Tk.quoL (r ++ 39 :: z) i = .tok 2 (i + r.length + 1) := by
  induction r generalizing i with
  | nil =>
    simp only [List.length_nil, Nat.add_zero] at h2 hn ⊢
    rw [List.nil_append]
    unfold Tk.quoL
    have e : (39 : UInt8).toNat = 39 := rfl
    rw [if_neg (by rw [e]; omega), if_neg (by omega), if_pos e]
  | cons c r ih =>
    have hc := hr c (List.mem_cons_self ..)
    simp only [List.length_cons] at h2 hn ⊢
    rw [List.cons_append]
    unfold Tk.quoL
    rw [if_neg (by omega), if_neg (by omega), if_neg (by omega), ih (fun x hx => hr x (List.mem_cons_of_mem _ hx)) (by omega) (by omega) (by omega)]
    congr 1
    omega

theorem quo_form {s : ByteArray} (h : Gr.quoS s = true) : ∃ r, s.data.toList = 39 :: (r ++ [39]) ∧ (∀ c ∈ r, 33 ≤ c.toNat ∧ c.toNat ≤ 126 ∧ c.toNat ≠ 39) ∧ 1 ≤ r.length ∧ r.length ≤ 22 := by
  unfold Gr.quoS at h
  rw [@decide_eq_true_iff _ (Classical.propDecidable _)] at h
  obtain ⟨⟨h0, h1⟩, k, ⟨k1, k2, k3, k4, k5⟩, k6⟩ := h
  obtain ⟨⟨l⟩⟩ := s
  have hsz : l.length = k + 1 := k6.symm
  have hget : ∀ j (hj : j < l.length), (⟨⟨l⟩⟩ : ByteArray)[j]'hj = l[j] := fun j hj => rfl
  cases l with
  | nil => simp at hsz
  | cons c q =>
    have hc : c = 39 := UInt8.toNat_inj.1 h1
    have hq : q.length = k := by simpa using hsz
    have hlast : q = q.take (k - 1) ++ [39] := by
      have e : q = q.take (k - 1) ++ q.drop (k - 1) := (List.take_append_drop _ _).symm
      have hd : q.drop (k - 1) = [39] := by
        rw [List.drop_eq_getElem_cons (by omega), List.drop_eq_nil_of_le (by omega)]
        have : (c :: q)[k]'(by simp; omega) = 39 := UInt8.toNat_inj.1 k5
        obtain ⟨m, rfl⟩ : ∃ m, k = m + 1 := ⟨k - 1, by omega⟩
        simp only [List.getElem_cons_succ] at this
        simp only [Nat.add_sub_cancel, this]
      rw [hd] at e
      exact e
    refine ⟨q.take (k - 1), ?_, fun x hx => ?_, by rw [List.length_take]; omega, by rw [List.length_take]; omega⟩
    · show c :: q = _
      rw [hc, ← hlast]
    · obtain ⟨j, hj, rfl⟩ := List.mem_iff_getElem.1 hx
      rw [List.length_take] at hj
      have := k3 (j + 1) (show j + 1 < (c :: q).length by simp; omega) (by omega) (by omega)
      unfold Gr.insB at this
      rw [decide_eq_true_iff] at this
      have e : ((⟨⟨c :: q⟩⟩ : ByteArray)[j + 1]'(show j + 1 < (c :: q).length by simp; omega)) = q[j]'(by omega) := rfl
      rw [e] at this
      rw [List.getElem_take]
      omega

theorem step_quo {s : ByteArray} (h : Gr.quoS s = true) (z : List UInt8) : stepL (s.data.toList ++ z) = .tok 2 s.data.toList.length ∧ kd s = 2 := by
  obtain ⟨r, hl, h1, h2, h3⟩ := quo_form h
  unfold kd
  rw [hl]
  refine ⟨?_, by rfl⟩
  show Tk.quoL ((r ++ [39]) ++ z) 1 = _
  rw [List.append_assoc, List.singleton_append, quoL_at h1 (by omega) (by omega) (by omega)]
  simp
  omega

theorem step_sym {s : ByteArray} (h : Gr.plnS s = true ∨ Gr.quoS s = true) {z : List UInt8} (hz : Stops z) : stepL (s.data.toList ++ z) = .tok (kd s) s.data.toList.length := by
  rcases h with h | h
  · obtain ⟨a, b⟩ := step_name h hz
    rw [a, b]
  · obtain ⟨a, b⟩ := step_quo h z
    rw [a, b]
theorem kd_sym (s : ByteArray) : kd s = 1 ∨ kd s = 2 := by
  unfold kd
  split
  · exact .inr rfl
  · exact .inl rfl

/-! ### Names behind blanks -/

def gap (c : UInt8) : Pc := ⟨-1, [c]⟩
def symPc (L : List ByteArray) : List Pc := L.flatMap fun s => [gap 32, ⟨kd s, s.data.toList⟩]
/-- A name or a quoted token. -/
def SymOk (s : ByteArray) : Prop := Gr.plnS s = true ∨ Gr.quoS s = true

theorem symPc_cons (s : ByteArray) (L : List ByteArray) : symPc (s :: L) = gap 32 :: ⟨kd s, s.data.toList⟩ :: symPc L := rfl
theorem txt_sym (L : List ByteArray) : txt (symPc L) = L.flatMap fun s => 32 :: s.data.toList := by
  induction L with
  | nil => rfl
  | cons s L ih =>
    rw [symPc_cons, txt_cons, txt_cons, ih]
    simp [gap]
theorem stops_sym (L : List ByteArray) {z : List UInt8} (hz : Stops z) : Stops (txt (symPc L) ++ z) := by
  cases L with
  | nil => exact hz
  | cons s L =>
    rw [symPc_cons, txt_cons]
    exact stops_cons _ (by decide)
theorem fits_sym {L : List ByteArray} (h : ∀ s ∈ L, SymOk s) {z : List UInt8} (hz : Stops z) : Fits (symPc L) z := by
  induction L with
  | nil => trivial
  | cons s L ih =>
    refine ⟨⟨step_gap (.inl rfl) _, show ¬ (-1 : Int) = 0 by decide⟩, ⟨⟨step_sym (h s (List.mem_cons_self ..)) (stops_sym L hz), ?_⟩, ih fun x hx => h x (List.mem_cons_of_mem _ hx)⟩⟩
    show ¬ kd s = 0
    rcases kd_sym s with e | e <;> rw [e] <;> decide

/-- The tokens of names behind blanks. -/
theorem toks_sym (L : List ByteArray) (a : Nat) : (toks a (symPc L)).map (·.s) = L ∧ ∀ t ∈ toks a (symPc L), t.k = kd t.s := by
  induction L generalizing a with
  | nil => exact ⟨rfl, fun t ht => by cases ht⟩
  | cons s L ih =>
    have hk : ¬ kd s = -1 := by rcases kd_sym s with e | e <;> rw [e] <;> decide
    have e : toks a (symPc (s :: L)) = ⟨kd s, s, a + 1⟩ :: toks (a + 1 + s.data.toList.length) (symPc L) := by
      rw [symPc_cons]
      simp only [toks, gap, if_true, List.nil_append, List.length_singleton]
      rw [if_neg hk]
      rfl
    rw [e]
    obtain ⟨i1, i2⟩ := ih (a + 1 + s.data.toList.length)
    refine ⟨by rw [List.map_cons, i1], fun t ht => ?_⟩
    rcases List.mem_cons.1 ht with rfl | ht
    · rfl
    · exact i2 t ht

end Go.Proofs.YtimfiaphhomelaaGreat.Sw

namespace Go.Proofs.YtimfiaphhomelaaGreat.Sw
open Go.Proofs.YtimfiaphhomelaaGreat.Tk (Tok stepL)
open Go.Proofs.YtimfiaphhomelaaGreat.Gr (Gram nameS checkN ordB leftOf)
open Go.Proofs.YtimfiaphhomelaaGreat.Rd (symB symsL restL headT takeP declP declsP sidesP ruleP rulesP sourceP Side Rul Decl Src Pr)
set_option linter.unusedVariables false
set_option linter.unusedSimpArgs false

/-- Rules in groups: consecutive ones with one left side. -/
def grp : List (Int × List Int) → List (Int × List Int × List (List Int))
  | [] => []
  | (a, l) :: r => match grp r with
    | [] => [(a, l, [])]
    | (b, m, S) :: q => if a = b then (a, l, m :: S) :: q else (a, l, []) :: (b, m, S) :: q
def flat (Q : List (Int × List Int × List (List Int))) : List (Int × List Int) := Q.flatMap fun g => (g.2.1 :: g.2.2).map fun l => (g.1, l)

theorem flat_grp (R : List (Int × List Int)) : flat (grp R) = R := by
  induction R with
  | nil => rfl
  | cons r q ih =>
    obtain ⟨a, l⟩ := r
    unfold grp
    cases hg : grp q with
    | nil =>
      rw [hg] at ih
      rw [← ih]
      rfl
    | cons g t =>
      obtain ⟨b, m, S⟩ := g
      rw [hg] at ih
      simp only
      split
      · rename_i hab
        subst hab
        rw [← ih]
        simp [flat]
      · rw [← ih]
        simp [flat]

def barPc : List Pc := [gap 10, gap 9, ⟨4, [124]⟩]
def endPc : List Pc := [gap 10, gap 9, ⟨5, [59]⟩, gap 10]
def sidePc (G : Gram) (l : List Int) : List Pc := symPc (l.map (nameS G))
/-- Right sides, up to the semicolon. -/
def tailPc (G : Gram) : List Int → List (List Int) → List Pc
  | l, [] => sidePc G l ++ endPc
  | l, m :: r => sidePc G l ++ (barPc ++ tailPc G m r)
def grpPc (G : Gram) (g : Int × List Int × List (List Int)) : List Pc := [⟨1, nmL G g.1⟩, gap 32, ⟨3, [58]⟩] ++ tailPc G g.2.1 g.2.2
def headPc (G : Gram) : List Pc := if G.terms.length = 0 then [] else ⟨7, [37, 116, 111, 107, 101, 110]⟩ :: (symPc G.terms ++ [gap 10])
def midPc (G : Gram) : List Pc := [⟨8, [37, 115, 116, 97, 114, 116]⟩, gap 32, ⟨1, nmL G G.start⟩, gap 10, ⟨6, [37, 37]⟩, gap 10]
def showPc (G : Gram) : List Pc := headPc G ++ (midPc G ++ (grp G.rules).flatMap (grpPc G))

/-! ### The text -/

theorem txt_side (G : Gram) (l : List Int) : txt (sidePc G l) = rightL G l := by
  unfold sidePc rightL nmL
  rw [txt_sym, List.flatMap_map]

/-- What rules add behind one with a left side. -/
def moreL (G : Gram) : Int → List (Int × List Int) → List UInt8
  | _, [] => []
  | p, r :: q => (if p = r.1 then [10, 9, 124] ++ rightL G r.2 else [10, 9, 59, 10] ++ ruleL G r) ++ moreL G r.1 q

theorem rows_more (G : Gram) (r : Int × List Int) (q : List (Int × List Int)) : (List.range q.length).flatMap (fun i => rowL G (r :: q) (i + 1)) = moreL G r.1 q := by
  induction q generalizing r with
  | nil => rfl
  | cons s q ih =>
    rw [List.length_cons, List.range_succ_eq_map, List.flatMap_cons, List.flatMap_map]
    have e : (fun i => rowL G (r :: s :: q) (Nat.succ i + 1)) = fun i => rowL G (s :: q) (i + 1) := by
      funext i
      rfl
    rw [e, ih]
    rfl
theorem rows_all (G : Gram) (r : Int × List Int) (q : List (Int × List Int)) : rowsL G (r :: q) (r :: q).length = ruleL G r ++ moreL G r.1 q := by
  unfold rowsL
  rw [List.length_cons, List.range_succ_eq_map, List.flatMap_cons, List.flatMap_map]
  rw [← rows_more]
  rfl

theorem txt_grp (G : Gram) (g : Int × List Int × List (List Int)) : txt (grpPc G g) = nmL G g.1 ++ ([32, 58] ++ txt (tailPc G g.2.1 g.2.2)) := by
  unfold grpPc
  rw [txt_append]
  simp [txt, gap]

theorem grp_text (G : Gram) (a : Int) (l : List Int) (R : List (Int × List Int)) : ∃ m S q, grp ((a, l) :: R) = (a, m, S) :: q ∧ txt (tailPc G m S) ++ txt (q.flatMap (grpPc G)) = rightL G l ++ (moreL G a R ++ [10, 9, 59, 10]) := by
  induction R generalizing a l with
  | nil =>
    refine ⟨l, [], [], rfl, ?_⟩
    unfold tailPc
    rw [txt_append, txt_side]
    simp [txt, gap, endPc, moreL]
  | cons r R ih =>
    obtain ⟨b, k⟩ := r
    obtain ⟨m, S, q, h1, h2⟩ := ih b k
    unfold grp
    rw [h1]
    simp only
    by_cases hab : a = b
    · subst hab
      refine ⟨l, m :: S, q, by rw [if_pos rfl], ?_⟩
      unfold tailPc
      rw [txt_append, txt_append, txt_side, List.append_assoc, List.append_assoc, h2]
      simp [txt, gap, barPc, moreL]
    · refine ⟨l, [], (b, m, S) :: q, by rw [if_neg hab], ?_⟩
      unfold tailPc
      rw [txt_append, txt_side, List.flatMap_cons, txt_append, txt_grp, List.append_assoc, List.append_assoc]
      simp only [List.append_assoc]
      rw [h2]
      simp [txt, gap, endPc, moreL, hab, ruleL]

theorem txt_show (G : Gram) (hne : G.rules ≠ []) : txt (showPc G) = showL G := by
  have hh : txt (headPc G) = tokenL G := by
    unfold headPc tokenL
    split
    · rfl
    · rw [txt_cons, txt_append, txt_sym]
      rfl
  have hm : txt (midPc G) = startL G ++ [37, 37, 10] := by
    unfold midPc startL
    simp [txt, gap]
  unfold showPc showL
  rw [txt_append, txt_append, hh, hm]
  cases hr : G.rules with
  | nil => exact absurd hr hne
  | cons r q =>
    obtain ⟨a, l⟩ := r
    obtain ⟨m, S, t, h1, h2⟩ := grp_text G a l q
    rw [h1, rows_all, List.flatMap_cons, txt_append, txt_grp]
    simp only [List.append_assoc]
    rw [h2]
    simp [ruleL, List.append_assoc]

/-! ### It fits -/

/-- What is asked of a grammar's names. -/
structure NamesOk (G : Gram) : Prop where
  terms : ∀ s ∈ G.terms, SymOk s
  start : Gr.plnS (nameS G G.start) = true
  left : ∀ r ∈ G.rules, Gr.plnS (nameS G r.1) = true
  syms : ∀ r ∈ G.rules, ∀ x ∈ r.2, SymOk (nameS G x)

theorem stops_end (z : List UInt8) : Stops (txt endPc ++ z) := stops_cons _ (by decide)
theorem stops_bar (P : List Pc) (z : List UInt8) : Stops (txt (barPc ++ P) ++ z) := stops_cons _ (by decide)
theorem fits_end (z : List UInt8) : Fits endPc z := ⟨⟨step_gap (.inr (.inr (.inl rfl))) _, show ¬ (-1 : Int) = 0 by decide⟩, ⟨step_gap (.inr (.inl rfl)) _, show ¬ (-1 : Int) = 0 by decide⟩, ⟨step_semi _, show ¬ (5 : Int) = 0 by decide⟩, ⟨step_gap (.inr (.inr (.inl rfl))) _, show ¬ (-1 : Int) = 0 by decide⟩, trivial⟩
theorem fits_bar (z : List UInt8) : Fits barPc z := ⟨⟨step_gap (.inr (.inr (.inl rfl))) _, show ¬ (-1 : Int) = 0 by decide⟩, ⟨step_gap (.inr (.inl rfl)) _, show ¬ (-1 : Int) = 0 by decide⟩, ⟨step_bar _, show ¬ (4 : Int) = 0 by decide⟩, trivial⟩

theorem fits_tail {G : Gram} (S : List (List Int)) (l : List Int) (h : ∀ k ∈ l :: S, ∀ x ∈ k, SymOk (nameS G x)) (z : List UInt8) : Fits (tailPc G l S) z := by
  have one : ∀ k ∈ l :: S, ∀ s ∈ k.map (nameS G), SymOk s := fun k hk s hs => by
    obtain ⟨x, hx, rfl⟩ := List.mem_map.1 hs
    exact h k hk x hx
  induction S generalizing l with
  | nil => exact fits_append (fits_sym (one l (List.mem_cons_self ..)) (stops_end z)) (fits_end z)
  | cons m S ih => exact fits_append (fits_sym (one l (List.mem_cons_self ..)) (stops_bar _ z)) (fits_append (fits_bar _) (ih m (fun k hk => h k (List.mem_cons_of_mem _ hk)) fun k hk => one k (List.mem_cons_of_mem _ hk)))

theorem fits_grp {G : Gram} (g : Int × List Int × List (List Int)) (hl : Gr.plnS (nameS G g.1) = true) (h : ∀ k ∈ g.2.1 :: g.2.2, ∀ x ∈ k, SymOk (nameS G x)) (z : List UInt8) : Fits (grpPc G g) z := by
  refine fits_append ⟨⟨(step_name hl ?_).1, show ¬ (1 : Int) = 0 by decide⟩, ⟨step_gap (.inl rfl) _, show ¬ (-1 : Int) = 0 by decide⟩, ⟨step_colon _, show ¬ (3 : Int) = 0 by decide⟩, trivial⟩ (fits_tail _ _ h z)
  exact stops_cons _ (by decide)

theorem mem_flat {Q : List (Int × List Int × List (List Int))} {g : Int × List Int × List (List Int)} (hg : g ∈ Q) {k : List Int} (hk : k ∈ g.2.1 :: g.2.2) : (g.1, k) ∈ flat Q :=
  List.mem_flatMap.2 ⟨g, hg, List.mem_map.2 ⟨k, hk, rfl⟩⟩

theorem fits_grps {G : Gram} (hN : NamesOk G) (Q : List (Int × List Int × List (List Int))) (hQ : ∀ r ∈ flat Q, r ∈ G.rules) (z : List UInt8) : Fits (Q.flatMap (grpPc G)) z := by
  induction Q with
  | nil => trivial
  | cons g Q ih =>
    rw [List.flatMap_cons]
    have hq : ∀ r ∈ flat Q, r ∈ G.rules := fun r hr => hQ r (by unfold flat at hr ⊢; rw [List.flatMap_cons]; exact List.mem_append_right _ hr)
    refine fits_append (fits_grp g (hN.left _ (hQ _ (mem_flat (List.mem_cons_self ..) (List.mem_cons_self ..)))) (fun k hk x hx => hN.syms _ (hQ _ (mem_flat (List.mem_cons_self ..) hk)) x hx) _) (ih hq)

theorem fits_show {G : Gram} (hN : NamesOk G) : Fits (showPc G) [] := by
  unfold showPc
  refine fits_append ?_ (fits_append ?_ (fits_grps hN _ (by rw [flat_grp]; exact fun r h => h) []))
  · unfold headPc
    split
    · trivial
    · refine ⟨⟨step_word (w := [116, 111, 107, 101, 110]) (by decide) (.inl ⟨rfl, rfl⟩) ?_, show ¬ (7 : Int) = 0 by decide⟩, fits_append (fits_sym hN.terms ?_) ⟨⟨step_gap (.inr (.inr (.inl rfl))) _, show ¬ (-1 : Int) = 0 by decide⟩, trivial⟩⟩
      · rw [txt_append, List.append_assoc]
        exact stops_sym _ (stops_cons _ (by decide))
      · exact stops_cons _ (by decide)
  · exact ⟨⟨step_word (w := [115, 116, 97, 114, 116]) (by decide) (.inr ⟨rfl, rfl⟩) (stops_cons _ (by decide)), show ¬ (8 : Int) = 0 by decide⟩, ⟨step_gap (.inl rfl) _, show ¬ (-1 : Int) = 0 by decide⟩, ⟨(step_name hN.start (stops_cons _ (by decide))).1, show ¬ (1 : Int) = 0 by decide⟩, ⟨step_gap (.inr (.inr (.inl rfl))) _, show ¬ (-1 : Int) = 0 by decide⟩, ⟨step_mark _, show ¬ (6 : Int) = 0 by decide⟩, ⟨step_gap (.inr (.inr (.inl rfl))) _, show ¬ (-1 : Int) = 0 by decide⟩, trivial⟩

/-! ### The parser -/

theorem syms_app {T : List Tok} (hT : ∀ t ∈ T, symB t = true) {x : Tok} {r : List Tok} (hx : symB x = false) : symsL (T ++ x :: r) = T ∧ restL (T ++ x :: r) = x :: r := by
  unfold symsL restL
  induction T with
  | nil => exact ⟨by rw [List.nil_append, List.takeWhile_cons, if_neg (by rw [hx]; decide)], by rw [List.nil_append, List.dropWhile_cons, if_neg (by rw [hx]; decide)]⟩
  | cons t T ih =>
    have h := hT t (List.mem_cons_self ..)
    obtain ⟨i1, i2⟩ := ih fun y hy => hT y (List.mem_cons_of_mem _ hy)
    exact ⟨by rw [List.cons_append, List.takeWhile_cons, if_pos h, i1], by rw [List.cons_append, List.dropWhile_cons, if_pos h, i2]⟩
theorem symB_kd {t : Tok} (h : t.k = kd t.s) : symB t = true := by
  unfold symB
  rw [h]
  rcases kd_sym t.s with e | e <;> rw [e] <;> rfl

theorem takeP_at {ks : List Int} {t : Tok} {r : List Tok} (h : ks.contains t.k = true) : takeP ks (t :: r) = .ok t r := by
  show (if ks.contains t.k = true then Pr.ok t r else Pr.no (if t.k = 0 then 4 else 3) t.at_) = _
  rw [if_pos h]

/-- A side whose symbols are read as they are. -/
def GoodSide (s : Side) : Prop := (∀ t ∈ s.syms, t.k = kd t.s) ∧ (s.first ∈ s.syms ∨ ¬ s.first.k = 1)
def spellS (s : Side) : List ByteArray := s.syms.map (·.s)

theorem good_side {T : List Tok} (hT : ∀ t ∈ T, t.k = kd t.s) {x : Tok} {r : List Tok} (hx : ¬ x.k = 1) : GoodSide ⟨headT (T ++ x :: r), T⟩ := by
  refine ⟨hT, ?_⟩
  cases T with
  | nil => exact .inr hx
  | cons t T => exact .inl (List.mem_cons_self ..)

theorem sidesP_tail (G : Gram) (S : List (List Int)) : ∀ (l : List Int) (a f : Nat) (acc : List Side) (rest : List Tok), S.length < f → ∃ Ss, sidesP f (toks a (tailPc G l S) ++ rest) acc = .ok (acc ++ Ss) rest ∧ Ss.map spellS = (l :: S).map (·.map (nameS G)) ∧ ∀ s ∈ Ss, GoodSide s := by
  induction S with
  | nil =>
    intro l a f acc rest hf
    obtain ⟨f, rfl⟩ : ∃ m, f = m + 1 := ⟨f - 1, by omega⟩
    obtain ⟨k1, k2⟩ := toks_sym (l.map (nameS G)) a
    obtain ⟨x, hx, e⟩ : ∃ x : Tok, x.k = 5 ∧ toks a (tailPc G l []) ++ rest = toks a (sidePc G l) ++ x :: rest := by
      unfold tailPc
      rw [toks_append, List.append_assoc]
      exact ⟨_, rfl, rfl⟩
    obtain ⟨s1, s2⟩ := syms_app (T := toks a (sidePc G l)) (fun t ht => symB_kd (k2 t ht)) (x := x) (r := rest) (by unfold symB; rw [hx]; rfl)
    refine ⟨[⟨headT (toks a (sidePc G l) ++ x :: rest), toks a (sidePc G l)⟩], ?_, ?_, ?_⟩
    · rw [e]
      unfold sidesP
      rw [s1, s2]
      have ht : takeP [4, 5] (x :: rest) = .ok x rest := takeP_at (by rw [hx]; rfl)
      rw [ht]
      show (if x.k = 5 then _ else _) = _
      rw [if_pos hx]
    · show [spellS _] = [_]
      unfold spellS
      exact congrArg (fun y => [y]) k1
    · intro s hs
      rw [List.mem_singleton] at hs
      subst hs
      exact good_side k2 (by rw [hx]; decide)
  | cons m S ih =>
    intro l a f acc rest hf
    obtain ⟨f, rfl⟩ : ∃ m, f = m + 1 := ⟨f - 1, by omega⟩
    obtain ⟨k1, k2⟩ := toks_sym (l.map (nameS G)) a
    obtain ⟨x, hx, b, e⟩ : ∃ x : Tok, x.k = 4 ∧ ∃ b, toks a (tailPc G l (m :: S)) ++ rest = toks a (sidePc G l) ++ x :: (toks b (tailPc G m S) ++ rest) := by
      have e : tailPc G l (m :: S) = sidePc G l ++ (barPc ++ tailPc G m S) := rfl
      rw [e, toks_append, toks_append, List.append_assoc]
      exact ⟨_, rfl, _, rfl⟩
    obtain ⟨Ss, i1, i2, i3⟩ := ih m b f (acc ++ [⟨headT (toks a (sidePc G l) ++ x :: (toks b (tailPc G m S) ++ rest)), toks a (sidePc G l)⟩]) rest (by simpa using hf)
    obtain ⟨s1, s2⟩ := syms_app (T := toks a (sidePc G l)) (fun t ht => symB_kd (k2 t ht)) (x := x) (r := toks b (tailPc G m S) ++ rest) (by unfold symB; rw [hx]; rfl)
    refine ⟨⟨headT (toks a (sidePc G l) ++ x :: (toks b (tailPc G m S) ++ rest)), toks a (sidePc G l)⟩ :: Ss, ?_, ?_, ?_⟩
    · rw [e]
      unfold sidesP
      rw [s1, s2]
      have ht : takeP [4, 5] (x :: (toks b (tailPc G m S) ++ rest)) = .ok x (toks b (tailPc G m S) ++ rest) := takeP_at (by rw [hx]; rfl)
      rw [ht]
      show (if x.k = 5 then _ else _) = _
      rw [if_neg (by rw [hx]; decide), i1, List.append_assoc]
      rfl
    · rw [List.map_cons, i2, List.map_cons]
      exact congrArg (· :: _) k1
    · intro s hs
      rcases List.mem_cons.1 hs with rfl | hs
      · exact good_side k2 (by rw [hx]; decide)
      · exact i3 s hs

/-- A rule that is read as a group is written. -/
structure RulOf (G : Gram) (g : Int × List Int × List (List Int)) (R : Rul) : Prop where
  left : R.left.s = nameS G g.1
  spell : R.sides.map spellS = (g.2.1 :: g.2.2).map (·.map (nameS G))
  good : ∀ s ∈ R.sides, GoodSide s

theorem ruleP_grp (G : Gram) (g : Int × List Int × List (List Int)) (a f : Nat) (rest : List Tok) (hf : g.2.2.length < f) : ∃ R, ruleP f (toks a (grpPc G g) ++ rest) = .ok R rest ∧ RulOf G g R := by
  obtain ⟨x, y, b, hx, hxs, hy, e⟩ : ∃ (x y : Tok) (b : Nat), x.k = 1 ∧ x.s = nameS G g.1 ∧ y.k = 3 ∧ toks a (grpPc G g) ++ rest = x :: y :: (toks b (tailPc G g.2.1 g.2.2) ++ rest) := by
    unfold grpPc
    rw [toks_append]
    exact ⟨_, _, _, rfl, str_of _, rfl, rfl⟩
  obtain ⟨Ss, i1, i2, i3⟩ := sidesP_tail G g.2.2 g.2.1 b f [] rest hf
  refine ⟨⟨x, Ss⟩, ?_, hxs, i2, i3⟩
  rw [e]
  unfold ruleP
  have h1 : takeP [1] (x :: y :: (toks b (tailPc G g.2.1 g.2.2) ++ rest)) = .ok x (y :: (toks b (tailPc G g.2.1 g.2.2) ++ rest)) := takeP_at (by rw [hx]; rfl)
  have h2 : takeP [3] (y :: (toks b (tailPc G g.2.1 g.2.2) ++ rest)) = .ok y (toks b (tailPc G g.2.1 g.2.2) ++ rest) := takeP_at (by rw [hy]; rfl)
  rw [h1]
  show (takeP [3] (y :: (toks b (tailPc G g.2.1 g.2.2) ++ rest))).bind _ = _
  rw [h2]
  show (sidesP f (toks b (tailPc G g.2.1 g.2.2) ++ rest) []).bind _ = _
  rw [i1]
  rfl

/-- Rules that are read as groups are written. -/
def RulsOf (G : Gram) : List (Int × List Int × List (List Int)) → List Rul → Prop
  | [], [] => True
  | g :: Q, R :: Rs => RulOf G g R ∧ RulsOf G Q Rs
  | _, _ => False

theorem head_grp (G : Gram) (g : Int × List Int × List (List Int)) (a : Nat) (P : List Pc) (rest : List Tok) : ¬ (headT (toks a (grpPc G g ++ P) ++ rest)).k = 0 := by
  unfold grpPc
  rw [toks_append, toks_append]
  exact show ¬ (1 : Int) = 0 by decide

theorem rulesP_grps (G : Gram) (Q : List (Int × List Int × List (List Int))) : ∀ (a : Nat) (acc : List Rul) (x : Tok), x.k = 0 → ∃ f0 Rs, RulsOf G Q Rs ∧ ∀ f, f0 ≤ f → rulesP f (toks a (Q.flatMap (grpPc G)) ++ [x]) acc = .ok (acc ++ Rs) [x] := by
  induction Q with
  | nil =>
    intro a acc x hx
    refine ⟨1, [], trivial, fun f hf => ?_⟩
    obtain ⟨f, rfl⟩ : ∃ m, f = m + 1 := ⟨f - 1, by omega⟩
    show rulesP (f + 1) [x] acc = _
    unfold rulesP
    rw [if_pos (show (headT [x]).k = 0 from hx), List.append_nil]
  | cons g Q ih =>
    intro a acc x hx
    obtain ⟨R, hg, hR⟩ := ruleP_grp G g a (g.2.2.length + 1) (toks (a + (txt (grpPc G g)).length) (Q.flatMap (grpPc G)) ++ [x]) (by omega)
    obtain ⟨f0, Rs, h1, h2⟩ := ih (a + (txt (grpPc G g)).length) (acc ++ [R]) x hx
    refine ⟨g.2.2.length + f0 + 2, R :: Rs, ⟨hR, h1⟩, fun f hf => ?_⟩
    obtain ⟨f, rfl⟩ : ∃ m, f = m + 1 := ⟨f - 1, by omega⟩
    have hr : ruleP (f + 1) (toks a (grpPc G g) ++ (toks (a + (txt (grpPc G g)).length) (Q.flatMap (grpPc G)) ++ [x])) = .ok R (toks (a + (txt (grpPc G g)).length) (Q.flatMap (grpPc G)) ++ [x]) := by
      rcases Rd.ruleP_le (g.2.2.length + 1) (f + 1) (toks a (grpPc G g) ++ (toks (a + (txt (grpPc G g)).length) (Q.flatMap (grpPc G)) ++ [x])) (by omega) with e | e
      · rw [hg] at e
        cases e
      · rw [← e]
        exact hg
    rw [List.flatMap_cons]
    unfold rulesP
    rw [if_neg (head_grp G g a _ _), toks_append, List.append_assoc, hr]
    show rulesP f _ (acc ++ [R]) = _
    rw [h2 f (by omega), List.append_assoc]
    rfl

/-- The declarations that are read. -/
inductive DeclsOf (G : Gram) : List Decl → Prop
  | none (m n : Tok) (hn : G.terms.length = 0) (hm : m.k = 8) (hs : n.s = nameS G G.start) : DeclsOf G [⟨m, [n]⟩]
  | some (t m n : Tok) (T : List Tok) (hn : ¬ G.terms.length = 0) (ht : t.k = 7) (hT : T.map (·.s) = G.terms) (hm : m.k = 8) (hs : n.s = nameS G G.start) : DeclsOf G [⟨t, T⟩, ⟨m, [n]⟩]

theorem declsP_mid {m n k : Tok} {r : List Tok} (hm : m.k = 8) (hn : n.k = 1) (hk : k.k = 6) (f : Nat) (acc : List Decl) : declsP (f + 2) (m :: n :: k :: r) acc = .ok (acc ++ [⟨m, [n]⟩]) (k :: r) := by
  have h1 : takeP [7, 8] (m :: n :: k :: r) = .ok m (n :: k :: r) := takeP_at (by rw [hm]; rfl)
  have h2 : takeP [1] (n :: k :: r) = .ok n (k :: r) := takeP_at (by rw [hn]; rfl)
  have hd : declP (m :: n :: k :: r) = .ok ⟨m, [n]⟩ (k :: r) := by
    unfold declP
    rw [h1]
    show (if m.k = 8 then _ else _) = _
    rw [if_pos hm, h2]
    rfl
  unfold declsP
  rw [if_neg (show ¬ (headT (m :: n :: k :: r)).k = 6 by show ¬ m.k = 6; rw [hm]; decide), hd]
  show declsP (f + 1) (k :: r) (acc ++ [⟨m, [n]⟩]) = _
  unfold declsP
  rw [if_pos (show (headT (k :: r)).k = 6 from hk)]

theorem sourceP_show (G : Gram) (hne : G.rules ≠ []) (x : Tok) (hx : x.k = 0) : ∃ f D Rs, DeclsOf G D ∧ RulsOf G (grp G.rules) Rs ∧ sourceP f (toks 0 (showPc G) ++ [x]) = .ok ⟨D, Rs⟩ [x] := by
  obtain ⟨g, Q, hQ⟩ : ∃ g Q, grp G.rules = g :: Q := by
    cases hr : grp G.rules with
    | nil => exact absurd (by rw [← flat_grp G.rules, hr]; rfl) hne
    | cons g Q => exact ⟨g, Q, rfl⟩
  obtain ⟨m, n, k, b, hm, hn, hs, hk, e⟩ : ∃ (m n k : Tok) (b : Nat), m.k = 8 ∧ n.k = 1 ∧ n.s = nameS G G.start ∧ k.k = 6 ∧ toks 0 (showPc G) ++ [x] = toks 0 (headPc G) ++ m :: n :: k :: (toks b ((grp G.rules).flatMap (grpPc G)) ++ [x]) := by
    unfold showPc
    rw [toks_append, toks_append, List.append_assoc, List.append_assoc]
    exact ⟨_, _, _, _, rfl, rfl, str_of _, rfl, rfl⟩
  rw [hQ, List.flatMap_cons, toks_append, List.append_assoc] at e
  obtain ⟨R, r1, r2⟩ := ruleP_grp G g b (g.2.2.length + 1) (toks (b + (txt (grpPc G g)).length) (Q.flatMap (grpPc G)) ++ [x]) (by omega)
  obtain ⟨f0, Rs, q1, q2⟩ := rulesP_grps G Q (b + (txt (grpPc G g)).length) [R] x hx
  generalize hZ : toks (b + (txt (grpPc G g)).length) (Q.flatMap (grpPc G)) ++ [x] = Z at e r1 q2
  have fin : ∀ f D, g.2.2.length + f0 + 3 ≤ f → declsP f (toks 0 (showPc G) ++ [x]) [] = .ok D (k :: (toks b (grpPc G g) ++ Z)) → sourceP f (toks 0 (showPc G) ++ [x]) = .ok ⟨D, R :: Rs⟩ [x] := fun f D hf hd => by
    have hr : ruleP f (toks b (grpPc G g) ++ Z) = .ok R Z := by
      rcases Rd.ruleP_le (g.2.2.length + 1) f (toks b (grpPc G g) ++ Z) (by omega) with e | e
      · rw [r1] at e
        cases e
      · rw [← e]
        exact r1
    have h6 : takeP [6] (k :: (toks b (grpPc G g) ++ Z)) = .ok k (toks b (grpPc G g) ++ Z) := takeP_at (by rw [hk]; rfl)
    unfold sourceP
    rw [hd]
    show (takeP [6] (k :: (toks b (grpPc G g) ++ Z))).bind _ = _
    rw [h6]
    show (ruleP f (toks b (grpPc G g) ++ Z)).bind _ = _
    rw [hr]
    show (rulesP f Z [R]).bind _ = _
    rw [q2 f (by omega)]
    rfl
  by_cases hT : G.terms.length = 0
  · have hh : toks 0 (headPc G) = [] := by unfold headPc; rw [if_pos hT]; rfl
    rw [hh, List.nil_append] at e
    refine ⟨g.2.2.length + f0 + 3, [⟨m, [n]⟩], R :: Rs, .none m n hT hm hs, by rw [hQ]; exact ⟨r2, q1⟩, fin _ _ (Nat.le_refl _) ?_⟩
    rw [e]
    exact declsP_mid hm hn hk _ _
  · obtain ⟨t, c, ht, hh⟩ : ∃ (t : Tok) (c : Nat), t.k = 7 ∧ toks 0 (headPc G) = t :: toks c (symPc G.terms) := by
      unfold headPc
      rw [if_neg hT]
      have e0 : toks 0 (⟨7, [37, 116, 111, 107, 101, 110]⟩ :: (symPc G.terms ++ [gap 10])) = ⟨7, ⟨#[37, 116, 111, 107, 101, 110]⟩, 0⟩ :: toks 6 (symPc G.terms ++ [gap 10]) := rfl
      refine ⟨⟨7, ⟨#[37, 116, 111, 107, 101, 110]⟩, 0⟩, 6, rfl, ?_⟩
      rw [e0, toks_append]
      show _ :: (_ ++ []) = _
      rw [List.append_nil]
    obtain ⟨k1, k2⟩ := toks_sym G.terms c
    generalize toks c (symPc G.terms) = T at hh k1 k2
    rw [hh, List.cons_append] at e
    cases T with
    | nil => exact absurd (by rw [← k1]; rfl) hT
    | cons u T =>
      refine ⟨g.2.2.length + f0 + 3, [⟨t, u :: T⟩, ⟨m, [n]⟩], R :: Rs, .some t m n (u :: T) hT ht k1 hm hs, by rw [hQ]; exact ⟨r2, q1⟩, fin _ _ (Nat.le_refl _) ?_⟩
      rw [e]
      obtain ⟨s1, s2⟩ := syms_app (T := T) (fun y hy => symB_kd (k2 y (List.mem_cons_of_mem _ hy))) (x := m) (r := n :: k :: (toks b (grpPc G g) ++ Z)) (by unfold symB; rw [hm]; rfl)
      have h1 : takeP [7, 8] (t :: ((u :: T) ++ m :: n :: k :: (toks b (grpPc G g) ++ Z))) = .ok t ((u :: T) ++ m :: n :: k :: (toks b (grpPc G g) ++ Z)) := takeP_at (by rw [ht]; rfl)
      have h2 : takeP [1, 2] ((u :: T) ++ m :: n :: k :: (toks b (grpPc G g) ++ Z)) = .ok u (T ++ m :: n :: k :: (toks b (grpPc G g) ++ Z)) := by
        rw [List.cons_append]
        refine takeP_at ?_
        rw [k2 u (List.mem_cons_self ..)]
        rcases kd_sym u.s with e | e <;> rw [e] <;> rfl
      have hd : declP (t :: ((u :: T) ++ m :: n :: k :: (toks b (grpPc G g) ++ Z))) = .ok ⟨t, u :: T⟩ (m :: n :: k :: (toks b (grpPc G g) ++ Z)) := by
        unfold declP
        rw [h1]
        show (if t.k = 8 then _ else _) = _
        rw [if_neg (by rw [ht]; decide), h2]
        show Pr.ok (Decl.mk t (u :: symsL (T ++ m :: n :: k :: (toks b (grpPc G g) ++ Z)))) (restL (T ++ m :: n :: k :: (toks b (grpPc G g) ++ Z))) = _
        rw [s1, s2]
      unfold declsP
      rw [if_neg (show ¬ (headT (t :: ((u :: T) ++ m :: n :: k :: (toks b (grpPc G g) ++ Z)))).k = 6 by show ¬ t.k = 6; rw [ht]; decide), hd]
      exact declsP_mid hm hn hk _ _

end Go.Proofs.YtimfiaphhomelaaGreat.Sw

namespace Go.Proofs.YtimfiaphhomelaaGreat.Sw
open Go.Proofs.YtimfiaphhomelaaGreat.Tk (Tok stepL Lexes)
open Go.Proofs.YtimfiaphhomelaaGreat.Gr (Gram nameS checkN ordB leftOf)
open Go.Proofs.YtimfiaphhomelaaGreat.Rd (Side Rul Decl Src Mo MSt putM namesM declM declsM symM symsM sideM sidesM ruleM rulesM unkB numI rowsI makeM runM leftsM st0 isEmp joinedS Is sourceP)
set_option linter.unusedVariables false
set_option linter.unusedSimpArgs false

/-! ### Names with blanks between them -/

def NoB (l : List UInt8) : Prop := ∀ c ∈ l, ¬ c = 32
theorem cut {x y a b : List UInt8} (hx : NoB x) (hy : NoB y) (ha : a = [] ∨ ∃ r, a = 32 :: r) (hb : b = [] ∨ ∃ r, b = 32 :: r) (h : x ++ a = y ++ b) : x = y ∧ a = b := by
  induction x generalizing y with
  | nil =>
    cases y with
    | nil => exact ⟨rfl, h⟩
    | cons d y =>
      rcases ha with rfl | ⟨r, rfl⟩
      · cases h
      · injection h with h1
        exact absurd h1.symm (hy d (List.mem_cons_self ..))
  | cons c x ih =>
    cases y with
    | nil =>
      rcases hb with rfl | ⟨r, rfl⟩
      · cases h
      · injection h with h1
        exact absurd h1 (hx c (List.mem_cons_self ..))
    | cons d y =>
      injection h with h1 h2
      obtain ⟨i1, i2⟩ := ih (fun z hz => hx z (List.mem_cons_of_mem _ hz)) (fun z hz => hy z (List.mem_cons_of_mem _ hz)) h2
      exact ⟨by rw [h1, i1], i2⟩
theorem tail_cons (y : List UInt8) (r : List (List UInt8)) : Lib.joinTail [32] (y :: r) = 32 :: (y ++ Lib.joinTail [32] r) := rfl
theorem tail_head (r : List (List UInt8)) : Lib.joinTail [32] r = [] ∨ ∃ t, Lib.joinTail [32] r = 32 :: t := by
  cases r with
  | nil => exact .inl rfl
  | cons y r => exact .inr ⟨_, tail_cons y r⟩
theorem tail_inj : ∀ xs ys : List (List UInt8), (∀ x ∈ xs, NoB x) → (∀ y ∈ ys, NoB y) → Lib.joinTail [32] xs = Lib.joinTail [32] ys → xs = ys
  | [], [], _, _, _ => rfl
  | [], y :: ys, _, _, h => by rw [tail_cons] at h; cases h
  | x :: xs, [], _, _, h => by rw [tail_cons] at h; cases h
  | x :: xs, y :: ys, hx, hy, h => by
    rw [tail_cons, tail_cons] at h
    injection h with _ h
    obtain ⟨h1, h2⟩ := cut (hx x (List.mem_cons_self ..)) (hy y (List.mem_cons_self ..)) (tail_head _) (tail_head _) h
    rw [h1, tail_inj xs ys (fun z hz => hx z (List.mem_cons_of_mem _ hz)) (fun z hz => hy z (List.mem_cons_of_mem _ hz)) h2]

/-- Names, a blank between each two. -/
def textOf (ns : List ByteArray) : ByteArray := ⟨(Lib.join (ns.map (·.data.toList)) [32]).toArray⟩
theorem joined_eq (left : Tok) (s : Side) : joinedS left s = textOf (left.s :: spellS s) := rfl
theorem textOf_inj {a b : ByteArray} {l m : List ByteArray} (h1 : ∀ s ∈ a :: l, NoB s.data.toList) (h2 : ∀ s ∈ b :: m, NoB s.data.toList) (h : textOf (a :: l) = textOf (b :: m)) : a = b ∧ l = m := by
  have h3 : Lib.join ((a :: l).map (·.data.toList)) [32] = Lib.join ((b :: m).map (·.data.toList)) [32] := str_inj h
  rw [List.map_cons, List.map_cons, Lib.join_cons, Lib.join_cons] at h3
  obtain ⟨h4, h5⟩ := cut (h1 a (List.mem_cons_self ..)) (h2 b (List.mem_cons_self ..)) (tail_head _) (tail_head _) h3
  have h6 := tail_inj _ _ (fun x hx => by obtain ⟨s, hs, rfl⟩ := List.mem_map.1 hx; exact h1 s (List.mem_cons_of_mem _ hs)) (fun x hx => by obtain ⟨s, hs, rfl⟩ := List.mem_map.1 hx; exact h2 s (List.mem_cons_of_mem _ hs)) h5
  refine ⟨It.data_inj h4, ?_⟩
  have inj : ∀ p q : List ByteArray, p.map (·.data.toList) = q.map (·.data.toList) → p = q := by
    intro p
    induction p with
    | nil => intro q hq; cases q with
      | nil => rfl
      | cons y q => cases hq
    | cons x p ih => intro q hq; cases q with
      | nil => cases hq
      | cons y q =>
        injection hq with q1 q2
        rw [It.data_inj q1, ih q q2]
  exact inj l m h6

theorem sym_noB {s : ByteArray} (h : SymOk s) : NoB s.data.toList := by
  rcases h with h | h
  · obtain ⟨c, r, hl, _, h2, _⟩ := pln_head h
    rw [hl]
    intro x hx e
    have := List.all_eq_true.1 h2 x hx
    rw [e] at this
    exact absurd this (by decide)
  · obtain ⟨r, hl, h1, _⟩ := quo_form h
    rw [hl]
    intro x hx e
    subst e
    rcases List.mem_cons.1 hx with hx | hx
    · exact absurd hx (by decide)
    · rcases List.mem_append.1 hx with hx | hx
      · have := (h1 _ hx).1
        exact absurd this (by decide)
      · exact absurd (List.mem_singleton.1 hx) (by decide)
theorem sym_len {s : ByteArray} (h : SymOk s) : It.okLen s = true := by
  have key : s.data.toList.length = s.size := by simp
  unfold It.okLen
  rw [Bool.and_eq_true, decide_eq_true_iff, decide_eq_true_iff]
  rcases h with h | h
  · obtain ⟨c, r, hl, _, _, h3⟩ := pln_head h
    rw [hl, List.length_cons] at key
    rw [List.length_cons] at h3
    omega
  · obtain ⟨r, hl, _, h2, h3⟩ := quo_form h
    rw [hl] at key
    simp at key
    omega
theorem pln_kd {s : ByteArray} (h : Gr.plnS s = true) : kd s = 1 := (step_name h (z := []) (fun c r e => by cases e)).2

/-! ### A valid grammar -/

structure Val (G : Gram) : Prop where
  many : Gr.manyB G = false
  form : Gr.formB G = true
  once : Gr.onceB G = true
  known : Gr.knownB G = true
  unlike : Gr.unlikeB G = true
  ruled : Gr.ruledB G = true
  ord : ordB G = true

theorem val_of {G : Gram} (h : checkN G = 0) (ho : ordB G = true) : Val G := by
  obtain ⟨a, b, c, d, e, f⟩ := Gr.check_ok h
  exact ⟨a, b, c, d, e, f, ho⟩

theorem Val.term_ok {G : Gram} (h : Val G) : ∀ s ∈ G.terms, SymOk s := fun s hs => by
  have := h.form
  unfold Gr.formB at this
  rw [Bool.and_eq_true, List.all_eq_true] at this
  have := this.1 s hs
  rw [Bool.or_eq_true] at this
  exact this
theorem Val.non_ok {G : Gram} (h : Val G) : ∀ s ∈ G.nons, Gr.plnS s = true := fun s hs => by
  have := h.form
  unfold Gr.formB at this
  rw [Bool.and_eq_true, List.all_eq_true, List.all_eq_true] at this
  exact this.2 s hs
theorem Val.nodup {G : Gram} (h : Val G) : G.terms.Nodup ∧ G.nons.Nodup ∧ ∀ s ∈ G.nons, s ∉ G.terms := by
  have := h.once
  unfold Gr.onceB Gr.names at this
  rw [decide_eq_true_iff, List.nodup_append] at this
  exact ⟨this.1, this.2.1, fun s hs ht => this.2.2 s ht s hs rfl⟩

/-- A symbol is a terminal or a nonterminal, by its place. -/
theorem sym_at {G : Gram} {x : Int} (h1 : 1 ≤ x) (h2 : x ≤ (Gr.top G : Int)) : (∃ (s : Nat) (hs : s < G.terms.length), x = (s : Int) + 1 ∧ nameS G x = G.terms[s]) ∨ (∃ (s : Nat) (hs : s < G.nons.length), x = (G.terms.length : Int) + 1 + s ∧ nameS G x = G.nons[s]) := by
  unfold Gr.top at h2
  by_cases h : x ≤ (G.terms.length : Int)
  · obtain ⟨s, hs, rfl⟩ : ∃ s : Nat, s < G.terms.length ∧ x = (s : Int) + 1 := ⟨(x - 1).toNat, by omega, by omega⟩
    exact .inl ⟨s, hs, rfl, Gr.name_term hs⟩
  · obtain ⟨s, hs, e⟩ : ∃ s : Nat, s < G.nons.length ∧ x = (G.terms.length : Int) + 1 + s := ⟨(x - 1 - G.terms.length).toNat, by omega, by omega⟩
    refine .inr ⟨s, hs, e, ?_⟩
    have e2 : x = ((G.terms.length + s : Nat) : Int) + 1 := by omega
    rw [e2]
    exact Gr.name_non hs
theorem non_at {G : Gram} {x : Int} (h : Gr.nonB G x = true) : ∃ (s : Nat) (hs : s < G.nons.length), x = (G.terms.length : Int) + 1 + s ∧ nameS G x = G.nons[s] := by
  rw [Gr.nonB_iff] at h
  obtain ⟨s, hs, e⟩ : ∃ s : Nat, s < G.nons.length ∧ x = (G.terms.length : Int) + 1 + s := ⟨(x - 1 - G.terms.length).toNat, by omega, by omega⟩
  refine ⟨s, hs, e, ?_⟩
  have e2 : x = ((G.terms.length + s : Nat) : Int) + 1 := by omega
  rw [e2]
  exact Gr.name_non hs

theorem Val.rule {G : Gram} (h : Val G) {r : Int × List Int} (hr : r ∈ G.rules) : Gr.nonB G r.1 = true ∧ r.2.length ≤ 8 ∧ ∀ x ∈ r.2, 1 ≤ x ∧ x ≤ (Gr.top G : Int) := by
  have hk := h.known
  unfold Gr.knownB at hk
  rw [Bool.and_eq_true, List.all_eq_true] at hk
  have hk2 := hk.2 r hr
  rw [Bool.and_eq_true, List.all_eq_true] at hk2
  have hm := h.many
  unfold Gr.manyB at hm
  rw [Bool.or_eq_false_iff, List.any_eq_false] at hm
  have hm2 := hm.2 r hr
  rw [decide_eq_true_iff] at hm2
  exact ⟨hk2.1, by omega, fun x hx => by simpa using hk2.2 x hx⟩
theorem Val.few {G : Gram} (h : Val G) : G.terms.length ≤ 120 ∧ G.nons.length ≤ 120 ∧ G.rules.length ≤ 300 := by
  have hm := h.many
  unfold Gr.manyB at hm
  simp only [Bool.or_eq_false_iff, decide_eq_false_iff_not] at hm
  omega
theorem Val.start {G : Gram} (h : Val G) : Gr.nonB G G.start = true := by
  have hk := h.known
  unfold Gr.knownB at hk
  rw [Bool.and_eq_true] at hk
  exact hk.1
theorem Val.has {G : Gram} (h : Val G) {x : Int} (hx : Gr.nonB G x = true) : ∃ r ∈ G.rules, r.1 = x := by
  have h1 := Gr.ruled_of h.ruled h.known x
  rw [hx] at h1
  have h2 : 0 < (Gr.ofN G x).length := by simpa using h1.symm
  cases ho : Gr.ofN G x with
  | nil => rw [ho] at h2; exact absurd h2 (by decide)
  | cons i q =>
    obtain ⟨a, b⟩ := (Gr.mem_ofN (G := G) (s := x) (i := i)).1 (by rw [ho]; exact List.mem_cons_self ..)
    exact ⟨G.rules[i], List.getElem_mem a, by rw [← Gr.leftOf_get a]; exact b⟩
theorem Val.some {G : Gram} (h : Val G) : G.rules ≠ [] := by
  obtain ⟨r, hr, _⟩ := h.has h.start
  exact List.ne_nil_of_mem hr
theorem Val.pln {G : Gram} (h : Val G) {x : Int} (hx : Gr.nonB G x = true) : Gr.plnS (nameS G x) = true := by
  obtain ⟨s, hs, _, e⟩ := non_at hx
  rw [e]
  exact h.non_ok _ (List.getElem_mem hs)
theorem Val.sym {G : Gram} (h : Val G) {x : Int} (h1 : 1 ≤ x) (h2 : x ≤ (Gr.top G : Int)) : SymOk (nameS G x) := by
  rcases sym_at h1 h2 with ⟨s, hs, _, e⟩ | ⟨s, hs, _, e⟩
  · rw [e]
    exact h.term_ok _ (List.getElem_mem hs)
  · rw [e]
    exact .inl (h.non_ok _ (List.getElem_mem hs))
theorem Val.names {G : Gram} (h : Val G) : NamesOk G := ⟨h.term_ok, h.pln h.start, fun r hr => h.pln (h.rule hr).1, fun r hr x hx => h.sym ((h.rule hr).2.2 x hx).1 ((h.rule hr).2.2 x hx).2⟩

theorem num_back {G : Gram} (h : Val G) (b : ByteArray) (tx : List ByteArray) {x : Int} (h1 : 1 ≤ x) (h2 : x ≤ (Gr.top G : Int)) : numI ⟨b, G.terms, G.nons, tx⟩ (nameS G x) = x := by
  obtain ⟨n1, n2, n3⟩ := h.nodup
  unfold numI
  rcases sym_at h1 h2 with ⟨s, hs, e1, e⟩ | ⟨s, hs, e1, e⟩
  · rw [e, if_pos (It.isIn_mem.2 (List.getElem_mem hs)), Rd.num_same n1 hs, e1]
  · rw [e, if_neg (fun hh => n3 _ (List.getElem_mem hs) (It.isIn_mem.1 hh)), It.place_in (It.isIn_mem.2 (List.getElem_mem hs)), Rd.num_same n2 hs, e1]
    simp only
    omega

/-- The text of a rule. -/
def textR (G : Gram) (r : Int × List Int) : ByteArray := textOf (nameS G r.1 :: r.2.map (nameS G))

theorem textR_inj {G : Gram} (h : Val G) {r q : Int × List Int} (hr : r ∈ G.rules) (hq : q ∈ G.rules) (he : textR G r = textR G q) : r = q := by
  have nb : ∀ r ∈ G.rules, ∀ s ∈ nameS G r.1 :: r.2.map (nameS G), NoB s.data.toList := fun r hr s hs => by
    rcases List.mem_cons.1 hs with rfl | hs
    · exact sym_noB (.inl (h.names.left r hr))
    · obtain ⟨x, hx, rfl⟩ := List.mem_map.1 hs
      exact sym_noB (h.names.syms r hr x hx)
  obtain ⟨e1, e2⟩ := textOf_inj (nb r hr) (nb q hq) he
  have back : ∀ r ∈ G.rules, r.2 = (r.2.map (nameS G)).map (numI ⟨⟨#[]⟩, G.terms, G.nons, []⟩) := fun r hr => by
    rw [List.map_map]
    exact (List.map_id r.2).symm.trans (List.map_congr_left fun x hx => (num_back h _ _ ((h.rule hr).2.2 x hx).1 ((h.rule hr).2.2 x hx).2).symm)
  have nr : ∀ r ∈ G.rules, 1 ≤ r.1 ∧ r.1 ≤ (Gr.top G : Int) := fun r hr => by
    have := Gr.nonB_iff.1 (h.rule hr).1
    unfold Gr.top
    omega
  have f1 : r.1 = q.1 := by
    rw [← num_back h ⟨#[]⟩ [] (nr r hr).1 (nr r hr).2, e1, num_back h _ _ (nr q hq).1 (nr q hq).2]
  have f2 : r.2 = q.2 := by rw [back r hr, e2, ← back q hq]
  exact Prod.ext f1 f2

/-! ### Nonterminals in their order -/

def ins (L : List ByteArray) (s : ByteArray) : List ByteArray := if It.isIn L s then L else L ++ [s]
theorem ins_in (L : List ByteArray) (s : ByteArray) : It.isIn (ins L s) s = true := by
  unfold ins
  split
  · assumption
  · exact It.isIn_snoc L s
theorem ins_twice (L : List ByteArray) (s : ByteArray) : ins (ins L s) s = ins L s := by
  generalize hM : ins L s = M
  unfold ins
  rw [if_pos (by rw [← hM]; exact ins_in L s)]
theorem ins_le (L : List ByteArray) (s : ByteArray) : L.length ≤ (ins L s).length := by
  unfold ins
  split <;> simp
theorem fold_le (X : List ByteArray) (L : List ByteArray) : L.length ≤ (X.foldl ins L).length := by
  induction X generalizing L with
  | nil => exact Nat.le_refl _
  | cons x X ih => exact Nat.le_trans (ins_le L x) (ih (ins L x))

theorem seen_fold {G : Gram} (h : Val G) (k : Nat) (hk : k ≤ G.rules.length) : ∃ m, Gr.Seen G k m ∧ ((G.rules.take k).map fun r => nameS G r.1).foldl ins [] = G.nons.take m := by
  induction k with
  | zero => exact ⟨0, Gr.seen_zero G, by simp⟩
  | succ k ih =>
    obtain ⟨m, h1, h2⟩ := ih (by omega)
    have hkl : k < G.rules.length := by omega
    have hnon := Gr.known_non h.known hkl
    obtain ⟨i, hi, e1, e2⟩ := non_at hnon
    rw [Gr.leftOf_get hkl] at e2
    obtain ⟨n1, n2, n3⟩ := h.nodup
    have hfold : ((G.rules.take (k + 1)).map fun r => nameS G r.1).foldl ins [] = ins (G.nons.take m) G.nons[i] := by
      rw [List.take_add_one, List.getElem?_eq_getElem hkl, List.map_append, List.foldl_append, h2]
      simp only [Option.toList_some, List.map_cons, List.map_nil, List.foldl_cons, List.foldl_nil, e2]
    rcases Nat.lt_trichotomy i m with hlt | rfl | hlt
    · refine ⟨m, Gr.seen_skip h1 (.inr (by omega)), ?_⟩
      rw [hfold]
      unfold ins
      rw [if_pos (It.isIn_mem.2 (List.mem_iff_getElem.2 ⟨i, by rw [List.length_take]; omega, by rw [List.getElem_take]⟩))]
    · refine ⟨i + 1, Gr.seen_next h1 hnon e1, ?_⟩
      rw [hfold]
      unfold ins
      rw [if_neg]
      · rw [List.take_add_one, List.getElem?_eq_getElem hi]
        rfl
      · intro hh
        obtain ⟨j, hj, e⟩ := List.mem_iff_getElem.1 (It.isIn_mem.1 hh)
        rw [List.getElem_take] at e
        rw [List.length_take] at hj
        have := (List.getElem_inj n2).1 e
        omega
    · have := Gr.seen_far hkl h1 hnon (by omega)
      rw [h.ord] at this
      cases this

theorem fold_all {G : Gram} (h : Val G) : (G.rules.map fun r => nameS G r.1).foldl ins [] = G.nons := by
  obtain ⟨m, h1, h2⟩ := seen_fold h G.rules.length (Nat.le_refl _)
  rw [List.take_length] at h2
  rw [h2]
  refine List.take_of_length_le ?_
  rcases Nat.lt_or_ge m G.nons.length with hlt | hge
  · obtain ⟨r, hr, e⟩ := h.has (x := (G.terms.length : Int) + 1 + m) (by rw [Gr.nonB_iff]; omega)
    obtain ⟨j, hj, rfl⟩ := List.mem_iff_getElem.1 hr
    have := (h1.2 m hlt).2 ⟨j, hj, by rw [Gr.leftOf_get hj]; exact e⟩
    omega
  · exact hge

theorem fold_flat (G : Gram) (Q : List (Int × List Int × List (List Int))) (L : List ByteArray) : ((flat Q).map fun r => nameS G r.1).foldl ins L = (Q.map fun g => nameS G g.1).foldl ins L := by
  induction Q generalizing L with
  | nil => rfl
  | cons g Q ih =>
    have one : ∀ (S : List (List Int)), ((S.map fun l => (g.1, l)).map fun r => nameS G r.1).foldl ins (ins L (nameS G g.1)) = ins L (nameS G g.1) := by
      intro S
      induction S with
      | nil => rfl
      | cons l S ihS =>
        simp only [List.map_cons, List.foldl_cons, ins_twice]
        exact ihS
    have e : flat (g :: Q) = ((g.2.1 :: g.2.2).map fun l => (g.1, l)) ++ flat Q := by unfold flat; rw [List.flatMap_cons]
    rw [e, List.map_append, List.foldl_append, List.map_cons, List.map_cons, List.foldl_cons, one, ih]
    rfl

/-! ### The maker -/

theorem putM_has {L : List ByteArray} {t : Tok} (hl : It.okLen t.s = true) (hi : t.s ∈ L) : putM L t = .ok L := by
  have hi := It.isIn_mem.2 hi
  unfold putM It.putE It.putL
  rw [if_pos hl, if_pos hl, if_pos hi, if_pos hi, if_pos rfl]
theorem putM_new {L : List ByteArray} {t : Tok} (hl : It.okLen t.s = true) (hi : t.s ∉ L) (hn : L.length < 120) : putM L t = .ok (L ++ [t.s]) := by
  have hi : ¬ It.isIn L t.s = true := fun h => hi (It.isIn_mem.1 h)
  have hc : ¬ 120 ≤ L.length := by omega
  unfold putM It.putE It.putL
  rw [if_pos hl, if_pos hl, if_neg hi, if_neg hi, if_neg hc, if_neg hc, if_pos rfl]
theorem putM_ins {L : List ByteArray} {t : Tok} (hl : It.okLen t.s = true) (hn : (ins L t.s).length ≤ 120) : putM L t = .ok (ins L t.s) := by
  unfold ins at hn ⊢
  split at hn
  · rename_i hi
    rw [if_pos hi]
    exact putM_has hl (It.isIn_mem.1 hi)
  · rename_i hi
    rw [if_neg hi]
    exact putM_new hl (fun h => hi (It.isIn_mem.2 h)) (by simp at hn; omega)

theorem namesM_all (T : List Tok) : ∀ L : List ByteArray, (L ++ T.map (·.s)).Nodup → (L ++ T.map (·.s)).length ≤ 120 → (∀ t ∈ T, It.okLen t.s = true) → namesM L T = .ok (L ++ T.map (·.s)) := by
  induction T with
  | nil => intro L _ _ _; unfold namesM; simp
  | cons t T ih =>
    intro L hn hl ht
    rw [List.map_cons] at hn hl ⊢
    have hm : t.s ∉ L := fun hm => (List.nodup_append.1 hn).2.2 _ hm _ (List.mem_cons_self ..) rfl
    unfold namesM
    rw [if_neg (fun h => hm (It.isIn_mem.1 h)), putM_new (ht t (List.mem_cons_self ..)) hm (by simp at hl; omega)]
    show namesM (L ++ [t.s]) T = _
    have e : L ++ t.s :: T.map (·.s) = L ++ [t.s] ++ T.map (·.s) := by simp
    rw [e] at hn hl ⊢
    exact ih _ hn hl fun x hx => ht x (List.mem_cons_of_mem _ hx)

/-- A token that the maker knows. -/
def Fine (lf L1 : List ByteArray) (t : Tok) : Prop := (t.k = 2 ∧ t.s ∈ L1 ∧ It.okLen t.s = true) ∨ (t.k = 1 ∧ (t.s ∈ L1 ∨ t.s ∈ lf))
theorem fine_unk {lf L1 : List ByteArray} {t : Tok} (h : Fine lf L1 t) : unkB L1 lf t = false := by
  unfold unkB
  rcases h with ⟨h, _⟩ | ⟨_, h | h⟩
  · rw [h]; rfl
  · rw [It.isIn_mem.2 h]; simp
  · rw [It.isIn_mem.2 h]; simp
theorem symsM_all {lf L1 : List ByteArray} (T : List Tok) : ∀ i : Nat, i + T.length ≤ 8 → (∀ t ∈ T, Fine lf L1 t) → symsM lf L1 T i = .ok L1 := by
  induction T with
  | nil => intro i _ _; rfl
  | cons t T ih =>
    intro i hi ht
    have h := ht t (List.mem_cons_self ..)
    rw [List.length_cons] at hi
    have hs : symM lf L1 t i = .ok L1 := by
      unfold symM
      rw [fine_unk h, if_neg (by decide), if_neg (by omega)]
      rcases h with ⟨h, h2, h3⟩ | ⟨h, _⟩
      · rw [if_pos h, putM_has h3 h2]
      · rw [if_neg (by rw [h]; decide)]
    show (symM lf L1 t i).bind _ = _
    rw [hs]
    exact ih (i + 1) (by omega) fun x hx => ht x (List.mem_cons_of_mem _ hx)

structure FineS (lf L1 : List ByteArray) (s : Side) : Prop where
  few : s.syms.length ≤ 8
  syms : ∀ t ∈ s.syms, Fine lf L1 t
  first : s.first ∈ s.syms ∨ ¬ s.first.k = 1

theorem sidesM_all {lf L1 : List ByteArray} (left : Tok) (b : ByteArray) (L2 : List ByteArray) (Ss : List Side) : ∀ tx : List ByteArray, (tx ++ Ss.map fun s => textOf (left.s :: spellS s)).Nodup → (tx ++ Ss.map fun s => textOf (left.s :: spellS s)).length ≤ 300 → (∀ s ∈ Ss, FineS lf L1 s) →
    sidesM lf left ⟨b, L1, L2, tx⟩ Ss = .ok ⟨b, L1, L2, tx ++ Ss.map fun s => textOf (left.s :: spellS s)⟩ := by
  induction Ss with
  | nil => intro tx _ _ _; unfold sidesM; simp
  | cons s Ss ih =>
    intro tx hn hl hs
    rw [List.map_cons] at hn hl ⊢
    have h := hs s (List.mem_cons_self ..)
    have hm : textOf (left.s :: spellS s) ∉ tx := fun hm => (List.nodup_append.1 hn).2.2 _ hm _ (List.mem_cons_self ..) rfl
    have h1 : sideM lf left ⟨b, L1, L2, tx⟩ s = .ok ⟨b, L1, L2, tx ++ [textOf (left.s :: spellS s)]⟩ := by
      unfold sideM
      have hu : unkB L1 lf s.first = false := by
        rcases h.first with q | q
        · exact fine_unk (h.syms _ q)
        · unfold unkB
          have : (s.first.k == 1) = false := by simpa using q
          rw [this]
          rfl
      rw [joined_eq, if_neg (fun q => hm (It.isIn_mem.1 q)), if_neg (by simp only; rw [hu]; decide), if_neg (by simp only; simp at hl; omega)]
      simp only
      rw [symsM_all _ 0 (by rw [Nat.zero_add]; exact h.few) h.syms]
      rfl
    show (sideM lf left ⟨b, L1, L2, tx⟩ s).bind _ = _
    rw [h1]
    show sidesM lf left ⟨b, L1, L2, tx ++ [textOf (left.s :: spellS s)]⟩ Ss = _
    have e : tx ++ textOf (left.s :: spellS s) :: Ss.map (fun s => textOf (left.s :: spellS s)) = tx ++ [textOf (left.s :: spellS s)] ++ Ss.map fun s => textOf (left.s :: spellS s) := by simp
    rw [e] at hn hl ⊢
    exact ih _ hn hl fun x hx => hs x (List.mem_cons_of_mem _ hx)

/-- The texts of rules that are read. -/
def textsOf (Rs : List Rul) : List ByteArray := Rs.flatMap fun R => R.sides.map fun s => textOf (R.left.s :: spellS s)

theorem rulesM_all {lf L1 : List ByteArray} (b : ByteArray) (Rs : List Rul) : ∀ L2 tx : List ByteArray, (tx ++ textsOf Rs).Nodup → (tx ++ textsOf Rs).length ≤ 300 → ((Rs.map (·.left.s)).foldl ins L2).length ≤ 120 →
    (∀ R ∈ Rs, It.okLen R.left.s = true ∧ R.left.s ∉ L1 ∧ ∀ s ∈ R.sides, FineS lf L1 s) → rulesM lf ⟨b, L1, L2, tx⟩ Rs = .ok ⟨b, L1, (Rs.map (·.left.s)).foldl ins L2, tx ++ textsOf Rs⟩ := by
  induction Rs with
  | nil => intro L2 tx _ _ _ _; unfold rulesM; simp [textsOf]
  | cons R Rs ih =>
    intro L2 tx hn hl h2 hR
    obtain ⟨r1, r2, r3⟩ := hR R (List.mem_cons_self ..)
    have e : textsOf (R :: Rs) = (R.sides.map fun s => textOf (R.left.s :: spellS s)) ++ textsOf Rs := by unfold textsOf; rw [List.flatMap_cons]
    rw [e, ← List.append_assoc] at hn hl ⊢
    rw [List.map_cons, List.foldl_cons] at h2 ⊢
    have h1 : ruleM lf ⟨b, L1, L2, tx⟩ R = .ok ⟨b, L1, ins L2 R.left.s, tx ++ R.sides.map fun s => textOf (R.left.s :: spellS s)⟩ := by
      unfold ruleM
      simp only
      rw [if_neg (fun q => r2 (It.isIn_mem.1 q)), putM_ins r1 (Nat.le_trans (fold_le _ _) h2)]
      exact sidesM_all _ _ _ _ _ (List.nodup_append.1 hn).1 (by rw [List.length_append] at hl; omega) r3
    show (ruleM lf ⟨b, L1, L2, tx⟩ R).bind _ = _
    rw [h1]
    exact ih _ _ hn hl h2 fun x hx => hR x (List.mem_cons_of_mem _ hx)

theorem ruls_left {G : Gram} : ∀ {Q : List (Int × List Int × List (List Int))} {Rs : List Rul}, RulsOf G Q Rs → Rs.map (·.left.s) = Q.map fun g => nameS G g.1
  | [], [], _ => rfl
  | g :: Q, R :: Rs, h => by rw [List.map_cons, List.map_cons, h.1.left, ruls_left h.2]
  | [], R :: Rs, h => h.elim
  | g :: Q, [], h => h.elim
theorem ruls_mem {G : Gram} : ∀ {Q : List (Int × List Int × List (List Int))} {Rs : List Rul}, RulsOf G Q Rs → ∀ R ∈ Rs, ∃ g ∈ Q, RulOf G g R
  | [], [], _, R, hR => by cases hR
  | g :: Q, S :: Rs, h, R, hR => by
    rcases List.mem_cons.1 hR with rfl | hR
    · exact ⟨g, List.mem_cons_self .., h.1⟩
    · obtain ⟨k, hk, e⟩ := ruls_mem h.2 R hR
      exact ⟨k, List.mem_cons_of_mem _ hk, e⟩
  | [], R :: Rs, h, _, _ => h.elim
  | g :: Q, [], h, _, _ => h.elim
theorem ruls_texts {G : Gram} : ∀ {Q : List (Int × List Int × List (List Int))} {Rs : List Rul}, RulsOf G Q Rs → textsOf Rs = (flat Q).map (textR G)
  | [], [], _ => rfl
  | g :: Q, R :: Rs, h => by
    have e1 : textsOf (R :: Rs) = (R.sides.map fun s => textOf (R.left.s :: spellS s)) ++ textsOf Rs := by unfold textsOf; rw [List.flatMap_cons]
    have e2 : flat (g :: Q) = ((g.2.1 :: g.2.2).map fun l => (g.1, l)) ++ flat Q := by unfold flat; rw [List.flatMap_cons]
    have e3 : (R.sides.map fun s => textOf (R.left.s :: spellS s)) = (R.sides.map spellS).map fun ns => textOf (R.left.s :: ns) := by rw [List.map_map]; rfl
    rw [e1, e2, List.map_append, ruls_texts h.2, e3, h.1.spell, h.1.left, List.map_map, List.map_map]
    rfl
  | [], R :: Rs, h => h.elim
  | g :: Q, [], h => h.elim
theorem ruls_rows {G : Gram} {st : MSt} (hb : ∀ r ∈ G.rules, numI st (nameS G r.1) = r.1 ∧ ∀ x ∈ r.2, numI st (nameS G x) = x) : ∀ {Q : List (Int × List Int × List (List Int))} {Rs : List Rul}, RulsOf G Q Rs → (∀ r ∈ flat Q, r ∈ G.rules) → Rs.flatMap (rowsI st) = flat Q
  | [], [], _, _ => rfl
  | g :: Q, R :: Rs, h, hQ => by
    have e2 : flat (g :: Q) = ((g.2.1 :: g.2.2).map fun l => (g.1, l)) ++ flat Q := by unfold flat; rw [List.flatMap_cons]
    rw [e2] at hQ
    rw [List.flatMap_cons, e2, ruls_rows hb h.2 fun r hr => hQ r (List.mem_append_right _ hr)]
    congr 1
    have e3 : rowsI st R = (R.sides.map spellS).map fun ns => (numI st R.left.s, ns.map (numI st)) := by
      unfold rowsI spellS
      rw [List.map_map]
      refine List.map_congr_left fun s _ => ?_
      simp [List.map_map, Function.comp_def]
    rw [e3, h.1.spell, h.1.left, List.map_map]
    refine List.map_congr_left fun l hl => ?_
    have hm := hQ (g.1, l) (List.mem_append_left _ (List.mem_map.2 ⟨l, hl, rfl⟩))
    obtain ⟨q1, q2⟩ := hb _ hm
    simp only [Function.comp_apply, List.map_map]
    refine Prod.ext q1 ?_
    exact (List.map_congr_left fun x hx => q2 x hx).trans (List.map_id l)
  | [], R :: Rs, h, _ => h.elim
  | g :: Q, [], h, _ => h.elim

theorem make_show {G : Gram} (h : Val G) {D : List Decl} {Rs : List Rul} (hD : DeclsOf G D) (hR : RulsOf G (grp G.rules) Rs) : makeM ⟨D, Rs⟩ = .ok G := by
  obtain ⟨n1, n2, n3⟩ := h.nodup
  obtain ⟨f1, f2, f3⟩ := h.few
  have hlf : leftsM ⟨D, Rs⟩ = (grp G.rules).map fun g => nameS G g.1 := ruls_left hR
  have inlf : ∀ x, Gr.nonB G x = true → nameS G x ∈ leftsM ⟨D, Rs⟩ := fun x hx => by
    rw [hlf]
    obtain ⟨r, hr, e⟩ := h.has hx
    rw [← flat_grp G.rules] at hr
    obtain ⟨g, hg, hr⟩ := List.mem_flatMap.1 hr
    obtain ⟨l, _, rfl⟩ := List.mem_map.1 hr
    exact List.mem_map.2 ⟨g, hg, by rw [← e]⟩
  have hst := h.pln h.start
  have hlen := sym_len (.inl hst)
  have hdecl : declsM (leftsM ⟨D, Rs⟩) st0 D = .ok ⟨nameS G G.start, G.terms, [], []⟩ := by
    have one : ∀ (m n : Tok) (L : List ByteArray), m.k = 8 → n.s = nameS G G.start → declM (leftsM ⟨D, Rs⟩) ⟨⟨#[]⟩, L, [], []⟩ ⟨m, [n]⟩ = .ok ⟨nameS G G.start, L, [], []⟩ := fun m n L hm hn => by
      unfold declM
      rw [if_pos (by exact hm), if_neg (show ¬ isEmp (⟨#[]⟩ : ByteArray) = false by decide)]
      show (if It.isIn (leftsM ⟨D, Rs⟩) n.s = false then _ else _) = _
      rw [hn, It.isIn_mem.2 (inlf _ h.start), if_neg (by decide)]
      show Mo.ok (MSt.mk n.s L [] []) = _
      rw [hn]
    cases hD with
    | none m n hn hm hs =>
      have e : G.terms = [] := List.eq_nil_of_length_eq_zero hn
      show (declM _ _ _).bind _ = _
      unfold st0
      rw [one m n [] hm hs, e]
      rfl
    | some t m n T hn ht hT hm hs =>
      have hnames : namesM [] T = .ok G.terms := by
        rw [namesM_all T [] (by rw [List.nil_append, hT]; exact n1) (by rw [List.nil_append, hT]; exact f1) (fun t htm => sym_len (h.term_ok _ (by rw [← hT]; exact List.mem_map.2 ⟨t, htm, rfl⟩))), List.nil_append, hT]
      have h1 : declM (leftsM ⟨[⟨t, T⟩, ⟨m, [n]⟩], Rs⟩) st0 ⟨t, T⟩ = .ok ⟨⟨#[]⟩, G.terms, [], []⟩ := by
        unfold declM
        rw [if_neg (by show ¬ t.k = 8; rw [ht]; decide)]
        show (namesM [] T).bind _ = _
        rw [hnames]
        rfl
      show (declM _ _ _).bind _ = _
      rw [h1]
      show (declM _ _ _).bind _ = _
      rw [one m n G.terms hm hs]
      rfl
  have hfold : (Rs.map (·.left.s)).foldl ins [] = G.nons := by
    rw [ruls_left hR, ← fold_flat, flat_grp]
    exact fold_all h
  have htexts : textsOf Rs = G.rules.map (textR G) := by rw [ruls_texts hR, flat_grp]
  have hnd : (G.rules.map (textR G)).Nodup := by
    have hu := h.unlike
    unfold Gr.unlikeB at hu
    rw [decide_eq_true_iff] at hu
    exact Rd.nodup_through (textR G) id (by rw [List.map_id]; exact hu) fun x hx y hy e => textR_inj h hx hy e
  have hfine : ∀ R ∈ Rs, It.okLen R.left.s = true ∧ R.left.s ∉ G.terms ∧ ∀ s ∈ R.sides, FineS (leftsM ⟨D, Rs⟩) G.terms s := fun R hRm => by
    obtain ⟨g, hg, hro⟩ := ruls_mem hR R hRm
    have hmem : ∀ k ∈ g.2.1 :: g.2.2, (g.1, k) ∈ G.rules := fun k hk => by
      rw [← flat_grp G.rules]
      exact mem_flat hg hk
    have hl := (h.rule (hmem _ (List.mem_cons_self ..))).1
    refine ⟨by rw [hro.left]; exact sym_len (.inl (h.pln hl)), ?_, fun s hs => ?_⟩
    · rw [hro.left]
      obtain ⟨i, hi, _, e⟩ := non_at hl
      rw [e]
      exact n3 _ (List.getElem_mem hi)
    · have hsp : spellS s ∈ (g.2.1 :: g.2.2).map (·.map (nameS G)) := by rw [← hro.spell]; exact List.mem_map.2 ⟨s, hs, rfl⟩
      obtain ⟨k, hk, e⟩ := List.mem_map.1 hsp
      have hgd := hro.good s hs
      obtain ⟨_, q2, q3⟩ := h.rule (hmem k hk)
      refine ⟨?_, fun t ht => ?_, hgd.2⟩
      · have := congrArg List.length e
        unfold spellS at this
        rw [List.length_map, List.length_map] at this
        have q4 : k.length ≤ 8 := q2
        omega
      · have hts : t.s ∈ k.map (nameS G) := by rw [e]; exact List.mem_map.2 ⟨t, ht, rfl⟩
        obtain ⟨x, hx, ex⟩ := List.mem_map.1 hts
        have hkd := hgd.1 t ht
        obtain ⟨x1, x2⟩ := q3 x hx
        have hok := h.sym x1 x2
        rw [ex] at hok
        rcases sym_at x1 x2 with ⟨i, hi, _, e3⟩ | ⟨i, hi, e4, e3⟩
        · have hin : t.s ∈ G.terms := by rw [← ex, e3]; exact List.getElem_mem hi
          rcases kd_sym t.s with e5 | e5
          · exact .inr ⟨by rw [hkd, e5], .inl hin⟩
          · exact .inl ⟨by rw [hkd, e5], hin, sym_len hok⟩
        · have hnb : Gr.nonB G x = true := by rw [Gr.nonB_iff]; omega
          have hp := h.pln hnb
          rw [ex] at hp
          exact .inr ⟨by rw [hkd, pln_kd hp], .inr (by rw [← ex]; exact inlf x hnb)⟩
  have hrules : rulesM (leftsM ⟨D, Rs⟩) ⟨nameS G G.start, G.terms, [], []⟩ Rs = .ok ⟨nameS G G.start, G.terms, G.nons, G.rules.map (textR G)⟩ := by
    rw [rulesM_all (nameS G G.start) Rs [] [] (by rw [List.nil_append, htexts]; exact hnd) (by rw [List.nil_append, htexts, List.length_map]; exact f3) (by rw [hfold]; exact f2) hfine, hfold, List.nil_append, htexts]
  have hrun : runM ⟨D, Rs⟩ = .ok ⟨nameS G G.start, G.terms, G.nons, G.rules.map (textR G)⟩ := by
    unfold runM
    simp only
    rw [hdecl]
    exact hrules
  unfold makeM
  rw [hrun]
  show Mo.ok (Rd.gramM _ _) = _
  have rng : ∀ x, Gr.nonB G x = true → 1 ≤ x ∧ x ≤ (Gr.top G : Int) := fun x hx => by
    have := Gr.nonB_iff.1 hx
    unfold Gr.top
    omega
  have hrows := ruls_rows (G := G) (st := ⟨nameS G G.start, G.terms, G.nons, G.rules.map (textR G)⟩) (fun r hr => ⟨num_back h _ _ (rng _ (h.rule hr).1).1 (rng _ (h.rule hr).1).2, fun x hx => num_back h _ _ ((h.rule hr).2.2 x hx).1 ((h.rule hr).2.2 x hx).2⟩) hR (by rw [flat_grp]; exact fun r hr => hr)
  unfold Rd.gramM
  simp only
  rw [hrows, flat_grp, num_back h _ _ (rng _ h.start).1 (rng _ h.start).2]
  have hem : isEmp (nameS G G.start) = false := by
    unfold isEmp
    unfold It.okLen at hlen
    rw [Bool.and_eq_true, decide_eq_true_iff] at hlen
    have := hlen.1
    simpa using (by omega : ¬ (nameS G G.start).size = 0)
  rw [hem]
  rfl

/-- The text of a valid and ordered grammar has tokens that are read as a source that is made into this grammar. -/
theorem show_parts {G : Gram} (h : checkN G = 0) (ho : ordB G = true) (hl : (showL G).length ≤ 8192) : ∃ T src rest, Lexes (showL G) (.ok T) ∧ Is (fun f => sourceP f T) (.ok src rest) ∧ makeM src = .ok G := by
  have hv := val_of h ho
  have ht := txt_show G hv.some
  have hx := lexes_pieces (fits_show hv.names) (by rw [ht]; exact hl)
  rw [ht] at hx
  obtain ⟨f, D, Rs, d1, d2, d3⟩ := sourceP_show G hv.some ⟨0, ⟨#[]⟩, (showL G).length⟩ rfl
  exact ⟨_, ⟨D, Rs⟩, _, hx, ⟨f, d3, by rintro ⟨⟩⟩, make_show hv d1 d2⟩

end Go.Proofs.YtimfiaphhomelaaGreat.Sw

namespace Go.Proofs.YtimfiaphhomelaaGreat.Rd
open Go.Proofs.YtimfiaphhomelaaGreat.Tk (Tok)
set_option linter.unusedVariables false
set_option linter.unusedSimpArgs false

def Pr.nz {α : Type} (x : Pr α) : Prop := ∀ e q, x = .no e q → ¬ e = 0
theorem Pr.nz_ok {α : Type} (a : α) (r : List Tok) : (Pr.ok a r).nz := fun e q h => by cases h
theorem Pr.nz_out {α : Type} : (Pr.out : Pr α).nz := fun e q h => by cases h
theorem Pr.nz_bind {α β : Type} {x : Pr α} {f : α → List Tok → Pr β} (h : x.nz) (hf : ∀ a r, (f a r).nz) : (x.bind f).nz := by
  cases x with
  | ok a r => exact hf a r
  | no e q => exact fun e' q' h' => by injection h' with h1 h2; subst h1; exact h e q rfl
  | out => exact Pr.nz_out
theorem Pr.nz_ite {α : Type} {c : Prop} [Decidable c] {x y : Pr α} (h : x.nz) (k : y.nz) : (if c then x else y).nz := by
  split
  · exact h
  · exact k
theorem takeP_nz (ks : List Int) (l : List Tok) : (takeP ks l).nz := by
  cases l with
  | nil => exact Pr.nz_out
  | cons t r =>
    refine Pr.nz_ite (Pr.nz_ok _ _) fun e q h => ?_
    injection h with h1 h2
    subst h1
    split <;> decide
theorem declP_nz (l : List Tok) : (declP l).nz :=
  Pr.nz_bind (takeP_nz _ _) fun m r => Pr.nz_ite (Pr.nz_bind (takeP_nz _ _) fun _ _ => Pr.nz_ok _ _) (Pr.nz_bind (takeP_nz _ _) fun _ _ => Pr.nz_ok _ _)
theorem sidesP_nz : ∀ (f : Nat) (l : List Tok) (acc : List Side), (sidesP f l acc).nz
  | 0, _, _ => Pr.nz_out
  | f + 1, l, acc => Pr.nz_bind (takeP_nz _ _) fun t r => Pr.nz_ite (Pr.nz_ok _ _) (sidesP_nz f r _)
theorem ruleP_nz (f : Nat) (l : List Tok) : (ruleP f l).nz :=
  Pr.nz_bind (takeP_nz _ _) fun _ _ => Pr.nz_bind (takeP_nz _ _) fun _ _ => Pr.nz_bind (sidesP_nz _ _ _) fun _ _ => Pr.nz_ok _ _
theorem declsP_nz : ∀ (f : Nat) (l : List Tok) (acc : List Decl), (declsP f l acc).nz
  | 0, _, _ => Pr.nz_out
  | f + 1, l, acc => Pr.nz_ite (Pr.nz_ok _ _) (Pr.nz_bind (declP_nz _) fun d r => declsP_nz f r _)
theorem rulesP_nz : ∀ (f : Nat) (l : List Tok) (acc : List Rul), (rulesP f l acc).nz
  | 0, _, _ => Pr.nz_out
  | f + 1, l, acc => Pr.nz_ite (Pr.nz_ok _ _) (Pr.nz_bind (ruleP_nz _ _) fun d r => rulesP_nz f r _)
theorem sourceP_nz (f : Nat) (l : List Tok) : (sourceP f l).nz :=
  Pr.nz_bind (declsP_nz _ _ _) fun _ _ => Pr.nz_bind (takeP_nz _ _) fun _ _ => Pr.nz_bind (ruleP_nz _ _) fun _ _ => Pr.nz_bind (rulesP_nz _ _ _) fun _ _ => Pr.nz_ok _ _

def Mo.nz {α : Type} (x : Mo α) : Prop := ∀ e q, x = .no e q → ¬ e = 0
theorem Mo.nz_ok {α : Type} (a : α) : (Mo.ok a).nz := fun e q h => by cases h
theorem Mo.nz_no {α : Type} (e : Int) (q : Nat) (he : ¬ e = 0) : (Mo.no e q : Mo α).nz := fun e' q' h => by injection h with h1 h2; subst h1; exact he
theorem Mo.nz_bind {α β : Type} {x : Mo α} {f : α → Mo β} (h : x.nz) (hf : ∀ a, (f a).nz) : (x.bind f).nz := by
  cases x with
  | ok a => exact hf a
  | no e q => exact fun e' q' h' => by injection h' with h1 h2; subst h1; exact h e q rfl
theorem Mo.nz_ite {α : Type} {c : Prop} [Decidable c] {x y : Mo α} (h : x.nz) (k : y.nz) : (if c then x else y).nz := by
  split
  · exact h
  · exact k
theorem putM_nz (L : List ByteArray) (t : Tok) : (putM L t).nz := Mo.nz_ite (Mo.nz_ok _) (Mo.nz_no _ _ (by decide))
theorem namesM_nz : ∀ (T : List Tok) (L : List ByteArray), (namesM L T).nz
  | [], L => Mo.nz_ok _
  | t :: r, L => Mo.nz_ite (Mo.nz_no _ _ (by decide)) (Mo.nz_bind (putM_nz _ _) fun L' => namesM_nz r L')
theorem declM_nz (lf : List ByteArray) (st : MSt) (d : Decl) : (declM lf st d).nz :=
  Mo.nz_ite (Mo.nz_ite (Mo.nz_no _ _ (by decide)) (Mo.nz_ite (Mo.nz_no _ _ (by decide)) (Mo.nz_ok _))) (Mo.nz_bind (namesM_nz _ _) fun _ => Mo.nz_ok _)
theorem symM_nz (lf L : List ByteArray) (t : Tok) (i : Nat) : (symM lf L t i).nz :=
  Mo.nz_ite (Mo.nz_no _ _ (by decide)) (Mo.nz_ite (Mo.nz_no _ _ (by decide)) (Mo.nz_ite (putM_nz _ _) (Mo.nz_ok _)))
theorem symsM_nz (lf : List ByteArray) : ∀ (T : List Tok) (L : List ByteArray) (i : Nat), (symsM lf L T i).nz
  | [], L, i => Mo.nz_ok _
  | t :: r, L, i => Mo.nz_bind (symM_nz _ _ _ _) fun L' => symsM_nz lf r L' (i + 1)
theorem sideM_nz (lf : List ByteArray) (left : Tok) (st : MSt) (s : Side) : (sideM lf left st s).nz :=
  Mo.nz_ite (Mo.nz_no _ _ (by decide)) (Mo.nz_ite (Mo.nz_no _ _ (by decide)) (Mo.nz_ite (Mo.nz_no _ _ (by decide)) (Mo.nz_bind (symsM_nz _ _ _ _) fun _ => Mo.nz_ok _)))
theorem sidesM_nz (lf : List ByteArray) (left : Tok) : ∀ (S : List Side) (st : MSt), (sidesM lf left st S).nz
  | [], st => Mo.nz_ok _
  | s :: r, st => Mo.nz_bind (sideM_nz _ _ _ _) fun st' => sidesM_nz lf left r st'
theorem ruleM_nz (lf : List ByteArray) (st : MSt) (R : Rul) : (ruleM lf st R).nz :=
  Mo.nz_ite (Mo.nz_no _ _ (by decide)) (Mo.nz_bind (putM_nz _ _) fun _ => sidesM_nz _ _ _ _)
theorem rulesM_nz (lf : List ByteArray) : ∀ (S : List Rul) (st : MSt), (rulesM lf st S).nz
  | [], st => Mo.nz_ok _
  | s :: r, st => Mo.nz_bind (ruleM_nz _ _ _) fun st' => rulesM_nz lf r st'
theorem declsM_nz (lf : List ByteArray) : ∀ (S : List Decl) (st : MSt), (declsM lf st S).nz
  | [], st => Mo.nz_ok _
  | s :: r, st => Mo.nz_bind (declM_nz _ _ _) fun st' => declsM_nz lf r st'
theorem makeM_nz (src : Src) : (makeM src).nz :=
  Mo.nz_bind (Mo.nz_bind (declsM_nz _ _ _) fun _ => rulesM_nz _ _ _) fun _ => Mo.nz_ok _

end Go.Proofs.YtimfiaphhomelaaGreat.Rd
