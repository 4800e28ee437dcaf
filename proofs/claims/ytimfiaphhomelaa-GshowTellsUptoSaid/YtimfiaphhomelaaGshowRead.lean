/-
  What the plain parser makes of the text of a grammar. No program in it.
-/
import Derived.Test.YtimfiaphhomelaaGshowPlain
import Derived.Test.YtimfiaphhomelaaGshowLex
namespace Go.Proofs.Ytimfiaphhomelaa.Sw
open Go.Proofs.Ytimfiaphhomelaa.Tk (Tok stepL)
open Go.Proofs.Ytimfiaphhomelaa.Gr (Gram nameS checkN ordB leftOf)
open Go.Proofs.Ytimfiaphhomelaa.Rd (symB symsL restL headT takeP declP declsP sidesP ruleP rulesP sourceP Side Rul Decl Src Pr)
set_option linter.unusedVariables false
set_option linter.unusedSimpArgs false

/-- Rules in groups: consecutive ones with one left side. -/
def grp : List (Int × List Int) → List (Int × List Int × List (List Int))
  | [] => []
  | (a, l) :: r => match grp r with
    | [] => [(a, l, [])]
    | (b, m, S) :: q => if a = b then (a, l, m :: S) :: q else (a, l, []) :: (b, m, S) :: q
def flat (Q : List (Int × List Int × List (List Int))) : List (Int × List Int) := Q.flatMap fun g => (g.2.1 :: g.2.2).map fun l => (g.1, l)

theorem flat_grp (R : List (Int × List Int)) : flat (grp R) = R := by
  induction R with
  | nil => rfl
  | cons r q ih =>
    obtain ⟨a, l⟩ := r
    unfold grp
    cases hg : grp q with
    | nil =>
      rw [hg] at ih
      rw [← ih]
      rfl
    | cons g t =>
      obtain ⟨b, m, S⟩ := g
      rw [hg] at ih
      simp only
      split
      · rename_i hab
        subst hab
        rw [← ih]
        simp [flat]
      · rw [← ih]
        simp [flat]

def barPc : List Pc := [gap 10, gap 9, ⟨4, [124]⟩]
def endPc : List Pc := [gap 10, gap 9, ⟨5, [59]⟩, gap 10]
def sidePc (G : Gram) (l : List Int) : List Pc := symPc (l.map (nameS G))
/-- Right sides, up to the semicolon. -/
def tailPc (G : Gram) : List Int → List (List Int) → List Pc
  | l, [] => sidePc G l ++ endPc
  | l, m :: r => sidePc G l ++ (barPc ++ tailPc G m r)
def grpPc (G : Gram) (g : Int × List Int × List (List Int)) : List Pc := [⟨1, nmL G g.1⟩, gap 32, ⟨3, [58]⟩] ++ tailPc G g.2.1 g.2.2
def headPc (G : Gram) : List Pc := if G.terms.length = 0 then [] else ⟨7, [37, 116, 111, 107, 101, 110]⟩ :: (symPc G.terms ++ [gap 10])
def midPc (G : Gram) : List Pc := [⟨8, [37, 115, 116, 97, 114, 116]⟩, gap 32, ⟨1, nmL G G.start⟩, gap 10, ⟨6, [37, 37]⟩, gap 10]
def showPc (G : Gram) : List Pc := headPc G ++ (midPc G ++ (grp G.rules).flatMap (grpPc G))

/-! ### The text -/

theorem txt_side (G : Gram) (l : List Int) : txt (sidePc G l) = rightL G l := by
  unfold sidePc rightL nmL
  rw [txt_sym, List.flatMap_map]

/-- What rules add behind one with a left side. -/
def moreL (G : Gram) : Int → List (Int × List Int) → List UInt8
  | _, [] => []
  | p, r :: q => (if p = r.1 then [10, 9, 124] ++ rightL G r.2 else [10, 9, 59, 10] ++ ruleL G r) ++ moreL G r.1 q

theorem rows_more (G : Gram) (r : Int × List Int) (q : List (Int × List Int)) : (List.range q.length).flatMap (fun i => rowL G (r :: q) (i + 1)) = moreL G r.1 q := by
  induction q generalizing r with
  | nil => rfl
  | cons s q ih =>
    rw [List.length_cons, List.range_succ_eq_map, List.flatMap_cons, List.flatMap_map]
    have e : (fun i => rowL G (r :: s :: q) (Nat.succ i + 1)) = fun i => rowL G (s :: q) (i + 1) := by
      funext i
      rfl
    rw [e, ih]
    rfl
theorem rows_all (G : Gram) (r : Int × List Int) (q : List (Int × List Int)) : rowsL G (r :: q) (r :: q).length = ruleL G r ++ moreL G r.1 q := by
  unfold rowsL
  rw [List.length_cons, List.range_succ_eq_map, List.flatMap_cons, List.flatMap_map]
  rw [← rows_more]
  rfl

theorem txt_grp (G : Gram) (g : Int × List Int × List (List Int)) : txt (grpPc G g) = nmL G g.1 ++ ([32, 58] ++ txt (tailPc G g.2.1 g.2.2)) := by
  unfold grpPc
  rw [txt_append]
  simp [txt, gap]

theorem grp_text (G : Gram) (a : Int) (l : List Int) (R : List (Int × List Int)) : ∃ m S q, grp ((a, l) :: R) = (a, m, S) :: q ∧ txt (tailPc G m S) ++ txt (q.flatMap (grpPc G)) = rightL G l ++ (moreL G a R ++ [10, 9, 59, 10]) := by
  induction R generalizing a l with
  | nil =>
    refine ⟨l, [], [], rfl, ?_⟩
    unfold tailPc
    rw [txt_append, txt_side]
    simp [txt, gap, endPc, moreL]
  | cons r R ih =>
    obtain ⟨b, k⟩ := r
    obtain ⟨m, S, q, h1, h2⟩ := ih b k
    unfold grp
    rw [h1]
    simp only
    by_cases hab : a = b
    · subst hab
      refine ⟨l, m :: S, q, by rw [if_pos rfl], ?_⟩
      unfold tailPc
      rw [txt_append, txt_append, txt_side, List.append_assoc, List.append_assoc, h2]
      simp [txt, gap, barPc, moreL]
    · refine ⟨l, [], (b, m, S) :: q, by rw [if_neg hab], ?_⟩
      unfold tailPc
      rw [txt_append, txt_side, List.flatMap_cons, txt_append, txt_grp, List.append_assoc, List.append_assoc]
      simp only [List.append_assoc]
      rw [h2]
      simp [txt, gap, endPc, moreL, hab, ruleL]

theorem txt_show (G : Gram) (hne : G.rules ≠ []) : txt (showPc G) = showL G := by
  have hh : txt (headPc G) = tokenL G := by
    unfold headPc tokenL
    split
    · rfl
    · rw [txt_cons, txt_append, txt_sym]
      rfl
  have hm : txt (midPc G) = startL G ++ [37, 37, 10] := by
    unfold midPc startL
    simp [txt, gap]
  unfold showPc showL
  rw [txt_append, txt_append, hh, hm]
  cases hr : G.rules with
  | nil => exact absurd hr hne
  | cons r q =>
    obtain ⟨a, l⟩ := r
    obtain ⟨m, S, t, h1, h2⟩ := grp_text G a l q
    rw [h1, rows_all, List.flatMap_cons, txt_append, txt_grp]
    simp only [List.append_assoc]
    rw [h2]
    simp [ruleL, List.append_assoc]

/-! ### It fits -/

/-- What is asked of a grammar's names. -/
structure NamesOk (G : Gram) : Prop where
  terms : ∀ s ∈ G.terms, SymOk s
  start : Gr.plnS (nameS G G.start) = true
  left : ∀ r ∈ G.rules, Gr.plnS (nameS G r.1) = true
  syms : ∀ r ∈ G.rules, ∀ x ∈ r.2, SymOk (nameS G x)

theorem stops_end (z : List UInt8) : Stops (txt endPc ++ z) := stops_cons _ (by decide)
theorem stops_bar (P : List Pc) (z : List UInt8) : Stops (txt (barPc ++ P) ++ z) := stops_cons _ (by decide)
theorem fits_end (z : List UInt8) : Fits endPc z := ⟨⟨step_gap (.inr (.inr (.inl rfl))) _, show ¬ (-1 : Int) = 0 by decide⟩, ⟨step_gap (.inr (.inl rfl)) _, show ¬ (-1 : Int) = 0 by decide⟩, ⟨step_semi _, show ¬ (5 : Int) = 0 by decide⟩, ⟨step_gap (.inr (.inr (.inl rfl))) _, show ¬ (-1 : Int) = 0 by decide⟩, trivial⟩
theorem fits_bar (z : List UInt8) : Fits barPc z := ⟨⟨step_gap (.inr (.inr (.inl rfl))) _, show ¬ (-1 : Int) = 0 by decide⟩, ⟨step_gap (.inr (.inl rfl)) _, show ¬ (-1 : Int) = 0 by decide⟩, ⟨step_bar _, show ¬ (4 : Int) = 0 by decide⟩, trivial⟩

theorem fits_tail {G : Gram} (S : List (List Int)) (l : List Int) (h : ∀ k ∈ l :: S, ∀ x ∈ k, SymOk (nameS G x)) (z : List UInt8) : Fits (tailPc G l S) z := by
  have one : ∀ k ∈ l :: S, ∀ s ∈ k.map (nameS G), SymOk s := fun k hk s hs => by
    obtain ⟨x, hx, rfl⟩ := List.mem_map.1 hs
    exact h k hk x hx
  induction S generalizing l with
  | nil => exact fits_append (fits_sym (one l (List.mem_cons_self ..)) (stops_end z)) (fits_end z)
  | cons m S ih => exact fits_append (fits_sym (one l (List.mem_cons_self ..)) (stops_bar _ z)) (fits_append (fits_bar _) (ih m (fun k hk => h k (List.mem_cons_of_mem _ hk)) fun k hk => one k (List.mem_cons_of_mem _ hk)))

theorem fits_grp {G : Gram} (g : Int × List Int × List (List Int)) (hl : Gr.plnS (nameS G g.1) = true) (h : ∀ k ∈ g.2.1 :: g.2.2, ∀ x ∈ k, SymOk (nameS G x)) (z : List UInt8) : Fits (grpPc G g) z := by
  refine fits_append ⟨⟨(step_name hl ?_).1, show ¬ (1 : Int) = 0 by decide⟩, ⟨step_gap (.inl rfl) _, show ¬ (-1 : Int) = 0 by decide⟩, ⟨step_colon _, show ¬ (3 : Int) = 0 by decide⟩, trivial⟩ (fits_tail _ _ h z)
  exact stops_cons _ (by decide)

theorem mem_flat {Q : List (Int × List Int × List (List Int))} {g : Int × List Int × List (List Int)} (hg : g ∈ Q) {k : List Int} (hk : k ∈ g.2.1 :: g.2.2) : (g.1, k) ∈ flat Q :=
  List.mem_flatMap.2 ⟨g, hg, List.mem_map.2 ⟨k, hk, rfl⟩⟩

theorem fits_grps {G : Gram} (hN : NamesOk G) (Q : List (Int × List Int × List (List Int))) (hQ : ∀ r ∈ flat Q, r ∈ G.rules) (z : List UInt8) : Fits (Q.flatMap (grpPc G)) z := by
  induction Q with
  | nil => trivial
  | cons g Q ih =>
    rw [List.flatMap_cons]
    have hq : ∀ r ∈ flat Q, r ∈ G.rules := fun r hr => hQ r (by unfold flat at hr ⊢; rw [List.flatMap_cons]; exact List.mem_append_right _ hr)
    refine fits_append (fits_grp g (hN.left _ (hQ _ (mem_flat (List.mem_cons_self ..) (List.mem_cons_self ..)))) (fun k hk x hx => hN.syms _ (hQ _ (mem_flat (List.mem_cons_self ..) hk)) x hx) _) (ih hq)

theorem fits_show {G : Gram} (hN : NamesOk G) : Fits (showPc G) [] := by
  unfold showPc
  refine fits_append ?_ (fits_append ?_ (fits_grps hN _ (by rw [flat_grp]; exact fun r h => h) []))
  · unfold headPc
    split
    · trivial
    · refine ⟨⟨step_word (w := [116, 111, 107, 101, 110]) (by decide) (.inl ⟨rfl, rfl⟩) ?_, show ¬ (7 : Int) = 0 by decide⟩, fits_append (fits_sym hN.terms ?_) ⟨⟨step_gap (.inr (.inr (.inl rfl))) _, show ¬ (-1 : Int) = 0 by decide⟩, trivial⟩⟩
      · rw [txt_append, List.append_assoc]
        exact stops_sym _ (stops_cons _ (by decide))
      · exact stops_cons _ (by decide)
  · exact ⟨⟨step_word (w := [115, 116, 97, 114, 116]) (by decide) (.inr ⟨rfl, rfl⟩) (stops_cons _ (by decide)), show ¬ (8 : Int) = 0 by decide⟩, ⟨step_gap (.inl rfl) _, show ¬ (-1 : Int) = 0 by decide⟩, ⟨(step_name hN.start (stops_cons _ (by decide))).1, show ¬ (1 : Int) = 0 by decide⟩, ⟨step_gap (.inr (.inr (.inl rfl))) _, show ¬ (-1 : Int) = 0 by decide⟩, ⟨step_mark _, show ¬ (6 : Int) = 0 by decide⟩, ⟨step_gap (.inr (.inr (.inl rfl))) _, show ¬ (-1 : Int) = 0 by decide⟩, trivial⟩

/-! ### The parser -/

theorem syms_app {T : List Tok} (hT : ∀ t ∈ T, symB t = true) {x : Tok} {r : List Tok} (hx : symB x = false) : symsL (T ++ x :: r) = T ∧ restL (T ++ x :: r) = x :: r := by
  unfold symsL restL
  induction T with
  | nil => exact ⟨by rw [List.nil_append, List.takeWhile_cons, if_neg (by rw [hx]; decide)], by rw [List.nil_append, List.dropWhile_cons, if_neg (by rw [hx]; decide)]⟩
  | cons t T ih =>
    have h := hT t (List.mem_cons_self ..)
    obtain ⟨i1, i2⟩ := ih fun y hy => hT y (List.mem_cons_of_mem _ hy)
    exact ⟨by rw [List.cons_append, List.takeWhile_cons, if_pos h, i1], by rw [List.cons_append, List.dropWhile_cons, if_pos h, i2]⟩
theorem symB_kd {t : Tok} (h : t.k = kd t.s) : symB t = true := by
  unfold symB
  rw [h]
  rcases kd_sym t.s with e | e <;> rw [e] <;> rfl

theorem takeP_at {ks : List Int} {t : Tok} {r : List Tok} (h : ks.contains t.k = true) : takeP ks (t :: r) = .ok t r := by
  show (if ks.contains t.k = true then Pr.ok t r else Pr.no (if t.k = 0 then 4 else 3) t.at_) = _
  rw [if_pos h]

/-- A side whose symbols are read as they are. -/
def GoodSide (s : Side) : Prop := (∀ t ∈ s.syms, t.k = kd t.s) ∧ (s.first ∈ s.syms ∨ ¬ s.first.k = 1)
def spellS (s : Side) : List ByteArray := s.syms.map (·.s)

theorem good_side {T : List Tok} (hT : ∀ t ∈ T, t.k = kd t.s) {x : Tok} {r : List Tok} (hx : ¬ x.k = 1) : GoodSide ⟨headT (T ++ x :: r), T⟩ := by
  refine ⟨hT, ?_⟩
  cases T with
  | nil => exact .inr hx
  | cons t T => exact .inl (List.mem_cons_self ..)

theorem sidesP_tail (G : Gram) (S : List (List Int)) : ∀ (l : List Int) (a f : Nat) (acc : List Side) (rest : List Tok), S.length < f → ∃ Ss, sidesP f (toks a (tailPc G l S) ++ rest) acc = .ok (acc ++ Ss) rest ∧ Ss.map spellS = (l :: S).map (·.map (nameS G)) ∧ ∀ s ∈ Ss, GoodSide s := by
  induction S with
  | nil =>
    intro l a f acc rest hf
    obtain ⟨f, rfl⟩ : ∃ m, f = m + 1 := ⟨f - 1, by omega⟩
    obtain ⟨k1, k2⟩ := toks_sym (l.map (nameS G)) a
    obtain ⟨x, hx, e⟩ : ∃ x : Tok, x.k = 5 ∧ toks a (tailPc G l []) ++ rest = toks a (sidePc G l) ++ x :: rest := by
      unfold tailPc
      rw [toks_append, List.append_assoc]
      exact ⟨_, rfl, rfl⟩
    obtain ⟨s1, s2⟩ := syms_app (T := toks a (sidePc G l)) (fun t ht => symB_kd (k2 t ht)) (x := x) (r := rest) (by unfold symB; rw [hx]; rfl)
    refine ⟨[⟨headT (toks a (sidePc G l) ++ x :: rest), toks a (sidePc G l)⟩], ?_, ?_, ?_⟩
    · rw [e]
      unfold sidesP
      rw [s1, s2]
      have ht : takeP [4, 5] (x :: rest) = .ok x rest := takeP_at (by rw [hx]; rfl)
      rw [ht]
      show (if x.k = 5 then _ else _) = _
      rw [if_pos hx]
    · show [spellS _] = [_]
      unfold spellS
      exact congrArg (fun y => [y]) k1
    · intro s hs
      rw [List.mem_singleton] at hs
      subst hs
      exact good_side k2 (by rw [hx]; decide)
  | cons m S ih =>
    intro l a f acc rest hf
    obtain ⟨f, rfl⟩ : ∃ m, f = m + 1 := ⟨f - 1, by omega⟩
    obtain ⟨k1, k2⟩ := toks_sym (l.map (nameS G)) a
    obtain ⟨x, hx, b, e⟩ : ∃ x : Tok, x.k = 4 ∧ ∃ b, toks a (tailPc G l (m :: S)) ++ rest = toks a (sidePc G l) ++ x :: (toks b (tailPc G m S) ++ rest) := by
      have e : tailPc G l (m :: S) = sidePc G l ++ (barPc ++ tailPc G m S) := rfl
      rw [e, toks_append, toks_append, List.append_assoc]
      exact ⟨_, rfl, _, rfl⟩
    obtain ⟨Ss, i1, i2, i3⟩ := ih m b f (acc ++ [⟨headT (toks a (sidePc G l) ++ x :: (toks b (tailPc G m S) ++ rest)), toks a (sidePc G l)⟩]) rest (by simpa using hf)
    obtain ⟨s1, s2⟩ := syms_app (T := toks a (sidePc G l)) (fun t ht => symB_kd (k2 t ht)) (x := x) (r := toks b (tailPc G m S) ++ rest) (by unfold symB; rw [hx]; rfl)
    refine ⟨⟨headT (toks a (sidePc G l) ++ x :: (toks b (tailPc G m S) ++ rest)), toks a (sidePc G l)⟩ :: Ss, ?_, ?_, ?_⟩
    · rw [e]
      unfold sidesP
      rw [s1, s2]
      have ht : takeP [4, 5] (x :: (toks b (tailPc G m S) ++ rest)) = .ok x (toks b (tailPc G m S) ++ rest) := takeP_at (by rw [hx]; rfl)
      rw [ht]
      show (if x.k = 5 then _ else _) = _
      rw [if_neg (by rw [hx]; decide), i1, List.append_assoc]
      rfl
    · rw [List.map_cons, i2, List.map_cons]
      exact congrArg (· :: _) k1
    · intro s hs
      rcases List.mem_cons.1 hs with rfl | hs
      · exact good_side k2 (by rw [hx]; decide)
      · exact i3 s hs

/-- A rule that is read as a group is written. -/
structure RulOf (G : Gram) (g : Int × List Int × List (List Int)) (R : Rul) : Prop where
  left : R.left.s = nameS G g.1
  spell : R.sides.map spellS = (g.2.1 :: g.2.2).map (·.map (nameS G))
  good : ∀ s ∈ R.sides, GoodSide s

theorem ruleP_grp (G : Gram) (g : Int × List Int × List (List Int)) (a f : Nat) (rest : List Tok) (hf : g.2.2.length < f) : ∃ R, ruleP f (toks a (grpPc G g) ++ rest) = .ok R rest ∧ RulOf G g R := by
  obtain ⟨x, y, b, hx, hxs, hy, e⟩ : ∃ (x y : Tok) (b : Nat), x.k = 1 ∧ x.s = nameS G g.1 ∧ y.k = 3 ∧ toks a (grpPc G g) ++ rest = x :: y :: (toks b (tailPc G g.2.1 g.2.2) ++ rest) := by
    unfold grpPc
    rw [toks_append]
    exact ⟨_, _, _, rfl, str_of _, rfl, rfl⟩
  obtain ⟨Ss, i1, i2, i3⟩ := sidesP_tail G g.2.2 g.2.1 b f [] rest hf
  refine ⟨⟨x, Ss⟩, ?_, hxs, i2, i3⟩
  rw [e]
  unfold ruleP
  have h1 : takeP [1] (x :: y :: (toks b (tailPc G g.2.1 g.2.2) ++ rest)) = .ok x (y :: (toks b (tailPc G g.2.1 g.2.2) ++ rest)) := takeP_at (by rw [hx]; rfl)
  have h2 : takeP [3] (y :: (toks b (tailPc G g.2.1 g.2.2) ++ rest)) = .ok y (toks b (tailPc G g.2.1 g.2.2) ++ rest) := takeP_at (by rw [hy]; rfl)
  rw [h1]
  show (takeP [3] (y :: (toks b (tailPc G g.2.1 g.2.2) ++ rest))).bind _ = _
  rw [h2]
  show (sidesP f (toks b (tailPc G g.2.1 g.2.2) ++ rest) []).bind _ = _
  rw [i1]
  rfl

/-- Rules that are read as groups are written. -/
def RulsOf (G : Gram) : List (Int × List Int × List (List Int)) → List Rul → Prop
  | [], [] => True
  | g :: Q, R :: Rs => RulOf G g R ∧ RulsOf G Q Rs
  | _, _ => False

theorem head_grp (G : Gram) (g : Int × List Int × List (List Int)) (a : Nat) (P : List Pc) (rest : List Tok) : ¬ (headT (toks a (grpPc G g ++ P) ++ rest)).k = 0 := by
  unfold grpPc
  rw [toks_append, toks_append]
  exact show ¬ (1 : Int) = 0 by decide

theorem rulesP_grps (G : Gram) (Q : List (Int × List Int × List (List Int))) : ∀ (a : Nat) (acc : List Rul) (x : Tok), x.k = 0 → ∃ f0 Rs, RulsOf G Q Rs ∧ ∀ f, f0 ≤ f → rulesP f (toks a (Q.flatMap (grpPc G)) ++ [x]) acc = .ok (acc ++ Rs) [x] := by
  induction Q with
  | nil =>
    intro a acc x hx
    refine ⟨1, [], trivial, fun f hf => ?_⟩
    obtain ⟨f, rfl⟩ : ∃ m, f = m + 1 := ⟨f - 1, by omega⟩
    show rulesP (f + 1) [x] acc = _
    unfold rulesP
    rw [if_pos (show (headT [x]).k = 0 from hx), List.append_nil]
  | cons g Q ih =>
    intro a acc x hx
    obtain ⟨R, hg, hR⟩ := ruleP_grp G g a (g.2.2.length + 1) (toks (a + (txt (grpPc G g)).length) (Q.flatMap (grpPc G)) ++ [x]) (by omega)
    obtain ⟨f0, Rs, h1, h2⟩ := ih (a + (txt (grpPc G g)).length) (acc ++ [R]) x hx
    refine ⟨g.2.2.length + f0 + 2, R :: Rs, ⟨hR, h1⟩, fun f hf => ?_⟩
    obtain ⟨f, rfl⟩ : ∃ m, f = m + 1 := ⟨f - 1, by omega⟩
    have hr : ruleP (f + 1) (toks a (grpPc G g) ++ (toks (a + (txt (grpPc G g)).length) (Q.flatMap (grpPc G)) ++ [x])) = .ok R (toks (a + (txt (grpPc G g)).length) (Q.flatMap (grpPc G)) ++ [x]) := by
      rcases Rd.ruleP_le (g.2.2.length + 1) (f + 1) (toks a (grpPc G g) ++ (toks (a + (txt (grpPc G g)).length) (Q.flatMap (grpPc G)) ++ [x])) (by omega) with e | e
      · rw [hg] at e
        cases e
      · rw [← e]
        exact hg
    rw [List.flatMap_cons]
    unfold rulesP
    rw [if_neg (head_grp G g a _ _), toks_append, List.append_assoc, hr]
    show rulesP f _ (acc ++ [R]) = _
    rw [h2 f (by omega), List.append_assoc]
    rfl

/-- The declarations that are read. -/
inductive DeclsOf (G : Gram) : List Decl → Prop
  | none (m n : Tok) (hn : G.terms.length = 0) (hm : m.k = 8) (hs : n.s = nameS G G.start) : DeclsOf G [⟨m, [n]⟩]
  | some (t m n : Tok) (T : List Tok) (hn : ¬ G.terms.length = 0) (ht : t.k = 7) (hT : T.map (·.s) = G.terms) (hm : m.k = 8) (hs : n.s = nameS G G.start) : DeclsOf G [⟨t, T⟩, ⟨m, [n]⟩]

theorem declsP_mid {m n k : Tok} {r : List Tok} (hm : m.k = 8) (hn : n.k = 1) (hk : k.k = 6) (f : Nat) (acc : List Decl) : declsP (f + 2) (m :: n :: k :: r) acc = .ok (acc ++ [⟨m, [n]⟩]) (k :: r) := by
  have h1 : takeP [7, 8] (m :: n :: k :: r) = .ok m (n :: k :: r) := takeP_at (by rw [hm]; rfl)
  have h2 : takeP [1] (n :: k :: r) = .ok n (k :: r) := takeP_at (by rw [hn]; rfl)
  have hd : declP (m :: n :: k :: r) = .ok ⟨m, [n]⟩ (k :: r) := by
    unfold declP
    rw [h1]
    show (if m.k = 8 then _ else _) = _
    rw [if_pos hm, h2]
    rfl
  unfold declsP
  rw [if_neg (show ¬ (headT (m :: n :: k :: r)).k = 6 by show ¬ m.k = 6; rw [hm]; decide), hd]
  show declsP (f + 1) (k :: r) (acc ++ [⟨m, [n]⟩]) = _
  unfold declsP
  rw [if_pos (show (headT (k :: r)).k = 6 from hk)]

theorem sourceP_show (G : Gram) (hne : G.rules ≠ []) (x : Tok) (hx : x.k = 0) : ∃ f D Rs, DeclsOf G D ∧ RulsOf G (grp G.rules) Rs ∧ sourceP f (toks 0 (showPc G) ++ [x]) = .ok ⟨D, Rs⟩ [x] := by
  obtain ⟨g, Q, hQ⟩ : ∃ g Q, grp G.rules = g :: Q := by
    cases hr : grp G.rules with
    | nil => exact absurd (by rw [← flat_grp G.rules, hr]; rfl) hne
    | cons g Q => exact ⟨g, Q, rfl⟩
  obtain ⟨m, n, k, b, hm, hn, hs, hk, e⟩ : ∃ (m n k : Tok) (b : Nat), m.k = 8 ∧ n.k = 1 ∧ n.s = nameS G G.start ∧ k.k = 6 ∧ toks 0 (showPc G) ++ [x] = toks 0 (headPc G) ++ m :: n :: k :: (toks b ((grp G.rules).flatMap (grpPc G)) ++ [x]) := by
    unfold showPc
    rw [toks_append, toks_append, List.append_assoc, List.append_assoc]
    exact ⟨_, _, _, _, rfl, rfl, str_of _, rfl, rfl⟩
  rw [hQ, List.flatMap_cons, toks_append, List.append_assoc] at e
  obtain ⟨R, r1, r2⟩ := ruleP_grp G g b (g.2.2.length + 1) (toks (b + (txt (grpPc G g)).length) (Q.flatMap (grpPc G)) ++ [x]) (by omega)
  obtain ⟨f0, Rs, q1, q2⟩ := rulesP_grps G Q (b + (txt (grpPc G g)).length) [R] x hx
  generalize hZ : toks (b + (txt (grpPc G g)).length) (Q.flatMap (grpPc G)) ++ [x] = Z at e r1 q2
  have fin : ∀ f D, g.2.2.length + f0 + 3 ≤ f → declsP f (toks 0 (showPc G) ++ [x]) [] = .ok D (k :: (toks b (grpPc G g) ++ Z)) → sourceP f (toks 0 (showPc G) ++ [x]) = .ok ⟨D, R :: Rs⟩ [x] := fun f D hf hd => by
    have hr : ruleP f (toks b (grpPc G g) ++ Z) = .ok R Z := by
      rcases Rd.ruleP_le (g.2.2.length + 1) f (toks b (grpPc G g) ++ Z) (by omega) with e | e
      · rw [r1] at e
        cases e
      · rw [← e]
        exact r1
    have h6 : takeP [6] (k :: (toks b (grpPc G g) ++ Z)) = .ok k (toks b (grpPc G g) ++ Z) := takeP_at (by rw [hk]; rfl)
    unfold sourceP
    rw [hd]
    show (takeP [6] (k :: (toks b (grpPc G g) ++ Z))).bind _ = _
    rw [h6]
    show (ruleP f (toks b (grpPc G g) ++ Z)).bind _ = _
    rw [hr]
    show (rulesP f Z [R]).bind _ = _
    rw [q2 f (by omega)]
    rfl
  by_cases hT : G.terms.length = 0
  · have hh : toks 0 (headPc G) = [] := by unfold headPc; rw [if_pos hT]; rfl
    rw [hh, List.nil_append] at e
    refine ⟨g.2.2.length + f0 + 3, [⟨m, [n]⟩], R :: Rs, .none m n hT hm hs, by rw [hQ]; exact ⟨r2, q1⟩, fin _ _ (Nat.le_refl _) ?_⟩
    rw [e]
    exact declsP_mid hm hn hk _ _
  · obtain ⟨t, c, ht, hh⟩ : ∃ (t : Tok) (c : Nat), t.k = 7 ∧ toks 0 (headPc G) = t :: toks c (symPc G.terms) := by
      unfold headPc
      rw [if_neg hT]
      have e0 : toks 0 (⟨7, [37, 116, 111, 107, 101, 110]⟩ :: (symPc G.terms ++ [gap 10])) = ⟨7, ⟨#[37, 116, 111, 107, 101, 110]⟩, 0⟩ :: toks 6 (symPc G.terms ++ [gap 10]) := rfl
      refine ⟨⟨7, ⟨#[37, 116, 111, 107, 101, 110]⟩, 0⟩, 6, rfl, ?_⟩
      rw [e0, toks_append]
      show _ :: (_ ++ []) = _
      rw [List.append_nil]
    obtain ⟨k1, k2⟩ := toks_sym G.terms c
    generalize toks c (symPc G.terms) = T at hh k1 k2
    rw [hh, List.cons_append] at e
    cases T with
    | nil => exact absurd (by rw [← k1]; rfl) hT
    | cons u T =>
      refine ⟨g.2.2.length + f0 + 3, [⟨t, u :: T⟩, ⟨m, [n]⟩], R :: Rs, .some t m n (u :: T) hT ht k1 hm hs, by rw [hQ]; exact ⟨r2, q1⟩, fin _ _ (Nat.le_refl _) ?_⟩
      rw [e]
      obtain ⟨s1, s2⟩ := syms_app (T := T) (fun y hy => symB_kd (k2 y (List.mem_cons_of_mem _ hy))) (x := m) (r := n :: k :: (toks b (grpPc G g) ++ Z)) (by unfold symB; rw [hm]; rfl)
      have h1 : takeP [7, 8] (t :: ((u :: T) ++ m :: n :: k :: (toks b (grpPc G g) ++ Z))) = .ok t ((u :: T) ++ m :: n :: k :: (toks b (grpPc G g) ++ Z)) := takeP_at (by rw [ht]; rfl)
      have h2 : takeP [1, 2] ((u :: T) ++ m :: n :: k :: (toks b (grpPc G g) ++ Z)) = .ok u (T ++ m :: n :: k :: (toks b (grpPc G g) ++ Z)) := by
        rw [List.cons_append]
        refine takeP_at ?_
        rw [k2 u (List.mem_cons_self ..)]
        rcases kd_sym u.s with e | e <;> rw [e] <;> rfl
      have hd : declP (t :: ((u :: T) ++ m :: n :: k :: (toks b (grpPc G g) ++ Z))) = .ok ⟨t, u :: T⟩ (m :: n :: k :: (toks b (grpPc G g) ++ Z)) := by
        unfold declP
        rw [h1]
        show (if t.k = 8 then _ else _) = _
        rw [if_neg (by rw [ht]; decide), h2]
        show Pr.ok (Decl.mk t (u :: symsL (T ++ m :: n :: k :: (toks b (grpPc G g) ++ Z)))) (restL (T ++ m :: n :: k :: (toks b (grpPc G g) ++ Z))) = _
        rw [s1, s2]
      unfold declsP
      rw [if_neg (show ¬ (headT (t :: ((u :: T) ++ m :: n :: k :: (toks b (grpPc G g) ++ Z)))).k = 6 by show ¬ t.k = 6; rw [ht]; decide), hd]
      exact declsP_mid hm hn hk _ _

end Go.Proofs.Ytimfiaphhomelaa.Sw
