/-
  What the plain maker makes is a valid grammar, and its nonterminals are ordered. No program in it.
-/
import Derived.Test.YtimfiaphhomelaaGreadWell
import Derived.Test.YtimfiaphhomelaaGreadMk
namespace Go.Proofs.Ytimfiaphhomelaa.Rd
open Go.Proofs.Ytimfiaphhomelaa.Tk (Tok)
set_option linter.unusedVariables false
set_option linter.unusedSimpArgs false

theorem Mo.bind_okG {α β : Type} {x : Mo α} {f : α → Mo β} {b : β} (h : x.bind f = .ok b) : ∃ a, x = .ok a ∧ f a = .ok b := by
  cases x with
  | ok a => exact ⟨a, rfl, h⟩
  | no e q => cases h

/-- What is so of the names ahead of the rules. -/
structure Nms (L : List ByteArray) : Prop where
  once : L.Nodup
  form : ∀ s ∈ L, Gr.plnS s = true ∨ Gr.quoS s = true
  few : L.length ≤ 120

theorem nodup_snoc {L : List ByteArray} {s : ByteArray} (h : L.Nodup) (hn : It.isIn L s = false) : (L ++ [s]).Nodup := by
  have hm : s ∉ L := fun hm => by rw [It.isIn_mem.2 hm] at hn; cases hn
  refine List.nodup_append.2 ⟨h, by simp, fun a ha b hb => ?_⟩
  simp only [List.mem_singleton] at hb
  subst hb
  exact fun e => hm (e ▸ ha)

theorem putM_ok {L L' : List ByteArray} {t : Tok} (h : putM L t = .ok L') : (L' = L ∧ It.isIn L t.s = true) ∨ (L' = L ++ [t.s] ∧ It.isIn L t.s = false ∧ L.length < 120) := by
  unfold putM at h
  split at h
  · rename_i he
    injection h with h
    subst h
    unfold It.putE at he
    unfold It.putL
    split at he
    · rename_i ho
      rw [if_pos ho]
      split at he
      · rename_i hi
        rw [if_pos hi]
        exact .inl ⟨rfl, hi⟩
      · rename_i hi
        rw [if_neg hi]
        split at he
        · cases he
        · rename_i hn
          rw [if_neg hn]
          exact .inr ⟨rfl, by simpa using hi, by omega⟩
    · cases he
  · cases h

theorem putM_in {L L' : List ByteArray} {t : Tok} (h : putM L t = .ok L') : t.s ∈ L' ∧ ∀ s ∈ L, s ∈ L' := by
  rcases putM_ok h with ⟨rfl, hi⟩ | ⟨rfl, hi, _⟩
  · exact ⟨It.isIn_mem.1 hi, fun s hs => hs⟩
  · exact ⟨by simp, fun s hs => by simp [hs]⟩

theorem Nms.put {L L' : List ByteArray} {t : Tok} (hL : Nms L) (h : putM L t = .ok L') (ht : Gr.plnS t.s = true ∨ Gr.quoS t.s = true) : Nms L' := by
  rcases putM_ok h with ⟨rfl, hi⟩ | ⟨rfl, hi, hn⟩
  · exact hL
  · refine ⟨nodup_snoc hL.once hi, fun s hs => ?_, by simp; omega⟩
    rcases List.mem_append.1 hs with hs | hs
    · exact hL.form s hs
    · rw [List.mem_singleton] at hs
      subst hs
      exact ht

theorem tok_form {t : Tok} (h : symB t = true ∧ TokOk t) : Gr.plnS t.s = true ∨ Gr.quoS t.s = true := by
  obtain ⟨h1, h2⟩ := h
  simp only [symB, Bool.or_eq_true, beq_iff_eq] at h1
  rcases h1 with h1 | h1
  · exact .inl (h2.1 h1)
  · exact .inr (h2.2 h1)

theorem namesM_ok : ∀ (T : List Tok) (L L' : List ByteArray), namesM L T = .ok L' → Nms L → (∀ t ∈ T, symB t = true ∧ TokOk t) → Nms L' := by
  intro T
  induction T with
  | nil => intro L L' h hL _; injection h with h; subst h; exact hL
  | cons t r ih =>
    intro L L' h hL hT
    unfold namesM at h
    split at h
    · cases h
    · obtain ⟨L1, h1, h2⟩ := Mo.bind_okG h
      exact ih _ _ h2 (hL.put h1 (tok_form (hT t (List.mem_cons_self ..)))) fun x hx => hT x (List.mem_cons_of_mem _ hx)

/-- How far the maker has come: the rules behind it, each with its left side. -/
structure Inv (lf : List ByteArray) (st : MSt) (D : List (Tok × Side)) : Prop where
  one : Nms st.L1
  sta : isEmp st.start = true ∨ st.start ∈ lf
  l2 : st.L2.Nodup
  f2 : ∀ s ∈ st.L2, Gr.plnS s = true
  n2 : st.L2.length ≤ 120
  off : ∀ s ∈ st.L2, s ∉ st.L1
  tx : st.texts = D.map fun d => joinedS d.1 d.2
  tn : st.texts.Nodup
  t3 : st.texts.length ≤ 300
  sy : ∀ d ∈ D, d.2.syms.length ≤ 8 ∧ ∀ t ∈ d.2.syms, t.s ∈ st.L1 ∨ t.s ∈ lf
  le : ∀ d ∈ D, d.1.s ∈ st.L2
  od : ∀ j (hj : j < D.length), ∀ i (hi : i < st.L2.length), i < It.num st.L2 D[j].1.s → ∃ j', ∃ hj' : j' < D.length, j' < j ∧ D[j'].1.s = st.L2[i]

theorem declM_ok {lf : List ByteArray} {st st' : MSt} {d : Decl} (h : declM lf st d = .ok st') (hi : Inv lf st []) (h2 : st.L2 = []) (hd : WDecl d) : Inv lf st' [] ∧ st'.L2 = [] := by
  unfold declM at h
  split at h
  · split at h
    · cases h
    · split at h
      · cases h
      · rename_i hx
        injection h with h
        subst h
        exact ⟨{ hi with sta := .inr (It.isIn_mem.1 (by simpa using hx)) }, h2⟩
  · rename_i hk
    obtain ⟨L, h1, h3⟩ := Mo.bind_okG h
    injection h3 with h3
    subst h3
    refine ⟨{ hi with one := namesM_ok _ _ _ h1 hi.one (hd hk), off := ?_, sy := ?_ }, h2⟩
    · intro s hs
      simp only [h2] at hs
      cases hs
    · intro d hd
      cases hd

theorem declsM_ok {lf : List ByteArray} : ∀ (D : List Decl) (st st' : MSt), declsM lf st D = .ok st' → Inv lf st [] → st.L2 = [] → (∀ d ∈ D, WDecl d) → Inv lf st' [] ∧ st'.L2 = [] := by
  intro D
  induction D with
  | nil => intro st st' h hi h2 _; injection h with h; subst h; exact ⟨hi, h2⟩
  | cons d r ih =>
    intro st st' h hi h2 hD
    obtain ⟨s1, h1, h3⟩ := Mo.bind_okG (show (declM lf st d).bind _ = _ from h)
    obtain ⟨a, b⟩ := declM_ok h1 hi h2 (hD d (List.mem_cons_self ..))
    exact ih _ _ h3 a b fun x hx => hD x (List.mem_cons_of_mem _ hx)

/-- What the symbols of a side add: quoted tokens alone. -/
theorem symsM_ok {lf : List ByteArray} : ∀ (T : List Tok) (L L' : List ByteArray) (i : Nat), symsM lf L T i = .ok L' → Nms L → (∀ t ∈ T, symB t = true ∧ TokOk t) → (i ≤ 8) →
    Nms L' ∧ i + T.length ≤ 8 ∧ (∀ s ∈ L, s ∈ L') ∧ (∀ s ∈ L', s ∈ L ∨ Gr.quoS s = true) ∧ ∀ t ∈ T, t.s ∈ L' ∨ t.s ∈ lf := by
  intro T
  induction T with
  | nil => intro L L' i h hL _ hi; injection h with h; subst h; exact ⟨hL, by simpa using hi, fun s hs => hs, fun s hs => .inl hs, fun t ht => by cases ht⟩
  | cons t r ih =>
    intro L L' i h hL hT hi
    obtain ⟨L1, h1, h2⟩ := Mo.bind_okG (show (symM lf L t i).bind _ = _ from h)
    have htt := hT t (List.mem_cons_self ..)
    have hrr : ∀ x ∈ r, symB x = true ∧ TokOk x := fun x hx => hT x (List.mem_cons_of_mem _ hx)
    unfold symM at h1
    split at h1
    · cases h1
    · rename_i hu
      split at h1
      · cases h1
      · rename_i h8
        split at h1
        · rename_i hk
          obtain ⟨a, b, c, d, e⟩ := ih _ _ _ h2 (hL.put h1 (tok_form htt)) hrr (by omega)
          obtain ⟨p1, p2⟩ := putM_in h1
          refine ⟨a, by simp; omega, fun s hs => c s (p2 s hs), fun s hs => ?_, fun x hx => ?_⟩
          · rcases d s hs with hs | hs
            · rcases putM_ok h1 with ⟨rfl, _⟩ | ⟨rfl, _⟩
              · exact .inl hs
              · rcases List.mem_append.1 hs with hs | hs
                · exact .inl hs
                · rw [List.mem_singleton] at hs
                  subst hs
                  exact .inr (htt.2.2 hk)
            · exact .inr hs
          · rcases List.mem_cons.1 hx with rfl | hx
            · exact .inl (c _ p1)
            · exact e x hx
        · rename_i hk
          injection h1 with h1
          subst h1
          obtain ⟨a, b, c, d, e⟩ := ih _ _ _ h2 hL hrr (by omega)
          refine ⟨a, by simp; omega, c, d, fun x hx => ?_⟩
          rcases List.mem_cons.1 hx with rfl | hx
          · have hk1 : x.k = 1 := by
              have := htt.1
              simp only [symB, Bool.or_eq_true, beq_iff_eq] at this
              omega
            simp only [unkB, hk1, beq_self_eq_true, Bool.true_and, Bool.and_eq_true, Bool.not_eq_true', not_and, Bool.not_eq_false] at hu
            by_cases hin : It.isIn L x.s = true
            · exact .inl (c _ (It.isIn_mem.1 hin))
            · exact .inr (It.isIn_mem.1 (hu (by simpa using hin)))
          · exact e x hx

theorem pln_quo {s : ByteArray} (h : Gr.plnS s = true) : Gr.quoS s = false := by
  apply Gr.quo_no
  rintro ⟨h0, h1⟩
  unfold Gr.plnS at h
  rw [Bool.and_eq_true] at h
  have h2 := h.2
  obtain ⟨⟨l⟩⟩ := s
  cases l with
  | nil => cases h2
  | cons c r =>
    have hc : c.toNat = 39 := h1
    have h3 : (Ch.cb c == 4 && r.all fun c => Ch.inN (Ch.cb c)) = true := h2
    rw [Bool.and_eq_true] at h3
    have h4 := h3.1
    unfold Ch.cb at h4
    rw [hc] at h4
    exact absurd h4 (by decide)

theorem num_same {L : List ByteArray} (h : L.Nodup) {i : Nat} (hi : i < L.length) : It.num L L[i] = i := by
  have hp := It.pl_at (L := L) (s := L[i]) hi rfl (fun j hj e => absurd ((List.getElem_inj h).1 e) (by omega))
  simp [It.num, hp]

/-- A side more. -/
theorem sideM_ok {lf : List ByteArray} {left : Tok} {st st' : MSt} {s : Side} {D : List (Tok × Side)} (h : sideM lf left st s = .ok st') (hi : Inv lf st D) (hs : WSide s) (hl : left.s ∈ st.L2)
    (hru : ∀ x ∈ st.L2, x = left.s ∨ ∃ d ∈ D, d.1.s = x) : Inv lf st' (D ++ [(left, s)]) ∧ st'.L2 = st.L2 := by
  unfold sideM at h
  split at h
  · cases h
  · rename_i hx
    split at h
    · cases h
    · split at h
      · cases h
      · rename_i hx3
        obtain ⟨L, h1, h2⟩ := Mo.bind_okG h
        injection h2 with h2
        subst h2
        obtain ⟨a, b, c, d, e⟩ := symsM_ok _ _ _ _ h1 hi.one hs (by omega)
        refine ⟨⟨a, hi.sta, hi.l2, hi.f2, hi.n2, fun x hx2 hm => ?_, ?_, nodup_snoc hi.tn (by simpa using hx), ?_, fun p hp => ?_, fun p hp => ?_, fun j hj i hi2 hlt => ?_⟩, rfl⟩
        · rcases d x hm with hm | hm
          · exact hi.off x hx2 hm
          · have := pln_quo (hi.f2 x hx2)
            rw [hm] at this
            cases this
        · simp only [hi.tx, List.map_append, List.map_cons, List.map_nil]
        · have := hi.t3
          simp
          omega
        · rcases List.mem_append.1 hp with hp | hp
          · obtain ⟨q1, q2⟩ := hi.sy p hp
            refine ⟨q1, fun t ht => ?_⟩
            rcases q2 t ht with q | q
            · exact .inl (c _ q)
            · exact .inr q
          · rw [List.mem_singleton] at hp
            subst hp
            exact ⟨by simpa using b, e⟩
        · rcases List.mem_append.1 hp with hp | hp
          · exact hi.le p hp
          · rw [List.mem_singleton] at hp
            subst hp
            exact hl
        · by_cases hj2 : j < D.length
          · rw [List.getElem_append_left hj2] at hlt
            obtain ⟨j', hj', g1, g2⟩ := hi.od j hj2 i hi2 hlt
            exact ⟨j', by simp; omega, g1, by rw [List.getElem_append_left hj']; exact g2⟩
          · have hje : j = D.length := by simp at hj; omega
            subst hje
            simp only [List.getElem_concat_length] at hlt
            rcases hru _ (List.getElem_mem hi2) with q | ⟨p, hp, q⟩
            · have h3 := num_same hi.l2 hi2
              rw [q] at h3
              omega
            · obtain ⟨j', hj', rfl⟩ := List.mem_iff_getElem.1 hp
              exact ⟨j', by simp; omega, hj', by rw [List.getElem_append_left hj']; exact q⟩

theorem sidesM_ok {lf : List ByteArray} {left : Tok} : ∀ (S : List Side) (st st' : MSt) (D : List (Tok × Side)), sidesM lf left st S = .ok st' → Inv lf st D → (∀ s ∈ S, WSide s) → left.s ∈ st.L2 →
    (∀ x ∈ st.L2, x = left.s ∨ ∃ d ∈ D, d.1.s = x) → Inv lf st' (D ++ S.map fun s => (left, s)) ∧ st'.L2 = st.L2 := by
  intro S
  induction S with
  | nil => intro st st' D h hi _ _ _; injection h with h; subst h; exact ⟨by simpa using hi, rfl⟩
  | cons s r ih =>
    intro st st' D h hi hS hl hru
    obtain ⟨s1, h1, h2⟩ := Mo.bind_okG (show (sideM lf left st s).bind _ = _ from h)
    obtain ⟨a, b⟩ := sideM_ok h1 hi (hS s (List.mem_cons_self ..)) hl hru
    obtain ⟨c, d⟩ := ih _ _ _ h2 a (fun x hx => hS x (List.mem_cons_of_mem _ hx)) (b ▸ hl) (fun x hx => by
      rw [b] at hx
      rcases hru x hx with q | ⟨p, hp, q⟩
      · exact .inl q
      · exact .inr ⟨p, by simp [hp], q⟩)
    refine ⟨?_, d.trans b⟩
    simpa [List.append_assoc] using c

theorem ruleM_ok {lf : List ByteArray} {st st' : MSt} {R : Rul} {D : List (Tok × Side)} (h : ruleM lf st R = .ok st') (hi : Inv lf st D) (hR : WRul R) (hru : ∀ x ∈ st.L2, ∃ d ∈ D, d.1.s = x) :
    Inv lf st' (D ++ R.sides.map fun s => (R.left, s)) ∧ (∀ x ∈ st'.L2, ∃ d ∈ D ++ R.sides.map (fun s => (R.left, s)), d.1.s = x) ∧ (∀ x ∈ st.L2, x ∈ st'.L2) := by
  unfold ruleM at h
  split at h
  · cases h
  · rename_i hx
    obtain ⟨L, h1, h2⟩ := Mo.bind_okG h
    obtain ⟨p1, p2⟩ := putM_in h1
    have hpl := hR.left.2.1 hR.left.1
    have hi2 : Inv lf { st with L2 := L } D := by
      rcases putM_ok h1 with ⟨rfl, _⟩ | ⟨rfl, hn, hl⟩
      · exact hi
      · refine { hi with l2 := nodup_snoc hi.l2 hn, f2 := ?_, n2 := ?_, off := ?_, le := ?_, od := ?_ }
        · intro s hs
          rcases List.mem_append.1 hs with hs | hs
          · exact hi.f2 s hs
          · rw [List.mem_singleton] at hs
            subst hs
            exact hpl
        · simp
          omega
        · intro s hs hm
          rcases List.mem_append.1 hs with hs | hs
          · exact hi.off s hs hm
          · rw [List.mem_singleton] at hs
            subst hs
            exact hx (It.isIn_mem.2 hm)
        · intro d hd
          exact p2 _ (hi.le d hd)
        · intro j hj i hi3 hlt
          have hin := It.isIn_mem.2 (hi.le _ (List.getElem_mem hj))
          simp only [(It.num_snoc_old (s := R.left.s) hin).2] at hlt
          obtain ⟨q1, q2⟩ := It.num_lt hin
          obtain ⟨j', hj', g1, g2⟩ := hi.od j hj i (by omega) hlt
          exact ⟨j', hj', g1, by simp only [List.getElem_append_left (show i < st.L2.length by omega)]; exact g2⟩
    have hru2 : ∀ x ∈ L, x = R.left.s ∨ ∃ d ∈ D, d.1.s = x := fun x hx => by
      rcases putM_ok h1 with ⟨rfl, _⟩ | ⟨rfl, hn, hl⟩
      · exact .inr (hru x hx)
      · rcases List.mem_append.1 hx with hx | hx
        · exact .inr (hru x hx)
        · exact .inl (by simpa using hx)
    obtain ⟨a, b⟩ := sidesM_ok _ _ _ _ h2 hi2 hR.sides p1 hru2
    refine ⟨a, fun x hx => ?_, fun x hx => by rw [b]; exact p2 x hx⟩
    rw [b] at hx
    rcases hru2 x hx with rfl | ⟨d, hd, q⟩
    · cases hs : R.sides with
      | nil => exact absurd hs hR.some
      | cons s r => exact ⟨(R.left, s), by simp, rfl⟩
    · exact ⟨d, by simp [hd], q⟩

theorem rulesM_ok {lf : List ByteArray} : ∀ (Q : List Rul) (st st' : MSt) (D : List (Tok × Side)), rulesM lf st Q = .ok st' → Inv lf st D → (∀ R ∈ Q, WRul R) → (∀ x ∈ st.L2, ∃ d ∈ D, d.1.s = x) →
    Inv lf st' (D ++ Q.flatMap fun R => R.sides.map fun s => (R.left, s)) ∧ (∀ x ∈ st'.L2, ∃ d ∈ D ++ Q.flatMap (fun R => R.sides.map fun s => (R.left, s)), d.1.s = x) := by
  intro Q
  induction Q with
  | nil => intro st st' D h hi _ hru; injection h with h; subst h; exact ⟨by simpa using hi, by simpa using hru⟩
  | cons R r ih =>
    intro st st' D h hi hQ hru
    obtain ⟨s1, h1, h2⟩ := Mo.bind_okG (show (ruleM lf st R).bind _ = _ from h)
    obtain ⟨a, b, _⟩ := ruleM_ok h1 hi (hQ R (List.mem_cons_self ..)) hru
    obtain ⟨c, d⟩ := ih _ _ _ h2 a (fun x hx => hQ x (List.mem_cons_of_mem _ hx)) b
    refine ⟨by simpa [List.flatMap_cons, List.append_assoc] using c, ?_⟩
    simpa [List.flatMap_cons, List.append_assoc] using d

/-- The rows of a source, one behind the other. -/
def rowsOf (src : Src) : List (Tok × Side) := src.rules.flatMap fun R => R.sides.map fun s => (R.left, s)

theorem runM_ok {src : Src} {st : MSt} (h : runM src = .ok st) (hw : WSrc src) : Inv (leftsM src) st (rowsOf src) ∧ (∀ x ∈ st.L2, ∃ d ∈ rowsOf src, d.1.s = x) ∧ ∀ x ∈ leftsM src, x ∈ st.L2 := by
  obtain ⟨s1, h1, h2⟩ := Mo.bind_okG h
  have h0 : Inv (leftsM src) st0 [] := ⟨⟨by simp [st0], by simp [st0], by simp [st0]⟩, .inl rfl, by simp [st0], by simp [st0], by simp [st0], by simp [st0], rfl, by simp [st0], by simp [st0], by simp, by simp, fun j hj => absurd hj (by simp)⟩
  obtain ⟨a, b⟩ := declsM_ok _ _ _ h1 h0 rfl hw.decls
  obtain ⟨c, d⟩ := rulesM_ok _ _ _ _ h2 a hw.rules (fun x hx => by rw [b] at hx; cases hx)
  rw [List.nil_append] at c d
  refine ⟨c, d, fun x hx => ?_⟩
  obtain ⟨R, hR, rfl⟩ := List.mem_map.1 hx
  cases hs : R.sides with
  | nil => exact absurd hs (hw.rules R hR).some
  | cons s r => exact c.le (R.left, s) (List.mem_flatMap.2 ⟨R, hR, by rw [hs]; simp⟩)

theorem nodup_through {α β γ : Type} (f : α → β) (g : α → γ) {D : List α} (h : (D.map g).Nodup) (hfg : ∀ x ∈ D, ∀ y ∈ D, f x = f y → g x = g y) : (D.map f).Nodup := by
  induction D with
  | nil => simp
  | cons a r ih =>
    rw [List.map_cons, List.nodup_cons] at h ⊢
    refine ⟨fun hm => h.1 ?_, ih h.2 fun x hx y hy => hfg x (List.mem_cons_of_mem _ hx) y (List.mem_cons_of_mem _ hy)⟩
    obtain ⟨y, hy, he⟩ := List.mem_map.1 hm
    rw [← hfg y (List.mem_cons_of_mem _ hy) a (List.mem_cons_self ..) he]
    exact List.mem_map_of_mem hy

theorem rules_rows (st : MSt) (src : Src) : src.rules.flatMap (rowsI st) = (rowsOf src).map fun d => (numI st d.1.s, d.2.syms.map fun t => numI st t.s) := by
  unfold rowsOf rowsI
  rw [List.map_flatMap]
  simp [List.map_map, Function.comp_def]

theorem num_range {st : MSt} {s : ByteArray} (h : s ∈ st.L1 ∨ s ∈ st.L2) : ∃ n : Nat, n < st.L1.length + st.L2.length ∧ numI st s = (n : Int) + 1 ∧ (st.L1 ++ st.L2)[n]? = some s := by
  unfold numI
  by_cases h1 : It.isIn st.L1 s = true
  · obtain ⟨a, b⟩ := It.num_lt h1
    refine ⟨It.num st.L1 s, by omega, by rw [if_pos h1], ?_⟩
    rw [List.getElem?_append_left a, List.getElem?_eq_getElem a, b]
  · have h2 : It.isIn st.L2 s = true := by
      rcases h with h | h
      · exact absurd (It.isIn_mem.2 h) h1
      · exact It.isIn_mem.2 h
    obtain ⟨a, b⟩ := It.num_lt h2
    refine ⟨st.L1.length + It.num st.L2 s, by omega, by rw [if_neg h1, It.place_in h2]; omega, ?_⟩
    rw [List.getElem?_append_right (by omega), Nat.add_sub_cancel_left, List.getElem?_eq_getElem a, b]

theorem num_non {st : MSt} {s : ByteArray} (h : s ∈ st.L2) (ho : ∀ s ∈ st.L2, s ∉ st.L1) : numI st s = (st.L1.length : Int) + 1 + (It.num st.L2 s : Int) ∧ It.num st.L2 s < st.L2.length := by
  unfold numI
  rw [if_neg (fun hh => ho s h (It.isIn_mem.1 hh)), It.place_in (It.isIn_mem.2 h)]
  obtain ⟨a, b⟩ := It.num_lt (It.isIn_mem.2 h)
  exact ⟨by omega, a⟩

/-- What is made is valid, its nonterminals are ordered, and it has one. -/
theorem makeM_good {src : Src} {G : Gr.Gram} (h : makeM src = .ok G) (hw : WSrc src) : Gr.checkN G = 0 ∧ Gr.ordB G = true ∧ 0 < G.nons.length := by
  obtain ⟨st, h1, h2⟩ := Mo.bind_okG h
  injection h2 with h2
  obtain ⟨hi, hru, hlf⟩ := runM_ok h1 hw
  have hrows : G.rules = (rowsOf src).map fun d => (numI st d.1.s, d.2.syms.map fun t => numI st t.s) := by rw [← h2]; exact rules_rows st src
  have ht : G.terms = st.L1 := by rw [← h2]; rfl
  have hn : G.nons = st.L2 := by rw [← h2]; rfl
  have hst : G.start = if isEmp st.start then (st.L1.length : Int) + 1 else numI st st.start := by rw [← h2]; rfl
  have hne : 0 < st.L2.length := by
    cases hr : src.rules with
    | nil => exact absurd hr hw.some
    | cons R r => exact List.length_pos_iff.2 (List.ne_nil_of_mem (hlf R.left.s (by unfold leftsM; rw [hr]; simp)))
  have hsym : ∀ s, s ∈ st.L1 ∨ s ∈ leftsM src → s ∈ st.L1 ∨ s ∈ st.L2 := fun s hs => by
    rcases hs with hs | hs
    · exact .inl hs
    · exact .inr (hlf s hs)
  have hname : ∀ s, s ∈ st.L1 ∨ s ∈ st.L2 → Gr.nameS G (numI st s) = s := fun s hs => by
    obtain ⟨n, a, b, c⟩ := num_range hs
    rw [b, Gr.name_in (by unfold Gr.top; rw [ht, hn]; exact a)]
    have : (Gr.names G)[n]? = some s := by unfold Gr.names; rw [ht, hn]; exact c
    exact (List.getElem?_eq_some_iff.1 this).2
  have hmany : Gr.manyB G = false := by
    have a1 := hi.one.few
    have a2 := hi.n2
    have a3 := hi.t3
    rw [hi.tx, List.length_map] at a3
    unfold Gr.manyB
    rw [ht, hn, hrows, List.length_map]
    simp only [Bool.or_eq_false_iff, decide_eq_false_iff_not, List.any_eq_false, decide_eq_true_eq]
    refine ⟨⟨⟨by omega, by omega⟩, by omega⟩, fun r hr => ?_⟩
    obtain ⟨d, hd, rfl⟩ := List.mem_map.1 hr
    have := (hi.sy d hd).1
    simp
    omega
  have hform : Gr.formB G = true := by
    unfold Gr.formB
    rw [ht, hn, Bool.and_eq_true, List.all_eq_true, List.all_eq_true]
    refine ⟨fun s hs => ?_, hi.f2⟩
    rcases hi.one.form s hs with q | q
    · rw [q]; rfl
    · rw [q, Bool.or_true]
  have honce : Gr.onceB G = true := by
    unfold Gr.onceB Gr.names
    rw [ht, hn, decide_eq_true_iff]
    exact List.nodup_append.2 ⟨hi.one.once, hi.l2, fun a ha b hb e => hi.off b hb (e ▸ ha)⟩
  have hleft : ∀ d ∈ rowsOf src, numI st d.1.s = (st.L1.length : Int) + 1 + (It.num st.L2 d.1.s : Int) ∧ It.num st.L2 d.1.s < st.L2.length := fun d hd => num_non (hi.le d hd) hi.off
  have hnon : ∀ s ∈ st.L2, Gr.nonB G (numI st s) = true := fun s hs => by
    obtain ⟨a, b⟩ := num_non hs hi.off
    rw [Gr.nonB_iff, ht, hn]
    omega
  have hknown : Gr.knownB G = true := by
    unfold Gr.knownB
    rw [Bool.and_eq_true, List.all_eq_true]
    constructor
    · rw [hst]
      split
      · rw [Gr.nonB_iff, ht, hn]
        omega
      · rename_i he
        rcases hi.sta with q | q
        · exact absurd q he
        · exact hnon _ (hlf _ q)
    · intro r hr
      rw [hrows] at hr
      obtain ⟨d, hd, rfl⟩ := List.mem_map.1 hr
      rw [Bool.and_eq_true, List.all_eq_true]
      refine ⟨hnon _ (hi.le d hd), fun x hx => ?_⟩
      obtain ⟨t, htt, rfl⟩ := List.mem_map.1 hx
      obtain ⟨n, a, b, _⟩ := num_range (hsym _ ((hi.sy d hd).2 t htt))
      unfold Gr.top
      rw [decide_eq_true_iff, ht, hn, b]
      omega
  have hunlike : Gr.unlikeB G = true := by
    unfold Gr.unlikeB
    rw [decide_eq_true_iff, hrows]
    refine nodup_through _ (fun d => joinedS d.1 d.2) (by rw [← hi.tx]; exact hi.tn) fun x hx y hy he => ?_
    injection he with e1 e2
    have f1 : x.1.s = y.1.s := by rw [← hname x.1.s (.inr (hi.le x hx)), ← hname y.1.s (.inr (hi.le y hy)), e1]
    have back : ∀ z ∈ rowsOf src, z.2.syms.map (·.s) = (z.2.syms.map fun t => numI st t.s).map (Gr.nameS G) := fun z hz => by
      rw [List.map_map]
      refine List.map_congr_left fun t htt => ?_
      exact (hname _ (hsym _ ((hi.sy z hz).2 t htt))).symm
    have f2 : x.2.syms.map (·.s) = y.2.syms.map (·.s) := by rw [back x hx, back y hy, e2]
    unfold joinedS
    rw [f1, f2]
  have hof : ∀ i, i < G.rules.length → ∃ hd : i < (rowsOf src).length, Gr.leftOf G.rules i = numI st (rowsOf src)[i].1.s := fun i hlt => by
    have hd : i < (rowsOf src).length := by simpa [hrows] using hlt
    refine ⟨hd, ?_⟩
    rw [Gr.leftOf_get hlt]
    simp only [hrows, List.getElem_map]
  have hruled : Gr.ruledB G = true := by
    unfold Gr.ruledB
    rw [List.all_eq_true]
    intro i hir
    rw [List.mem_range, hn] at hir
    obtain ⟨d, hd, he⟩ := hru _ (List.getElem_mem hir)
    obtain ⟨j, hj, rfl⟩ := List.mem_iff_getElem.1 hd
    have hj2 : j < G.rules.length := by rw [hrows, List.length_map]; exact hj
    have hm : j ∈ Gr.ofN G ((G.terms.length : Int) + 1 + i) := by
      rw [Gr.mem_ofN]
      refine ⟨hj2, ?_⟩
      obtain ⟨_, q⟩ := hof j hj2
      rw [q, (hleft _ (List.getElem_mem hj)).1, he, num_same hi.l2 hir, ht]
    cases ho : Gr.ofN G ((G.terms.length : Int) + 1 + i) with
    | nil => rw [ho] at hm; cases hm
    | cons a b => rfl
  refine ⟨?_, Gr.ord_true fun j hj i i' hi2 hlt he => ?_, by rw [hn]; exact hne⟩
  · unfold Gr.checkN
    rw [hmany, hform, honce, hknown, hunlike, hruled]
    rfl
  · obtain ⟨hd, q⟩ := hof j hj
    rw [q, (hleft _ (List.getElem_mem hd)).1, ht] at he
    have hnum : It.num st.L2 (rowsOf src)[j].1.s = i := by omega
    rw [hn] at hi2
    obtain ⟨j', hj', g1, g2⟩ := hi.od j hd i' (by omega) (by omega)
    refine ⟨j', g1, ?_⟩
    have hj2 : j' < G.rules.length := by rw [hrows, List.length_map]; exact hj'
    obtain ⟨_, q'⟩ := hof j' hj2
    rw [q', (hleft _ (List.getElem_mem hj')).1, g2, num_same hi.l2 (show i' < st.L2.length by omega), ht]

end Go.Proofs.Ytimfiaphhomelaa.Rd
