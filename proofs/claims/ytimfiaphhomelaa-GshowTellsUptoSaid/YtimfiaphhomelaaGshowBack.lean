/-
  The text of a valid and ordered grammar is read as that grammar. No program in it.
-/
import Derived.Test.YtimfiaphhomelaaGshowRead
namespace Go.Proofs.Ytimfiaphhomelaa.Sw
open Go.Proofs.Ytimfiaphhomelaa.Tk (Tok stepL Lexes)
open Go.Proofs.Ytimfiaphhomelaa.Gr (Gram nameS checkN ordB leftOf)
open Go.Proofs.Ytimfiaphhomelaa.Rd (Side Rul Decl Src Mo MSt putM namesM declM declsM symM symsM sideM sidesM ruleM rulesM unkB numI rowsI makeM runM leftsM st0 isEmp joinedS Is sourceP)
set_option linter.unusedVariables false
set_option linter.unusedSimpArgs false

/-! ### Names with blanks between them -/

def NoB (l : List UInt8) : Prop := ∀ c ∈ l, ¬ c = 32
theorem cut {x y a b : List UInt8} (hx : NoB x) (hy : NoB y) (ha : a = [] ∨ ∃ r, a = 32 :: r) (hb : b = [] ∨ ∃ r, b = 32 :: r) (h : x ++ a = y ++ b) : x = y ∧ a = b := by
  induction x generalizing y with
  | nil =>
    cases y with
    | nil => exact ⟨rfl, h⟩
    | cons d y =>
      rcases ha with rfl | ⟨r, rfl⟩
      · cases h
      · injection h with h1
        exact absurd h1.symm (hy d (List.mem_cons_self ..))
  | cons c x ih =>
    cases y with
    | nil =>
      rcases hb with rfl | ⟨r, rfl⟩
      · cases h
      · injection h with h1
        exact absurd h1 (hx c (List.mem_cons_self ..))
    | cons d y =>
      injection h with h1 h2
      obtain ⟨i1, i2⟩ := ih (fun z hz => hx z (List.mem_cons_of_mem _ hz)) (fun z hz => hy z (List.mem_cons_of_mem _ hz)) h2
      exact ⟨by rw [h1, i1], i2⟩
theorem tail_cons (y : List UInt8) (r : List (List UInt8)) : Lib.joinTail [32] (y :: r) = 32 :: (y ++ Lib.joinTail [32] r) := rfl
theorem tail_head (r : List (List UInt8)) : Lib.joinTail [32] r = [] ∨ ∃ t, Lib.joinTail [32] r = 32 :: t := by
  cases r with
  | nil => exact .inl rfl
  | cons y r => exact .inr ⟨_, tail_cons y r⟩
theorem tail_inj : ∀ xs ys : List (List UInt8), (∀ x ∈ xs, NoB x) → (∀ y ∈ ys, NoB y) → Lib.joinTail [32] xs = Lib.joinTail [32] ys → xs = ys
  | [], [], _, _, _ => rfl
  | [], y :: ys, _, _, h => by rw [tail_cons] at h; cases h
  | x :: xs, [], _, _, h => by rw [tail_cons] at h; cases h
  | x :: xs, y :: ys, hx, hy, h => by
    rw [tail_cons, tail_cons] at h
    injection h with _ h
    obtain ⟨h1, h2⟩ := cut (hx x (List.mem_cons_self ..)) (hy y (List.mem_cons_self ..)) (tail_head _) (tail_head _) h
    rw [h1, tail_inj xs ys (fun z hz => hx z (List.mem_cons_of_mem _ hz)) (fun z hz => hy z (List.mem_cons_of_mem _ hz)) h2]

/-- Names, a blank between each two. -/
def textOf (ns : List ByteArray) : ByteArray := ⟨(Lib.join (ns.map (·.data.toList)) [32]).toArray⟩
theorem joined_eq (left : Tok) (s : Side) : joinedS left s = textOf (left.s :: spellS s) := rfl
theorem textOf_inj {a b : ByteArray} {l m : List ByteArray} (h1 : ∀ s ∈ a :: l, NoB s.data.toList) (h2 : ∀ s ∈ b :: m, NoB s.data.toList) (h : textOf (a :: l) = textOf (b :: m)) : a = b ∧ l = m := by
  have h3 : Lib.join ((a :: l).map (·.data.toList)) [32] = Lib.join ((b :: m).map (·.data.toList)) [32] := str_inj h
  rw [List.map_cons, List.map_cons, Lib.join_cons, Lib.join_cons] at h3
  obtain ⟨h4, h5⟩ := cut (h1 a (List.mem_cons_self ..)) (h2 b (List.mem_cons_self ..)) (tail_head _) (tail_head _) h3
  have h6 := tail_inj _ _ (fun x hx => by obtain ⟨s, hs, rfl⟩ := List.mem_map.1 hx; exact h1 s (List.mem_cons_of_mem _ hs)) (fun x hx => by obtain ⟨s, hs, rfl⟩ := List.mem_map.1 hx; exact h2 s (List.mem_cons_of_mem _ hs)) h5
  refine ⟨It.data_inj h4, ?_⟩
  have inj : ∀ p q : List ByteArray, p.map (·.data.toList) = q.map (·.data.toList) → p = q := by
    intro p
    induction p with
    | nil => intro q hq; cases q with
      | nil => rfl
      | cons y q => cases hq
    | cons x p ih => intro q hq; cases q with
      | nil => cases hq
      | cons y q =>
        injection hq with q1 q2
        rw [It.data_inj q1, ih q q2]
  exact inj l m h6

theorem sym_noB {s : ByteArray} (h : SymOk s) : NoB s.data.toList := by
  rcases h with h | h
  · obtain ⟨c, r, hl, _, h2, _⟩ := pln_head h
    rw [hl]
    intro x hx e
    have := List.all_eq_true.1 h2 x hx
    rw [e] at this
    exact absurd this (by decide)
  · obtain ⟨r, hl, h1, _⟩ := quo_form h
    rw [hl]
    intro x hx e
    subst e
    rcases List.mem_cons.1 hx with hx | hx
    · exact absurd hx (by decide)
    · rcases List.mem_append.1 hx with hx | hx
      · have := (h1 _ hx).1
        exact absurd this (by decide)
      · exact absurd (List.mem_singleton.1 hx) (by decide)
theorem sym_len {s : ByteArray} (h : SymOk s) : It.okLen s = true := by
  have key : s.data.toList.length = s.size := by simp
  unfold It.okLen
  rw [Bool.and_eq_true, decide_eq_true_iff, decide_eq_true_iff]
  rcases h with h | h
  · obtain ⟨c, r, hl, _, _, h3⟩ := pln_head h
    rw [hl, List.length_cons] at key
    rw [List.length_cons] at h3
    omega
  · obtain ⟨r, hl, _, h2, h3⟩ := quo_form h
    rw [hl] at key
    simp at key
    omega
theorem pln_kd {s : ByteArray} (h : Gr.plnS s = true) : kd s = 1 := (step_name h (z := []) (fun c r e => by cases e)).2

/-! ### A valid grammar -/

structure Val (G : Gram) : Prop where
  many : Gr.manyB G = false
  form : Gr.formB G = true
  once : Gr.onceB G = true
  known : Gr.knownB G = true
  unlike : Gr.unlikeB G = true
  ruled : Gr.ruledB G = true
  ord : ordB G = true

theorem val_of {G : Gram} (h : checkN G = 0) (ho : ordB G = true) : Val G := by
  obtain ⟨a, b, c, d, e, f⟩ := Gr.check_ok h
  exact ⟨a, b, c, d, e, f, ho⟩

theorem Val.term_ok {G : Gram} (h : Val G) : ∀ s ∈ G.terms, SymOk s := fun s hs => by
  have := h.form
  unfold Gr.formB at this
  rw [Bool.and_eq_true, List.all_eq_true] at this
  have := this.1 s hs
  rw [Bool.or_eq_true] at this
  exact this
theorem Val.non_ok {G : Gram} (h : Val G) : ∀ s ∈ G.nons, Gr.plnS s = true := fun s hs => by
  have := h.form
  unfold Gr.formB at this
  rw [Bool.and_eq_true, List.all_eq_true, List.all_eq_true] at this
  exact this.2 s hs
theorem Val.nodup {G : Gram} (h : Val G) : G.terms.Nodup ∧ G.nons.Nodup ∧ ∀ s ∈ G.nons, s ∉ G.terms := by
  have := h.once
  unfold Gr.onceB Gr.names at this
  rw [decide_eq_true_iff, List.nodup_append] at this
  exact ⟨this.1, this.2.1, fun s hs ht => this.2.2 s ht s hs rfl⟩

/-- A symbol is a terminal or a nonterminal, by its place. -/
theorem sym_at {G : Gram} {x : Int} (h1 : 1 ≤ x) (h2 : x ≤ (Gr.top G : Int)) : (∃ (s : Nat) (hs : s < G.terms.length), x = (s : Int) + 1 ∧ nameS G x = G.terms[s]) ∨ (∃ (s : Nat) (hs : s < G.nons.length), x = (G.terms.length : Int) + 1 + s ∧ nameS G x = G.nons[s]) := by
  unfold Gr.top at h2
  by_cases h : x ≤ (G.terms.length : Int)
  · obtain ⟨s, hs, rfl⟩ : ∃ s : Nat, s < G.terms.length ∧ x = (s : Int) + 1 := ⟨(x - 1).toNat, by omega, by omega⟩
    exact .inl ⟨s, hs, rfl, Gr.name_term hs⟩
  · obtain ⟨s, hs, e⟩ : ∃ s : Nat, s < G.nons.length ∧ x = (G.terms.length : Int) + 1 + s := ⟨(x - 1 - G.terms.length).toNat, by omega, by omega⟩
    refine .inr ⟨s, hs, e, ?_⟩
    have e2 : x = ((G.terms.length + s : Nat) : Int) + 1 := by omega
    rw [e2]
    exact Gr.name_non hs
theorem non_at {G : Gram} {x : Int} (h : Gr.nonB G x = true) : ∃ (s : Nat) (hs : s < G.nons.length), x = (G.terms.length : Int) + 1 + s ∧ nameS G x = G.nons[s] := by
  rw [Gr.nonB_iff] at h
  obtain ⟨s, hs, e⟩ : ∃ s : Nat, s < G.nons.length ∧ x = (G.terms.length : Int) + 1 + s := ⟨(x - 1 - G.terms.length).toNat, by omega, by omega⟩
  refine ⟨s, hs, e, ?_⟩
  have e2 : x = ((G.terms.length + s : Nat) : Int) + 1 := by omega
  rw [e2]
  exact Gr.name_non hs

theorem Val.rule {G : Gram} (h : Val G) {r : Int × List Int} (hr : r ∈ G.rules) : Gr.nonB G r.1 = true ∧ r.2.length ≤ 8 ∧ ∀ x ∈ r.2, 1 ≤ x ∧ x ≤ (Gr.top G : Int) := by
  have hk := h.known
  unfold Gr.knownB at hk
  rw [Bool.and_eq_true, List.all_eq_true] at hk
  have hk2 := hk.2 r hr
  rw [Bool.and_eq_true, List.all_eq_true] at hk2
  have hm := h.many
  unfold Gr.manyB at hm
  rw [Bool.or_eq_false_iff, List.any_eq_false] at hm
  have hm2 := hm.2 r hr
  rw [decide_eq_true_iff] at hm2
  exact ⟨hk2.1, by omega, fun x hx => by simpa using hk2.2 x hx⟩
theorem Val.few {G : Gram} (h : Val G) : G.terms.length ≤ 120 ∧ G.nons.length ≤ 120 ∧ G.rules.length ≤ 300 := by
  have hm := h.many
  unfold Gr.manyB at hm
  simp only [Bool.or_eq_false_iff, decide_eq_false_iff_not] at hm
  omega
theorem Val.start {G : Gram} (h : Val G) : Gr.nonB G G.start = true := by
  have hk := h.known
  unfold Gr.knownB at hk
  rw [Bool.and_eq_true] at hk
  exact hk.1
theorem Val.has {G : Gram} (h : Val G) {x : Int} (hx : Gr.nonB G x = true) : ∃ r ∈ G.rules, r.1 = x := by
  have h1 := Gr.ruled_of h.ruled h.known x
  rw [hx] at h1
  have h2 : 0 < (Gr.ofN G x).length := by simpa using h1.symm
  cases ho : Gr.ofN G x with
  | nil => rw [ho] at h2; exact absurd h2 (by decide)
  | cons i q =>
    obtain ⟨a, b⟩ := (Gr.mem_ofN (G := G) (s := x) (i := i)).1 (by rw [ho]; exact List.mem_cons_self ..)
    exact ⟨G.rules[i], List.getElem_mem a, by rw [← Gr.leftOf_get a]; exact b⟩
theorem Val.some {G : Gram} (h : Val G) : G.rules ≠ [] := by
  obtain ⟨r, hr, _⟩ := h.has h.start
  exact List.ne_nil_of_mem hr
theorem Val.pln {G : Gram} (h : Val G) {x : Int} (hx : Gr.nonB G x = true) : Gr.plnS (nameS G x) = true := by
  obtain ⟨s, hs, _, e⟩ := non_at hx
  rw [e]
  exact h.non_ok _ (List.getElem_mem hs)
theorem Val.sym {G : Gram} (h : Val G) {x : Int} (h1 : 1 ≤ x) (h2 : x ≤ (Gr.top G : Int)) : SymOk (nameS G x) := by
  rcases sym_at h1 h2 with ⟨s, hs, _, e⟩ | ⟨s, hs, _, e⟩
  · rw [e]
    exact h.term_ok _ (List.getElem_mem hs)
  · rw [e]
    exact .inl (h.non_ok _ (List.getElem_mem hs))
theorem Val.names {G : Gram} (h : Val G) : NamesOk G := ⟨h.term_ok, h.pln h.start, fun r hr => h.pln (h.rule hr).1, fun r hr x hx => h.sym ((h.rule hr).2.2 x hx).1 ((h.rule hr).2.2 x hx).2⟩

theorem num_back {G : Gram} (h : Val G) (b : ByteArray) (tx : List ByteArray) {x : Int} (h1 : 1 ≤ x) (h2 : x ≤ (Gr.top G : Int)) : numI ⟨b, G.terms, G.nons, tx⟩ (nameS G x) = x := by
  obtain ⟨n1, n2, n3⟩ := h.nodup
  unfold numI
  rcases sym_at h1 h2 with ⟨s, hs, e1, e⟩ | ⟨s, hs, e1, e⟩
  · rw [e, if_pos (It.isIn_mem.2 (List.getElem_mem hs)), Rd.num_same n1 hs, e1]
  · rw [e, if_neg (fun hh => n3 _ (List.getElem_mem hs) (It.isIn_mem.1 hh)), It.place_in (It.isIn_mem.2 (List.getElem_mem hs)), Rd.num_same n2 hs, e1]
    simp only
    omega

/-- The text of a rule. -/
def textR (G : Gram) (r : Int × List Int) : ByteArray := textOf (nameS G r.1 :: r.2.map (nameS G))

theorem textR_inj {G : Gram} (h : Val G) {r q : Int × List Int} (hr : r ∈ G.rules) (hq : q ∈ G.rules) (he : textR G r = textR G q) : r = q := by
  have nb : ∀ r ∈ G.rules, ∀ s ∈ nameS G r.1 :: r.2.map (nameS G), NoB s.data.toList := fun r hr s hs => by
    rcases List.mem_cons.1 hs with rfl | hs
    · exact sym_noB (.inl (h.names.left r hr))
    · obtain ⟨x, hx, rfl⟩ := List.mem_map.1 hs
      exact sym_noB (h.names.syms r hr x hx)
  obtain ⟨e1, e2⟩ := textOf_inj (nb r hr) (nb q hq) he
  have back : ∀ r ∈ G.rules, r.2 = (r.2.map (nameS G)).map (numI ⟨⟨#[]⟩, G.terms, G.nons, []⟩) := fun r hr => by
    rw [List.map_map]
    exact (List.map_id r.2).symm.trans (List.map_congr_left fun x hx => (num_back h _ _ ((h.rule hr).2.2 x hx).1 ((h.rule hr).2.2 x hx).2).symm)
  have nr : ∀ r ∈ G.rules, 1 ≤ r.1 ∧ r.1 ≤ (Gr.top G : Int) := fun r hr => by
    have := Gr.nonB_iff.1 (h.rule hr).1
    unfold Gr.top
    omega
  have f1 : r.1 = q.1 := by
    rw [← num_back h ⟨#[]⟩ [] (nr r hr).1 (nr r hr).2, e1, num_back h _ _ (nr q hq).1 (nr q hq).2]
  have f2 : r.2 = q.2 := by rw [back r hr, e2, ← back q hq]
  exact Prod.ext f1 f2

/-! ### Nonterminals in their order -/

def ins (L : List ByteArray) (s : ByteArray) : List ByteArray := if It.isIn L s then L else L ++ [s]
theorem ins_in (L : List ByteArray) (s : ByteArray) : It.isIn (ins L s) s = true := by
  unfold ins
  split
  · assumption
  · exact It.isIn_snoc L s
theorem ins_twice (L : List ByteArray) (s : ByteArray) : ins (ins L s) s = ins L s := by
  generalize hM : ins L s = M
  unfold ins
  rw [if_pos (by rw [← hM]; exact ins_in L s)]
theorem ins_le (L : List ByteArray) (s : ByteArray) : L.length ≤ (ins L s).length := by
  unfold ins
  split <;> simp
theorem fold_le (X : List ByteArray) (L : List ByteArray) : L.length ≤ (X.foldl ins L).length := by
  induction X generalizing L with
  | nil => exact Nat.le_refl _
  | cons x X ih => exact Nat.le_trans (ins_le L x) (ih (ins L x))

theorem seen_fold {G : Gram} (h : Val G) (k : Nat) (hk : k ≤ G.rules.length) : ∃ m, Gr.Seen G k m ∧ ((G.rules.take k).map fun r => nameS G r.1).foldl ins [] = G.nons.take m := by
  induction k with
  | zero => exact ⟨0, Gr.seen_zero G, by simp⟩
  | succ k ih =>
    obtain ⟨m, h1, h2⟩ := ih (by omega)
    have hkl : k < G.rules.length := by omega
    have hnon := Gr.known_non h.known hkl
    obtain ⟨i, hi, e1, e2⟩ := non_at hnon
    rw [Gr.leftOf_get hkl] at e2
    obtain ⟨n1, n2, n3⟩ := h.nodup
    have hfold : ((G.rules.take (k + 1)).map fun r => nameS G r.1).foldl ins [] = ins (G.nons.take m) G.nons[i] := by
      rw [List.take_add_one, List.getElem?_eq_getElem hkl, List.map_append, List.foldl_append, h2]
      simp only [Option.toList_some, List.map_cons, List.map_nil, List.foldl_cons, List.foldl_nil, e2]
    rcases Nat.lt_trichotomy i m with hlt | rfl | hlt
    · refine ⟨m, Gr.seen_skip h1 (.inr (by omega)), ?_⟩
      rw [hfold]
      unfold ins
      rw [if_pos (It.isIn_mem.2 (List.mem_iff_getElem.2 ⟨i, by rw [List.length_take]; omega, by rw [List.getElem_take]⟩))]
    · refine ⟨i + 1, Gr.seen_next h1 hnon e1, ?_⟩
      rw [hfold]
      unfold ins
      rw [if_neg]
      · rw [List.take_add_one, List.getElem?_eq_getElem hi]
        rfl
      · intro hh
        obtain ⟨j, hj, e⟩ := List.mem_iff_getElem.1 (It.isIn_mem.1 hh)
        rw [List.getElem_take] at e
        rw [List.length_take] at hj
        have := (List.getElem_inj n2).1 e
        omega
    · have := Gr.seen_far hkl h1 hnon (by omega)
      rw [h.ord] at this
      cases this

theorem fold_all {G : Gram} (h : Val G) : (G.rules.map fun r => nameS G r.1).foldl ins [] = G.nons := by
  obtain ⟨m, h1, h2⟩ := seen_fold h G.rules.length (Nat.le_refl _)
  rw [List.take_length] at h2
  rw [h2]
  refine List.take_of_length_le ?_
  rcases Nat.lt_or_ge m G.nons.length with hlt | hge
  · obtain ⟨r, hr, e⟩ := h.has (x := (G.terms.length : Int) + 1 + m) (by rw [Gr.nonB_iff]; omega)
    obtain ⟨j, hj, rfl⟩ := List.mem_iff_getElem.1 hr
    have := (h1.2 m hlt).2 ⟨j, hj, by rw [Gr.leftOf_get hj]; exact e⟩
    omega
  · exact hge

theorem fold_flat (G : Gram) (Q : List (Int × List Int × List (List Int))) (L : List ByteArray) : ((flat Q).map fun r => nameS G r.1).foldl ins L = (Q.map fun g => nameS G g.1).foldl ins L := by
  induction Q generalizing L with
  | nil => rfl
  | cons g Q ih =>
    have one : ∀ (S : List (List Int)), ((S.map fun l => (g.1, l)).map fun r => nameS G r.1).foldl ins (ins L (nameS G g.1)) = ins L (nameS G g.1) := by
      intro S
      induction S with
      | nil => rfl
      | cons l S ihS =>
        simp only [List.map_cons, List.foldl_cons, ins_twice]
        exact ihS
    have e : flat (g :: Q) = ((g.2.1 :: g.2.2).map fun l => (g.1, l)) ++ flat Q := by unfold flat; rw [List.flatMap_cons]
    rw [e, List.map_append, List.foldl_append, List.map_cons, List.map_cons, List.foldl_cons, one, ih]
    rfl

/-! ### The maker -/

theorem putM_has {L : List ByteArray} {t : Tok} (hl : It.okLen t.s = true) (hi : t.s ∈ L) : putM L t = .ok L := by
  have hi := It.isIn_mem.2 hi
  unfold putM It.putE It.putL
  rw [if_pos hl, if_pos hl, if_pos hi, if_pos hi, if_pos rfl]
theorem putM_new {L : List ByteArray} {t : Tok} (hl : It.okLen t.s = true) (hi : t.s ∉ L) (hn : L.length < 120) : putM L t = .ok (L ++ [t.s]) := by
  have hi : ¬ It.isIn L t.s = true := fun h => hi (It.isIn_mem.1 h)
  have hc : ¬ 120 ≤ L.length := by omega
  unfold putM It.putE It.putL
  rw [if_pos hl, if_pos hl, if_neg hi, if_neg hi, if_neg hc, if_neg hc, if_pos rfl]
theorem putM_ins {L : List ByteArray} {t : Tok} (hl : It.okLen t.s = true) (hn : (ins L t.s).length ≤ 120) : putM L t = .ok (ins L t.s) := by
  unfold ins at hn ⊢
  split at hn
  · rename_i hi
    rw [if_pos hi]
    exact putM_has hl (It.isIn_mem.1 hi)
  · rename_i hi
    rw [if_neg hi]
    exact putM_new hl (fun h => hi (It.isIn_mem.2 h)) (by simp at hn; omega)

theorem namesM_all (T : List Tok) : ∀ L : List ByteArray, (L ++ T.map (·.s)).Nodup → (L ++ T.map (·.s)).length ≤ 120 → (∀ t ∈ T, It.okLen t.s = true) → namesM L T = .ok (L ++ T.map (·.s)) := by
  induction T with
  | nil => intro L _ _ _; unfold namesM; simp
  | cons t T ih =>
    intro L hn hl ht
    rw [List.map_cons] at hn hl ⊢
    have hm : t.s ∉ L := fun hm => (List.nodup_append.1 hn).2.2 _ hm _ (List.mem_cons_self ..) rfl
    unfold namesM
    rw [if_neg (fun h => hm (It.isIn_mem.1 h)), putM_new (ht t (List.mem_cons_self ..)) hm (by simp at hl; omega)]
    show namesM (L ++ [t.s]) T = _
    have e : L ++ t.s :: T.map (·.s) = L ++ [t.s] ++ T.map (·.s) := by simp
    rw [e] at hn hl ⊢
    exact ih _ hn hl fun x hx => ht x (List.mem_cons_of_mem _ hx)

/-- A token that the maker knows. -/
def Fine (lf L1 : List ByteArray) (t : Tok) : Prop := (t.k = 2 ∧ t.s ∈ L1 ∧ It.okLen t.s = true) ∨ (t.k = 1 ∧ (t.s ∈ L1 ∨ t.s ∈ lf))
theorem fine_unk {lf L1 : List ByteArray} {t : Tok} (h : Fine lf L1 t) : unkB L1 lf t = false := by
  unfold unkB
  rcases h with ⟨h, _⟩ | ⟨_, h | h⟩
  · rw [h]; rfl
  · rw [It.isIn_mem.2 h]; simp
  · rw [It.isIn_mem.2 h]; simp
theorem symsM_all {lf L1 : List ByteArray} (T : List Tok) : ∀ i : Nat, i + T.length ≤ 8 → (∀ t ∈ T, Fine lf L1 t) → symsM lf L1 T i = .ok L1 := by
  induction T with
  | nil => intro i _ _; rfl
  | cons t T ih =>
    intro i hi ht
    have h := ht t (List.mem_cons_self ..)
    rw [List.length_cons] at hi
    have hs : symM lf L1 t i = .ok L1 := by
      unfold symM
      rw [fine_unk h, if_neg (by decide), if_neg (by omega)]
      rcases h with ⟨h, h2, h3⟩ | ⟨h, _⟩
      · rw [if_pos h, putM_has h3 h2]
      · rw [if_neg (by rw [h]; decide)]
    show (symM lf L1 t i).bind _ = _
    rw [hs]
    exact ih (i + 1) (by omega) fun x hx => ht x (List.mem_cons_of_mem _ hx)

structure FineS (lf L1 : List ByteArray) (s : Side) : Prop where
  few : s.syms.length ≤ 8
  syms : ∀ t ∈ s.syms, Fine lf L1 t
  first : s.first ∈ s.syms ∨ ¬ s.first.k = 1

theorem sidesM_all {lf L1 : List ByteArray} (left : Tok) (b : ByteArray) (L2 : List ByteArray) (Ss : List Side) : ∀ tx : List ByteArray, (tx ++ Ss.map fun s => textOf (left.s :: spellS s)).Nodup → (tx ++ Ss.map fun s => textOf (left.s :: spellS s)).length ≤ 300 → (∀ s ∈ Ss, FineS lf L1 s) →
    sidesM lf left ⟨b, L1, L2, tx⟩ Ss = .ok ⟨b, L1, L2, tx ++ Ss.map fun s => textOf (left.s :: spellS s)⟩ := by
  induction Ss with
  | nil => intro tx _ _ _; unfold sidesM; simp
  | cons s Ss ih =>
    intro tx hn hl hs
    rw [List.map_cons] at hn hl ⊢
    have h := hs s (List.mem_cons_self ..)
    have hm : textOf (left.s :: spellS s) ∉ tx := fun hm => (List.nodup_append.1 hn).2.2 _ hm _ (List.mem_cons_self ..) rfl
    have h1 : sideM lf left ⟨b, L1, L2, tx⟩ s = .ok ⟨b, L1, L2, tx ++ [textOf (left.s :: spellS s)]⟩ := by
      unfold sideM
      have hu : unkB L1 lf s.first = false := by
        rcases h.first with q | q
        · exact fine_unk (h.syms _ q)
        · unfold unkB
          have : (s.first.k == 1) = false := by simpa using q
          rw [this]
          rfl
      rw [joined_eq, if_neg (fun q => hm (It.isIn_mem.1 q)), if_neg (by simp only; rw [hu]; decide), if_neg (by simp only; simp at hl; omega)]
      simp only
      rw [symsM_all _ 0 (by rw [Nat.zero_add]; exact h.few) h.syms]
      rfl
    show (sideM lf left ⟨b, L1, L2, tx⟩ s).bind _ = _
    rw [h1]
    show sidesM lf left ⟨b, L1, L2, tx ++ [textOf (left.s :: spellS s)]⟩ Ss = _
    have e : tx ++ textOf (left.s :: spellS s) :: Ss.map (fun s => textOf (left.s :: spellS s)) = tx ++ [textOf (left.s :: spellS s)] ++ Ss.map fun s => textOf (left.s :: spellS s) := by simp
    rw [e] at hn hl ⊢
    exact ih _ hn hl fun x hx => hs x (List.mem_cons_of_mem _ hx)

/-- The texts of rules that are read. -/
def textsOf (Rs : List Rul) : List ByteArray := Rs.flatMap fun R => R.sides.map fun s => textOf (R.left.s :: spellS s)

theorem rulesM_all {lf L1 : List ByteArray} (b : ByteArray) (Rs : List Rul) : ∀ L2 tx : List ByteArray, (tx ++ textsOf Rs).Nodup → (tx ++ textsOf Rs).length ≤ 300 → ((Rs.map (·.left.s)).foldl ins L2).length ≤ 120 →
    (∀ R ∈ Rs, It.okLen R.left.s = true ∧ R.left.s ∉ L1 ∧ ∀ s ∈ R.sides, FineS lf L1 s) → rulesM lf ⟨b, L1, L2, tx⟩ Rs = .ok ⟨b, L1, (Rs.map (·.left.s)).foldl ins L2, tx ++ textsOf Rs⟩ := by
  induction Rs with
  | nil => intro L2 tx _ _ _ _; unfold rulesM; simp [textsOf]
  | cons R Rs ih =>
    intro L2 tx hn hl h2 hR
    obtain ⟨r1, r2, r3⟩ := hR R (List.mem_cons_self ..)
    have e : textsOf (R :: Rs) = (R.sides.map fun s => textOf (R.left.s :: spellS s)) ++ textsOf Rs := by unfold textsOf; rw [List.flatMap_cons]
    rw [e, ← List.append_assoc] at hn hl ⊢
    rw [List.map_cons, List.foldl_cons] at h2 ⊢
    have h1 : ruleM lf ⟨b, L1, L2, tx⟩ R = .ok ⟨b, L1, ins L2 R.left.s, tx ++ R.sides.map fun s => textOf (R.left.s :: spellS s)⟩ := by
      unfold ruleM
      simp only
      rw [if_neg (fun q => r2 (It.isIn_mem.1 q)), putM_ins r1 (Nat.le_trans (fold_le _ _) h2)]
      exact sidesM_all _ _ _ _ _ (List.nodup_append.1 hn).1 (by rw [List.length_append] at hl; omega) r3
    show (ruleM lf ⟨b, L1, L2, tx⟩ R).bind _ = _
    rw [h1]
    exact ih _ _ hn hl h2 fun x hx => hR x (List.mem_cons_of_mem _ hx)

theorem ruls_left {G : Gram} : ∀ {Q : List (Int × List Int × List (List Int))} {Rs : List Rul}, RulsOf G Q Rs → Rs.map (·.left.s) = Q.map fun g => nameS G g.1
  | [], [], _ => rfl
  | g :: Q, R :: Rs, h => by rw [List.map_cons, List.map_cons, h.1.left, ruls_left h.2]
  | [], R :: Rs, h => h.elim
  | g :: Q, [], h => h.elim
theorem ruls_mem {G : Gram} : ∀ {Q : List (Int × List Int × List (List Int))} {Rs : List Rul}, RulsOf G Q Rs → ∀ R ∈ Rs, ∃ g ∈ Q, RulOf G g R
  | [], [], _, R, hR => by cases hR
  | g :: Q, S :: Rs, h, R, hR => by
    rcases List.mem_cons.1 hR with rfl | hR
    · exact ⟨g, List.mem_cons_self .., h.1⟩
    · obtain ⟨k, hk, e⟩ := ruls_mem h.2 R hR
      exact ⟨k, List.mem_cons_of_mem _ hk, e⟩
  | [], R :: Rs, h, _, _ => h.elim
  | g :: Q, [], h, _, _ => h.elim
theorem ruls_texts {G : Gram} : ∀ {Q : List (Int × List Int × List (List Int))} {Rs : List Rul}, RulsOf G Q Rs → textsOf Rs = (flat Q).map (textR G)
  | [], [], _ => rfl
  | g :: Q, R :: Rs, h => by
    have e1 : textsOf (R :: Rs) = (R.sides.map fun s => textOf (R.left.s :: spellS s)) ++ textsOf Rs := by unfold textsOf; rw [List.flatMap_cons]
    have e2 : flat (g :: Q) = ((g.2.1 :: g.2.2).map fun l => (g.1, l)) ++ flat Q := by unfold flat; rw [List.flatMap_cons]
    have e3 : (R.sides.map fun s => textOf (R.left.s :: spellS s)) = (R.sides.map spellS).map fun ns => textOf (R.left.s :: ns) := by rw [List.map_map]; rfl
    rw [e1, e2, List.map_append, ruls_texts h.2, e3, h.1.spell, h.1.left, List.map_map, List.map_map]
    rfl
  | [], R :: Rs, h => h.elim
  | g :: Q, [], h => h.elim
theorem ruls_rows {G : Gram} {st : MSt} (hb : ∀ r ∈ G.rules, numI st (nameS G r.1) = r.1 ∧ ∀ x ∈ r.2, numI st (nameS G x) = x) : ∀ {Q : List (Int × List Int × List (List Int))} {Rs : List Rul}, RulsOf G Q Rs → (∀ r ∈ flat Q, r ∈ G.rules) → Rs.flatMap (rowsI st) = flat Q
  | [], [], _, _ => rfl
  | g :: Q, R :: Rs, h, hQ => by
    have e2 : flat (g :: Q) = ((g.2.1 :: g.2.2).map fun l => (g.1, l)) ++ flat Q := by unfold flat; rw [List.flatMap_cons]
    rw [e2] at hQ
    rw [List.flatMap_cons, e2, ruls_rows hb h.2 fun r hr => hQ r (List.mem_append_right _ hr)]
    congr 1
    have e3 : rowsI st R = (R.sides.map spellS).map fun ns => (numI st R.left.s, ns.map (numI st)) := by
      unfold rowsI spellS
      rw [List.map_map]
      refine List.map_congr_left fun s _ => ?_
      simp [List.map_map, Function.comp_def]
    rw [e3, h.1.spell, h.1.left, List.map_map]
    refine List.map_congr_left fun l hl => ?_
    have hm := hQ (g.1, l) (List.mem_append_left _ (List.mem_map.2 ⟨l, hl, rfl⟩))
    obtain ⟨q1, q2⟩ := hb _ hm
    simp only [Function.comp_apply, List.map_map]
    refine Prod.ext q1 ?_
    exact (List.map_congr_left fun x hx => q2 x hx).trans (List.map_id l)
  | [], R :: Rs, h, _ => h.elim
  | g :: Q, [], h, _ => h.elim

theorem make_show {G : Gram} (h : Val G) {D : List Decl} {Rs : List Rul} (hD : DeclsOf G D) (hR : RulsOf G (grp G.rules) Rs) : makeM ⟨D, Rs⟩ = .ok G := by
  obtain ⟨n1, n2, n3⟩ := h.nodup
  obtain ⟨f1, f2, f3⟩ := h.few
  have hlf : leftsM ⟨D, Rs⟩ = (grp G.rules).map fun g => nameS G g.1 := ruls_left hR
  have inlf : ∀ x, Gr.nonB G x = true → nameS G x ∈ leftsM ⟨D, Rs⟩ := fun x hx => by
    rw [hlf]
    obtain ⟨r, hr, e⟩ := h.has hx
    rw [← flat_grp G.rules] at hr
    obtain ⟨g, hg, hr⟩ := List.mem_flatMap.1 hr
    obtain ⟨l, _, rfl⟩ := List.mem_map.1 hr
    exact List.mem_map.2 ⟨g, hg, by rw [← e]⟩
  have hst := h.pln h.start
  have hlen := sym_len (.inl hst)
  have hdecl : declsM (leftsM ⟨D, Rs⟩) st0 D = .ok ⟨nameS G G.start, G.terms, [], []⟩ := by
    have one : ∀ (m n : Tok) (L : List ByteArray), m.k = 8 → n.s = nameS G G.start → declM (leftsM ⟨D, Rs⟩) ⟨⟨#[]⟩, L, [], []⟩ ⟨m, [n]⟩ = .ok ⟨nameS G G.start, L, [], []⟩ := fun m n L hm hn => by
      unfold declM
      rw [if_pos (by exact hm), if_neg (show ¬ isEmp (⟨#[]⟩ : ByteArray) = false by decide)]
      show (if It.isIn (leftsM ⟨D, Rs⟩) n.s = false then _ else _) = _
      rw [hn, It.isIn_mem.2 (inlf _ h.start), if_neg (by decide)]
      show Mo.ok (MSt.mk n.s L [] []) = _
      rw [hn]
    cases hD with
    | none m n hn hm hs =>
      have e : G.terms = [] := List.eq_nil_of_length_eq_zero hn
      show (declM _ _ _).bind _ = _
      unfold st0
      rw [one m n [] hm hs, e]
      rfl
    | some t m n T hn ht hT hm hs =>
      have hnames : namesM [] T = .ok G.terms := by
        rw [namesM_all T [] (by rw [List.nil_append, hT]; exact n1) (by rw [List.nil_append, hT]; exact f1) (fun t htm => sym_len (h.term_ok _ (by rw [← hT]; exact List.mem_map.2 ⟨t, htm, rfl⟩))), List.nil_append, hT]
      have h1 : declM (leftsM ⟨[⟨t, T⟩, ⟨m, [n]⟩], Rs⟩) st0 ⟨t, T⟩ = .ok ⟨⟨#[]⟩, G.terms, [], []⟩ := by
        unfold declM
        rw [if_neg (by show ¬ t.k = 8; rw [ht]; decide)]
        show (namesM [] T).bind _ = _
        rw [hnames]
        rfl
      show (declM _ _ _).bind _ = _
      rw [h1]
      show (declM _ _ _).bind _ = _
      rw [one m n G.terms hm hs]
      rfl
  have hfold : (Rs.map (·.left.s)).foldl ins [] = G.nons := by
    rw [ruls_left hR, ← fold_flat, flat_grp]
    exact fold_all h
  have htexts : textsOf Rs = G.rules.map (textR G) := by rw [ruls_texts hR, flat_grp]
  have hnd : (G.rules.map (textR G)).Nodup := by
    have hu := h.unlike
    unfold Gr.unlikeB at hu
    rw [decide_eq_true_iff] at hu
    exact Rd.nodup_through (textR G) id (by rw [List.map_id]; exact hu) fun x hx y hy e => textR_inj h hx hy e
  have hfine : ∀ R ∈ Rs, It.okLen R.left.s = true ∧ R.left.s ∉ G.terms ∧ ∀ s ∈ R.sides, FineS (leftsM ⟨D, Rs⟩) G.terms s := fun R hRm => by
    obtain ⟨g, hg, hro⟩ := ruls_mem hR R hRm
    have hmem : ∀ k ∈ g.2.1 :: g.2.2, (g.1, k) ∈ G.rules := fun k hk => by
      rw [← flat_grp G.rules]
      exact mem_flat hg hk
    have hl := (h.rule (hmem _ (List.mem_cons_self ..))).1
    refine ⟨by rw [hro.left]; exact sym_len (.inl (h.pln hl)), ?_, fun s hs => ?_⟩
    · rw [hro.left]
      obtain ⟨i, hi, _, e⟩ := non_at hl
      rw [e]
      exact n3 _ (List.getElem_mem hi)
    · have hsp : spellS s ∈ (g.2.1 :: g.2.2).map (·.map (nameS G)) := by rw [← hro.spell]; exact List.mem_map.2 ⟨s, hs, rfl⟩
      obtain ⟨k, hk, e⟩ := List.mem_map.1 hsp
      have hgd := hro.good s hs
      obtain ⟨_, q2, q3⟩ := h.rule (hmem k hk)
      refine ⟨?_, fun t ht => ?_, hgd.2⟩
      · have := congrArg List.length e
        unfold spellS at this
        rw [List.length_map, List.length_map] at this
        have q4 : k.length ≤ 8 := q2
        omega
      · have hts : t.s ∈ k.map (nameS G) := by rw [e]; exact List.mem_map.2 ⟨t, ht, rfl⟩
        obtain ⟨x, hx, ex⟩ := List.mem_map.1 hts
        have hkd := hgd.1 t ht
        obtain ⟨x1, x2⟩ := q3 x hx
        have hok := h.sym x1 x2
        rw [ex] at hok
        rcases sym_at x1 x2 with ⟨i, hi, _, e3⟩ | ⟨i, hi, e4, e3⟩
        · have hin : t.s ∈ G.terms := by rw [← ex, e3]; exact List.getElem_mem hi
          rcases kd_sym t.s with e5 | e5
          · exact .inr ⟨by rw [hkd, e5], .inl hin⟩
          · exact .inl ⟨by rw [hkd, e5], hin, sym_len hok⟩
        · have hnb : Gr.nonB G x = true := by rw [Gr.nonB_iff]; omega
          have hp := h.pln hnb
          rw [ex] at hp
          exact .inr ⟨by rw [hkd, pln_kd hp], .inr (by rw [← ex]; exact inlf x hnb)⟩
  have hrules : rulesM (leftsM ⟨D, Rs⟩) ⟨nameS G G.start, G.terms, [], []⟩ Rs = .ok ⟨nameS G G.start, G.terms, G.nons, G.rules.map (textR G)⟩ := by
    rw [rulesM_all (nameS G G.start) Rs [] [] (by rw [List.nil_append, htexts]; exact hnd) (by rw [List.nil_append, htexts, List.length_map]; exact f3) (by rw [hfold]; exact f2) hfine, hfold, List.nil_append, htexts]
  have hrun : runM ⟨D, Rs⟩ = .ok ⟨nameS G G.start, G.terms, G.nons, G.rules.map (textR G)⟩ := by
    unfold runM
    simp only
    rw [hdecl]
    exact hrules
  unfold makeM
  rw [hrun]
  show Mo.ok (Rd.gramM _ _) = _
  have rng : ∀ x, Gr.nonB G x = true → 1 ≤ x ∧ x ≤ (Gr.top G : Int) := fun x hx => by
    have := Gr.nonB_iff.1 hx
    unfold Gr.top
    omega
  have hrows := ruls_rows (G := G) (st := ⟨nameS G G.start, G.terms, G.nons, G.rules.map (textR G)⟩) (fun r hr => ⟨num_back h _ _ (rng _ (h.rule hr).1).1 (rng _ (h.rule hr).1).2, fun x hx => num_back h _ _ ((h.rule hr).2.2 x hx).1 ((h.rule hr).2.2 x hx).2⟩) hR (by rw [flat_grp]; exact fun r hr => hr)
  unfold Rd.gramM
  simp only
  rw [hrows, flat_grp, num_back h _ _ (rng _ h.start).1 (rng _ h.start).2]
  have hem : isEmp (nameS G G.start) = false := by
    unfold isEmp
    unfold It.okLen at hlen
    rw [Bool.and_eq_true, decide_eq_true_iff] at hlen
    have := hlen.1
    simpa using (by omega : ¬ (nameS G G.start).size = 0)
  rw [hem]
  rfl

/-- The text of a valid and ordered grammar has tokens that are read as a source that is made into this grammar. -/
theorem show_parts {G : Gram} (h : checkN G = 0) (ho : ordB G = true) (hl : (showL G).length ≤ 8192) : ∃ T src rest, Lexes (showL G) (.ok T) ∧ Is (fun f => sourceP f T) (.ok src rest) ∧ makeM src = .ok G := by
  have hv := val_of h ho
  have ht := txt_show G hv.some
  have hx := lexes_pieces (fits_show hv.names) (by rw [ht]; exact hl)
  rw [ht] at hx
  obtain ⟨f, D, Rs, d1, d2, d3⟩ := sourceP_show G hv.some ⟨0, ⟨#[]⟩, (showL G).length⟩ rfl
  exact ⟨_, ⟨D, Rs⟩, _, hx, ⟨f, d3, by rintro ⟨⟩⟩, make_show hv d1 d2⟩

end Go.Proofs.Ytimfiaphhomelaa.Sw
