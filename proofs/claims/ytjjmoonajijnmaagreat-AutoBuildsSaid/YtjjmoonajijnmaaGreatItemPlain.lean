/-
  Plain facts on items: their order, lists in order without one twice, an item put into such a list; which items are right, what stands behind the dot; the closure as the least set, what is stepped to, the kernel. No program in it.
-/
import Derived.Test.YtjjmoonajijnmaaGreatGramPlain
namespace Go.Proofs.YtjjmoonajijnmaaGreat.Im
open Go.Proofs.YtjjmoonajijnmaaGreat.Gr (Gram nonB termB top checkN termB_iff nonB_iff ruleB ruleR ofN mem_ofN leftOf)
set_option linter.unusedVariables false

/-- An item: a rule, a dot. -/
abbrev Itm := Int × Int

/-! ### The order -/

def ltP (a b : Itm) : Prop := a.1 < b.1 ∨ (a.1 = b.1 ∧ a.2 < b.2)
instance (a b : Itm) : Decidable (ltP a b) := by unfold ltP; infer_instance
theorem ltP.trans {a b c : Itm} (h : ltP a b) (k : ltP b c) : ltP a c := by
  unfold ltP at *
  omega
theorem ltP.ne {a b : Itm} (h : ltP a b) : a ≠ b := fun e => by
  subst e
  unfold ltP at h
  omega
theorem ltP.not {a b : Itm} (h : ltP a b) : ¬ ltP b a := by
  unfold ltP at *
  omega
theorem ltP_or {a b : Itm} (h : ¬ ltP a b) (hn : a ≠ b) : ltP b a := by
  have hn' : ¬ (a.1 = b.1 ∧ a.2 = b.2) := fun ⟨e1, e2⟩ => hn (Prod.ext e1 e2)
  unfold ltP at *
  omega

/-- In order, none twice. -/
def Srt (l : List Itm) : Prop := l.Pairwise ltP
theorem srt_nil : Srt [] := List.Pairwise.nil
theorem srt_one (x : Itm) : Srt [x] := List.pairwise_singleton _ _
theorem srt_ext : ∀ {a b : List Itm}, Srt a → Srt b → (∀ x, x ∈ a ↔ x ∈ b) → a = b
  | [], [], _, _, _ => rfl
  | [], y :: b, _, _, h => by
    have := (h y).2 (List.mem_cons_self ..)
    cases this
  | x :: a, [], _, _, h => by
    have := (h x).1 (List.mem_cons_self ..)
    cases this
  | x :: a, y :: b, ha, hb, h => by
    have ha' := List.pairwise_cons.1 ha
    have hb' := List.pairwise_cons.1 hb
    have e : x = y := by
      rcases List.mem_cons.1 ((h x).1 (List.mem_cons_self ..)) with e | e
      · exact e
      · rcases List.mem_cons.1 ((h y).2 (List.mem_cons_self ..)) with e' | e'
        · exact e'.symm
        · exact absurd (ha'.1 _ e') (hb'.1 _ e).not
    subst e
    congr 1
    refine srt_ext ha'.2 hb'.2 fun z => ?_
    constructor
    · intro hz
      rcases List.mem_cons.1 ((h z).1 (List.mem_cons_of_mem _ hz)) with e | e
      · subst e
        exact absurd rfl (ha'.1 _ hz).ne
      · exact e
    · intro hz
      rcases List.mem_cons.1 ((h z).2 (List.mem_cons_of_mem _ hz)) with e | e
      · subst e
        exact absurd rfl (hb'.1 _ hz).ne
      · exact e

/-- The list, in order, of just those of which P says yes. -/
def Is (l : List Itm) (P : Itm → Prop) : Prop := Srt l ∧ ∀ x, x ∈ l ↔ P x
theorem Is.uniq {a b : List Itm} {P : Itm → Prop} (h : Is a P) (k : Is b P) : a = b := srt_ext h.1 k.1 fun x => (h.2 x).trans (k.2 x).symm
theorem Is.iff {a : List Itm} {P Q : Itm → Prop} (h : Is a P) (e : ∀ x, P x ↔ Q x) : Is a Q := ⟨h.1, fun x => (h.2 x).trans (e x)⟩
theorem Is.nil {P : Itm → Prop} (h : ∀ x, ¬ P x) : Is [] P := ⟨srt_nil, fun x => ⟨fun hx => (List.not_mem_nil hx).elim, fun hx => absurd hx (h x)⟩⟩
theorem Is.self {a : List Itm} (h : Srt a) : Is a (· ∈ a) := ⟨h, fun _ => .rfl⟩

/-! ### An item more -/

def putI : List Itm → Itm → List Itm
  | [], x => [x]
  | y :: l, x => if ltP y x then y :: putI l x else if y = x then y :: l else x :: y :: l
theorem mem_put {x z : Itm} : ∀ {l : List Itm}, z ∈ putI l x ↔ z ∈ l ∨ z = x
  | [] => by simp [putI]
  | y :: l => by
    unfold putI
    split
    · rw [List.mem_cons, mem_put, List.mem_cons, or_assoc]
    · split
      · rename_i e
        subst e
        simp only [List.mem_cons]
        constructor
        · exact fun h => .inl h
        · rintro (h | h)
          · exact h
          · exact .inl h
      · simp only [List.mem_cons]
        constructor
        · rintro (h | h | h)
          · exact .inr h
          · exact .inl (.inl h)
          · exact .inl (.inr h)
        · rintro ((h | h) | h)
          · exact .inr (.inl h)
          · exact .inr (.inr h)
          · exact .inl h
theorem srt_put {x : Itm} : ∀ {l : List Itm}, Srt l → Srt (putI l x)
  | [], _ => srt_one x
  | y :: l, h => by
    have h' := List.pairwise_cons.1 h
    unfold putI
    split
    · rename_i hl
      refine List.pairwise_cons.2 ⟨fun z hz => ?_, srt_put h'.2⟩
      rcases mem_put.1 hz with e | e
      · exact h'.1 _ e
      · rw [e]
        exact hl
    · split
      · exact h
      · rename_i hl hn
        have hx := ltP_or hl hn
        refine List.pairwise_cons.2 ⟨fun z hz => ?_, h⟩
        rcases List.mem_cons.1 hz with e | e
        · rw [e]
          exact hx
        · exact hx.trans (h'.1 _ e)
theorem put_self {x : Itm} {l : List Itm} (hs : Srt l) (h : x ∈ l) : putI l x = l := srt_ext (srt_put hs) hs fun z => by
  rw [mem_put]
  constructor
  · rintro (k | k)
    · exact k
    · rw [k]
      exact h
  · exact .inl
theorem put_length {x : Itm} : ∀ {l : List Itm}, Srt l → (putI l x).length = if x ∈ l then l.length else l.length + 1
  | [], _ => by simp [putI]
  | y :: l, h => by
    have h' := List.pairwise_cons.1 h
    unfold putI
    split
    · rename_i hl
      have hn : x ≠ y := fun e => hl.ne e.symm
      rw [List.length_cons, put_length h'.2]
      by_cases k : x ∈ l
      · rw [if_pos k, if_pos (List.mem_cons_of_mem _ k), List.length_cons]
      · rw [if_neg k, if_neg (by rw [List.mem_cons]; rintro (e | e); exact hn e; exact k e), List.length_cons]
    · split
      · rename_i e
        subst e
        rw [if_pos (List.mem_cons_self ..)]
      · rename_i hl hn
        have hx := ltP_or hl hn
        rw [if_neg]
        · rfl
        · intro k
          rcases List.mem_cons.1 k with e | e
          · exact hn e.symm
          · exact (h'.1 _ e).not hx
/-- As a scan finds the place. -/
theorem put_at {x : Itm} : ∀ {l : List Itm} {k : Nat}, k ≤ l.length → (∀ j (h : j < l.length), j < k → ltP l[j] x) → (∀ h : k < l.length, ¬ ltP l[k] x) →
    putI l x = if l[k]? = some x then l else l.take k ++ x :: l.drop k
  | [], k, hk, _, _ => by
    have : k = 0 := by simpa using hk
    subst this
    simp [putI]
  | y :: l, 0, _, _, h2 => by
    have hl : ¬ ltP y x := h2 (by simp)
    unfold putI
    rw [if_neg hl]
    by_cases e : y = x
    · subst e
      simp
    · simp [e]
  | y :: l, k + 1, hk, h1, h2 => by
    have hl : ltP y x := h1 0 (by simp) (by omega)
    unfold putI
    rw [if_pos hl, put_at (l := l) (k := k) (by simpa using hk) (fun j h hj => h1 (j + 1) (by simpa using h) (by omega)) (fun h => h2 (by simpa using h))]
    simp only [List.getElem?_cons_succ, List.take_succ_cons, List.drop_succ_cons]
    split <;> rfl
theorem Is.put {l : List Itm} {P : Itm → Prop} (h : Is l P) (x : Itm) : Is (putI l x) (fun z => P z ∨ z = x) := ⟨srt_put h.1, fun z => by rw [mem_put, h.2]⟩

/-! ### Right items, and what stands behind the dot -/

def rlen (G : Gram) (r : Int) : Nat := (ruleR G r).2.length
def rightB (G : Gram) (x : Itm) : Bool := ruleB G x.1 && decide (0 ≤ x.2 ∧ x.2 ≤ (rlen G x.1 : Int))
def behB (G : Gram) (x : Itm) : Bool := rightB G x && decide (x.2 < (rlen G x.1 : Int))
def behV (G : Gram) (x : Itm) : Int := if behB G x then (ruleR G x.1).2.getD x.2.toNat 0 else 0
theorem right_iff {G : Gram} {x : Itm} : rightB G x = true ↔ (0 ≤ x.1 ∧ x.1 ≤ (G.rules.length : Int)) ∧ (0 ≤ x.2 ∧ x.2 ≤ (rlen G x.1 : Int)) := by
  unfold rightB ruleB
  rw [Bool.and_eq_true, decide_eq_true_iff, decide_eq_true_iff]
theorem beh_iff {G : Gram} {x : Itm} : behB G x = true ↔ rightB G x = true ∧ x.2 < (rlen G x.1 : Int) := by
  unfold behB
  rw [Bool.and_eq_true, decide_eq_true_iff]
theorem right_next {G : Gram} {x : Itm} (h : behB G x = true) : rightB G (x.1, x.2 + 1) = true := by
  obtain ⟨h1, h2⟩ := beh_iff.1 h
  have h3 := right_iff.1 h1
  rw [right_iff]
  exact ⟨h3.1, by dsimp only; omega, by dsimp only; omega⟩
theorem right_open {G : Gram} {r : Nat} (h : r ≤ G.rules.length) : rightB G ((r : Int), 0) = true := by
  rw [right_iff]
  exact ⟨⟨by dsimp only; omega, by dsimp only; omega⟩, by dsimp only; omega, by dsimp only; omega⟩

/-! ### The closure -/

inductive Clo (G : Gram) (L : List Itm) : Itm → Prop
  | of {x : Itm} : x ∈ L → rightB G x = true → Clo G L x
  | next {y : Itm} {r : Nat} : Clo G L y → behB G y = true → r ∈ ofN G (behV G y) → Clo G L ((r : Int), 0)

theorem clo_right {G : Gram} {L : List Itm} {x : Itm} (h : Clo G L x) : rightB G x = true := by
  cases h with
  | of _ h => exact h
  | next _ _ h => exact right_open (Nat.le_of_lt (mem_ofN.1 h).1)
theorem clo_mono {G : Gram} {L M : List Itm} (k : ∀ x ∈ L, x ∈ M) {x : Itm} (h : Clo G L x) : Clo G M x := by
  induction h with
  | of h1 h2 => exact .of (k _ h1) h2
  | next _ h2 h3 ih => exact .next ih h2 h3
theorem clo_same {G : Gram} {L M : List Itm} (k : ∀ x, x ∈ L ↔ x ∈ M) (x : Itm) : Clo G L x ↔ Clo G M x := ⟨clo_mono fun x h => (k x).1 h, clo_mono fun x h => (k x).2 h⟩
/-- What is closed is closed again as it is. -/
theorem clo_clo {G : Gram} {L c : List Itm} (h : Is c (Clo G L)) (x : Itm) : Clo G c x ↔ Clo G L x := by
  constructor
  · intro k
    induction k with
    | of h1 _ => exact (h.2 _).1 h1
    | next _ h2 h3 ih => exact .next ih h2 h3
  · intro k
    exact .of ((h.2 x).2 k) (clo_right k)
/-- A new item of a closure stands at the beginning of a rule of the grammar. -/
theorem clo_new {G : Gram} {L : List Itm} {x : Itm} (h : Clo G L x) : x ∈ L ∨ (x.2 = 0 ∧ x.1 < (G.rules.length : Int)) := by
  cases h with
  | of h _ => exact .inl h
  | next _ _ h =>
    refine .inr ⟨rfl, ?_⟩
    have := (mem_ofN.1 h).1
    dsimp only
    omega

/-! ### Step and Kernel -/

def StepP (G : Gram) (L : List Itm) (s : Int) (x : Itm) : Prop := ∃ y ∈ L, behB G y = true ∧ behV G y = s ∧ x = (y.1, y.2 + 1)
def KerP (G : Gram) (L : List Itm) (x : Itm) : Prop := x ∈ L ∧ rightB G x = true ∧ (0 < x.2 ∨ x.1 = (G.rules.length : Int))
theorem step_right {G : Gram} {L : List Itm} {s : Int} {x : Itm} (h : StepP G L s x) : rightB G x = true ∧ 0 < x.2 := by
  obtain ⟨y, _, h1, _, h2⟩ := h
  subst h2
  have := right_iff.1 (beh_iff.1 h1).1
  exact ⟨right_next h1, by dsimp only; omega⟩
theorem ker_step {G : Gram} {L k : List Itm} {s : Int} (h : Is k (StepP G L s)) (x : Itm) : KerP G k x ↔ x ∈ k := by
  constructor
  · exact fun h => h.1
  · intro hx
    have := step_right ((h.2 x).1 hx)
    exact ⟨hx, this.1, .inl this.2⟩
theorem ker_clo {G : Gram} {L k c : List Itm} {s : Int} (h : Is k (StepP G L s)) (hc : Is c (Clo G k)) (x : Itm) : KerP G c x ↔ x ∈ k := by
  constructor
  · rintro ⟨h1, h2, h3⟩
    rcases clo_new ((hc.2 x).1 h1) with e | ⟨e1, e2⟩
    · exact e
    · omega
  · intro hx
    have := step_right ((h.2 x).1 hx)
    exact ⟨(hc.2 x).2 (.of hx this.1), this.1, .inl this.2⟩

/-! ### Its rounds -/

/-- On its way to the closure: all that the list has, nothing that the closure does not have. -/
structure Mid (G : Gram) (L out : List Itm) : Prop where
  srt : Srt out
  all : ∀ x ∈ L, rightB G x = true → x ∈ out
  sub : ∀ x ∈ out, Clo G L x
theorem Mid.start {G : Gram} {L out : List Itm} (h : Is out (fun x => x ∈ L ∧ rightB G x = true)) : Mid G L out :=
  ⟨h.1, fun x h1 h2 => (h.2 x).2 ⟨h1, h2⟩, fun x hx => .of ((h.2 x).1 hx).1 ((h.2 x).1 hx).2⟩
theorem Mid.put {G : Gram} {L out : List Itm} (m : Mid G L out) {y : Itm} {r : Nat} (hy : Clo G L y) (hb : behB G y = true) (hr : r ∈ ofN G (behV G y)) : Mid G L (putI out ((r : Int), 0)) :=
  ⟨srt_put m.srt, fun x h1 h2 => mem_put.2 (.inl (m.all x h1 h2)), fun x hx => by
    rcases mem_put.1 hx with e | e
    · exact m.sub x e
    · rw [e]
      exact .next hy hb hr⟩
/-- No item of it asks for one more. -/
def Shut (G : Gram) (out : List Itm) : Prop := ∀ y ∈ out, behB G y = true → ∀ r ∈ ofN G (behV G y), ((r : Int), (0 : Int)) ∈ out
theorem Mid.done {G : Gram} {L out : List Itm} (m : Mid G L out) (h : Shut G out) : Is out (Clo G L) := by
  refine ⟨m.srt, fun x => ⟨m.sub x, fun k => ?_⟩⟩
  induction k with
  | of h1 h2 => exact m.all _ h1 h2
  | next _ h2 h3 ih => exact h _ ih h2 _ h3
theorem Mid.right {G : Gram} {L out : List Itm} (m : Mid G L out) {x : Itm} (h : x ∈ out) : rightB G x = true := clo_right (m.sub x h)

/-- All right items. -/
def allI (G : Gram) : List Itm := (List.range (G.rules.length + 1)).flatMap fun (r : Nat) => (List.range (rlen G (r : Int) + 1)).map fun (d : Nat) => ((r : Int), (d : Int))
theorem mem_all {G : Gram} {x : Itm} (h : rightB G x = true) : x ∈ allI G := by
  obtain ⟨⟨h1, h2⟩, h3, h4⟩ := right_iff.1 h
  obtain ⟨r, d⟩ := x
  dsimp only at h1 h2 h3 h4
  obtain ⟨r, rfl⟩ := Int.eq_ofNat_of_zero_le h1
  obtain ⟨d, rfl⟩ := Int.eq_ofNat_of_zero_le h3
  unfold allI
  rw [List.mem_flatMap]
  exact ⟨r, List.mem_range.2 (by omega), List.mem_map.2 ⟨d, List.mem_range.2 (by omega), rfl⟩⟩
theorem srt_nodup {l : List Itm} (h : Srt l) : l.Nodup := h.imp fun k => k.ne
theorem nodup_len : ∀ {l M : List Itm}, l.Nodup → (∀ x ∈ l, x ∈ M) → l.length ≤ M.length
  | [], _, _, _ => Nat.zero_le _
  | x :: l, M, h, k => by
    have h' := List.nodup_cons.1 h
    have hx := k x (List.mem_cons_self ..)
    have := nodup_len (M := M.erase x) h'.2 fun z hz => (List.mem_erase_of_ne (fun e => h'.1 (by rw [← e]; exact hz))).2 (k z (List.mem_cons_of_mem _ hz))
    rw [List.length_erase_of_mem hx] at this
    have := List.length_pos_of_mem hx
    rw [List.length_cons]
    omega
theorem srt_len {G : Gram} {l : List Itm} (h : Srt l) (k : ∀ x ∈ l, rightB G x = true) : l.length ≤ (allI G).length :=
  nodup_len (srt_nodup h) fun x hx => mem_all (k x hx)

/-! ### What the list was read of -/

/-- The right items of the first k. -/
theorem upto_zero {L : List Itm} {Q : Itm → Prop} : Is [] (fun x => ∃ j, ∃ h : j < L.length, j < 0 ∧ x = L[j] ∧ Q x) := Is.nil fun x ⟨j, _, h, _⟩ => by omega
theorem upto_hit {L : List Itm} {Q : Itm → Prop} {F : Itm → Itm} {out : List Itm} {k : Nat} (h : Is out (fun x => ∃ j, ∃ h : j < L.length, j < k ∧ x = F L[j] ∧ Q L[j])) (hk : k < L.length) (hq : Q L[k]) :
    Is (putI out (F L[k])) (fun x => ∃ j, ∃ h : j < L.length, j < k + 1 ∧ x = F L[j] ∧ Q L[j]) := by
  refine (h.put (F L[k])).iff fun x => ?_
  constructor
  · rintro (⟨j, h1, h2, h3⟩ | e)
    · exact ⟨j, h1, by omega, h3⟩
    · exact ⟨k, hk, by omega, e, hq⟩
  · rintro ⟨j, h1, h2, h3, h4⟩
    by_cases e : j = k
    · subst e
      exact .inr h3
    · exact .inl ⟨j, h1, by omega, h3, h4⟩
theorem upto_miss {L : List Itm} {Q : Itm → Prop} {F : Itm → Itm} {out : List Itm} {k : Nat} (h : Is out (fun x => ∃ j, ∃ h : j < L.length, j < k ∧ x = F L[j] ∧ Q L[j])) (hk : k < L.length) (hq : ¬ Q L[k]) :
    Is out (fun x => ∃ j, ∃ h : j < L.length, j < k + 1 ∧ x = F L[j] ∧ Q L[j]) := by
  refine h.iff fun x => ?_
  constructor
  · rintro ⟨j, h1, h2, h3⟩
    exact ⟨j, h1, by omega, h3⟩
  · rintro ⟨j, h1, h2, h3, h4⟩
    by_cases e : j = k
    · subst e
      exact absurd h4 hq
    · exact ⟨j, h1, by omega, h3, h4⟩
theorem upto_all {L : List Itm} {Q : Itm → Prop} {F : Itm → Itm} (x : Itm) : (∃ j, ∃ h : j < L.length, j < L.length ∧ x = F L[j] ∧ Q L[j]) ↔ ∃ y ∈ L, x = F y ∧ Q y := by
  constructor
  · rintro ⟨j, h1, _, h3, h4⟩
    exact ⟨_, List.getElem_mem h1, h3, h4⟩
  · rintro ⟨y, hy, h3, h4⟩
    obtain ⟨j, h1, rfl⟩ := List.getElem_of_mem hy
    exact ⟨j, h1, h1, h3, h4⟩

/-! ### Several items more; the lists' sizes; the laws -/

/-- The items of these rules, their dot at the beginning, put one behind the other. -/
def adds (out : List Itm) (rs : List Nat) : List Itm := rs.foldl (fun l (r : Nat) => putI l ((r : Int), 0)) out
theorem adds_nil (out : List Itm) : adds out [] = out := rfl
theorem adds_snoc (out : List Itm) (rs : List Nat) (r : Nat) : adds out (rs ++ [r]) = putI (adds out rs) ((r : Int), 0) := by simp [adds]
theorem mem_adds {x : Itm} : ∀ {rs : List Nat} {out : List Itm}, x ∈ adds out rs ↔ x ∈ out ∨ ∃ r ∈ rs, x = ((r : Int), 0)
  | [], out => by simp [adds]
  | r :: rs, out => by
    show x ∈ adds (putI out ((r : Int), 0)) rs ↔ _
    rw [mem_adds, mem_put]
    simp only [List.mem_cons]
    constructor
    · rintro ((h | h) | ⟨q, h1, h2⟩)
      · exact .inl h
      · exact .inr ⟨r, .inl rfl, h⟩
      · exact .inr ⟨q, .inr h1, h2⟩
    · rintro (h | ⟨q, rfl | h1, h2⟩)
      · exact .inl (.inl h)
      · exact .inl (.inr h2)
      · exact .inr ⟨q, h1, h2⟩
theorem srt_adds : ∀ {rs : List Nat} {out : List Itm}, Srt out → Srt (adds out rs)
  | [], _, h => h
  | r :: rs, out, h => by
    show Srt (adds (putI out ((r : Int), 0)) rs)
    exact srt_adds (srt_put h)
theorem adds_ge {rs : List Nat} {out : List Itm} (h : Srt out) : out.length ≤ (adds out rs).length := nodup_len (srt_nodup h) fun x hx => mem_adds.2 (.inl hx)
/-- As long as ahead: none was new. -/
theorem adds_same {rs : List Nat} {out : List Itm} (h : Srt out) (hl : (adds out rs).length = out.length) : (∀ r ∈ rs, ((r : Int), (0 : Int)) ∈ out) ∧ adds out rs = out := by
  have key : ∀ r ∈ rs, ((r : Int), (0 : Int)) ∈ out := fun r hr => by
    rcases Classical.em (((r : Int), (0 : Int)) ∈ out) with k | k
    · exact k
    · exfalso
      have hn : (((r : Int), (0 : Int)) :: out).Nodup := List.nodup_cons.2 ⟨k, srt_nodup h⟩
      have := nodup_len (M := adds out rs) hn fun x hx => by
        rcases List.mem_cons.1 hx with e | e
        · exact mem_adds.2 (.inr ⟨r, hr, e⟩)
        · exact mem_adds.2 (.inl e)
      rw [List.length_cons] at this
      omega
  refine ⟨key, srt_ext (srt_adds h) h fun x => ?_⟩
  rw [mem_adds]
  constructor
  · rintro (k | ⟨r, hr, rfl⟩)
    · exact k
    · exact key r hr
  · exact .inl
theorem Mid.adds {G : Gram} {L out : List Itm} (m : Mid G L out) {y : Itm} (hy : Clo G L y) (hb : behB G y = true) : Mid G L (adds out (ofN G (behV G y))) :=
  ⟨srt_adds m.srt, fun x h1 h2 => mem_adds.2 (.inl (m.all x h1 h2)), fun x hx => by
    rcases mem_adds.1 hx with e | ⟨r, hr, rfl⟩
    · exact m.sub x e
    · exact .next hy hb hr⟩
theorem Mid.len {G : Gram} {L out : List Itm} (m : Mid G L out) : out.length ≤ (allI G).length := srt_len m.srt fun x hx => m.right hx
theorem all_len {G : Gram} {B : Nat} (h : ∀ r : Nat, r ≤ G.rules.length → rlen G (r : Int) ≤ B) : (allI G).length ≤ (G.rules.length + 1) * (B + 1) := by
  unfold allI
  have : ∀ n, n ≤ G.rules.length + 1 → ((List.range n).flatMap fun (r : Nat) => (List.range (rlen G (r : Int) + 1)).map fun (d : Nat) => ((r : Int), (d : Int))).length ≤ n * (B + 1) := fun n => by
    induction n with
    | zero => simp
    | succ n ih =>
      intro hn
      rw [List.range_succ, List.flatMap_append, List.length_append]
      have h1 := ih (by omega)
      have h2 := h n (by omega)
      simp only [List.flatMap_cons, List.flatMap_nil, List.append_nil, List.length_map, List.length_range]
      rw [Nat.succ_mul]
      omega
  exact this _ (Nat.le_refl _)
/-- In whatever order. -/
theorem clo_turn {G : Gram} {L : List Itm} (n : Nat) (x : Itm) : Clo G (L.drop n ++ L.take n) x ↔ Clo G L x := clo_same (fun z => by
  rw [List.mem_append]
  conv => rhs; rw [← List.take_append_drop n L, List.mem_append]
  exact or_comm) x
theorem clo_more {G : Gram} {L : List Itm} {y x : Itm} (h : Clo G L x) : Clo G (L ++ [y]) x := clo_mono (fun z hz => List.mem_append.2 (.inl hz)) h

end Go.Proofs.YtjjmoonajijnmaaGreat.Im
