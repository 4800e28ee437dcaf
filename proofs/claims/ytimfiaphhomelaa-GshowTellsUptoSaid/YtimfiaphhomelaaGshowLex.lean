/-
  The tokens of a text that is put together of pieces. No program in it.
-/
import Derived.Test.YtimfiaphhomelaaGreadWell
import Derived.Test.YtimfiaphhomelaaGreadGood
namespace Go.Proofs.Ytimfiaphhomelaa.Sw
open Go.Proofs.Ytimfiaphhomelaa.Tk (Tok Res lexL stepL Lexes mk)
set_option linter.unusedVariables false
set_option linter.unusedSimpArgs false

/-- A piece of a text: a token's kind (-1: passed over); its bytes. -/
structure Pc where
  k : Int
  l : List UInt8
def txt (P : List Pc) : List UInt8 := P.flatMap (·.l)
/-- The tokens of pieces that begin at a place. -/
def toks : Nat → List Pc → List Tok
  | _, [] => []
  | a, p :: r => (if p.k = -1 then [] else [⟨p.k, ⟨p.l.toArray⟩, a⟩]) ++ toks (a + p.l.length) r

theorem txt_nil : txt [] = [] := rfl
theorem txt_cons (p : Pc) (r : List Pc) : txt (p :: r) = p.l ++ txt r := by simp [txt]
theorem txt_append (P Q : List Pc) : txt (P ++ Q) = txt P ++ txt Q := by simp [txt]
theorem toks_append (a : Nat) (P Q : List Pc) : toks a (P ++ Q) = toks a P ++ toks (a + (txt P).length) Q := by
  induction P generalizing a with
  | nil => simp [toks, txt]
  | cons p r ih =>
    simp only [List.cons_append, toks, ih, txt_cons, List.length_append, List.append_assoc, Nat.add_assoc]

/-- Each piece is read as it is, whatever stands behind it being so. -/
def Fits : List Pc → List UInt8 → Prop
  | [], _ => True
  | p :: r, z => (stepL (p.l ++ (txt r ++ z)) = .tok p.k p.l.length ∧ ¬ p.k = 0) ∧ Fits r z

theorem fits_append {P Q : List Pc} {z : List UInt8} (h : Fits P (txt Q ++ z)) (k : Fits Q z) : Fits (P ++ Q) z := by
  induction P with
  | nil => exact k
  | cons p r ih =>
    refine ⟨?_, ih h.2⟩
    show stepL (p.l ++ (txt (r ++ Q) ++ z)) = .tok p.k p.l.length ∧ ¬ p.k = 0
    rw [txt_append, List.append_assoc]
    exact h.1

theorem lex_pieces {P : List Pc} {z : List UInt8} (h : Fits P z) (a f : Nat) (r : Res) (hz : lexL f z (a + (txt P).length) = some r) : ∃ g, lexL g (txt P ++ z) a = some (r.add (toks a P)) := by
  induction P generalizing a with
  | nil => exact ⟨f, by simpa [txt, toks, Res.add_nil] using hz⟩
  | cons p q ih =>
    obtain ⟨⟨h1, h0⟩, h2⟩ := h
    obtain ⟨g, hg⟩ := ih h2 (a + p.l.length) (by rw [txt_cons, List.length_append, ← Nat.add_assoc] at hz; exact hz)
    refine ⟨g + 1, ?_⟩
    rw [txt_cons, List.append_assoc]
    unfold lexL
    rw [h1]
    simp only [h0, if_false, List.drop_left, hg]
    by_cases hk : p.k = -1
    · rw [if_pos hk]
      simp only [toks, hk, if_true, List.nil_append]
    · rw [if_neg hk]
      simp only [toks, hk, if_false, Option.map_some, Res.add_add, mk, List.take_left]

/-- A text of pieces has their tokens, and the end. -/
theorem lexes_pieces {P : List Pc} (h : Fits P []) (hl : (txt P).length ≤ 8192) : Lexes (txt P) (.ok (toks 0 P ++ [⟨0, ⟨#[]⟩, (txt P).length⟩])) := by
  unfold Lexes
  rw [if_neg (by omega)]
  obtain ⟨g, hg⟩ := lex_pieces h 0 1 (.ok [mk 0 [] 0 (0 + (txt P).length)]) (by rfl)
  refine ⟨g, ?_⟩
  rw [List.append_nil] at hg
  rw [hg]
  simp [Res.add, mk]

/-! ### What begins with what -/

theorem step_gap {c : UInt8} (h : c = 32 ∨ c = 9 ∨ c = 10 ∨ c = 13) (z : List UInt8) : stepL ([c] ++ z) = .tok (-1) 1 := by
  show stepL (c :: z) = _
  simp only [stepL]
  rw [if_pos h]
theorem step_colon (z : List UInt8) : stepL ([58] ++ z) = .tok 3 1 := rfl
theorem step_bar (z : List UInt8) : stepL ([124] ++ z) = .tok 4 1 := rfl
theorem step_semi (z : List UInt8) : stepL ([59] ++ z) = .tok 5 1 := rfl
theorem step_mark (z : List UInt8) : stepL ([37, 37] ++ z) = .tok 6 2 := rfl

/-- Behind it no letter, digit or line stands. -/
def Stops (z : List UInt8) : Prop := ∀ c r, z = c :: r → Tk.inNB c = false
theorem stops_cons {c : UInt8} (r : List UInt8) (h : Tk.inNB c = false) : Stops (c :: r) := fun d s e => by
  injection e with e1 e2
  subst e1
  exact h

theorem letB_of {c : UInt8} (h : Tk.inNB c = false) : Tk.letB c = false := by
  unfold Tk.inNB Ch.inN at h
  rw [Bool.or_eq_false_iff] at h
  exact h.1

theorem span_stop {p : UInt8 → Bool} {l z : List UInt8} (hl : l.all p = true) (hz : ∀ c r, z = c :: r → p c = false) : (l ++ z).takeWhile p = l := by
  induction l with
  | nil =>
    cases z with
    | nil => rfl
    | cons c r => rw [List.nil_append, List.takeWhile_cons, if_neg (by rw [hz c r rfl]; decide)]
  | cons c l ih =>
    rw [List.all_cons, Bool.and_eq_true] at hl
    rw [List.cons_append, List.takeWhile_cons, if_pos hl.1, ih hl.2]

theorem step_word {w : List UInt8} {k : Int} (hw : w.all Tk.letB = true) (hk : (w = [116, 111, 107, 101, 110] ∧ k = 7) ∨ (w = [115, 116, 97, 114, 116] ∧ k = 8)) {z : List UInt8} (hz : Stops z) : stepL ((37 :: w) ++ z) = .tok k 6 := by
  have hs : (w ++ z).takeWhile Tk.letB = w := span_stop hw fun c r e => letB_of (hz c r e)
  have h1 : (w ++ z).head? ≠ some 37 := by
    rcases hk with ⟨rfl, _⟩ | ⟨rfl, _⟩ <;> simp
  show Tk.pctL (w ++ z) = _
  unfold Tk.pctL
  rw [if_neg h1, Tk.spanL_take, hs]
  rcases hk with ⟨rfl, rfl⟩ | ⟨rfl, rfl⟩
  · rw [if_pos rfl]
  · rw [if_neg (by decide), if_pos rfl]

/-- A symbol's kind. -/
def kd (s : ByteArray) : Int := if s.data.toList.head? = some 39 then 2 else 1

theorem pln_head {s : ByteArray} (h : Gr.plnS s = true) : ∃ c r, s.data.toList = c :: r ∧ Tk.letB c = true ∧ (c :: r).all Tk.inNB = true ∧ (c :: r).length ≤ 24 := by
  unfold Gr.plnS at h
  rw [Bool.and_eq_true, decide_eq_true_iff] at h
  have hsz : s.data.toList.length ≤ 24 := by simpa using h.1
  cases hl : s.data.toList with
  | nil => rw [hl] at h; exact absurd h.2 (by decide)
  | cons c r =>
    have h2 := h.2
    rw [hl] at h2 hsz
    unfold Ch.namB at h2
    rw [Bool.and_eq_true] at h2
    refine ⟨c, r, rfl, h2.1, ?_, hsz⟩
    rw [List.all_cons, Bool.and_eq_true]
    refine ⟨?_, h2.2⟩
    unfold Tk.inNB Ch.inN
    rw [h2.1]
    rfl

theorem let_not {c : UInt8} (h : Tk.letB c = true) (n : Nat) (hn : Ch.cls (n : Int) ≠ 4) : ¬ c.toNat = n := fun e => by
  unfold Tk.letB Ch.cb at h
  rw [e] at h
  exact hn (by simpa using h)
theorem let_ne {c d : UInt8} (h : Tk.letB c = true) (hd : Tk.letB d = false) : ¬ c = d := fun e => by rw [e, hd] at h; cases h

theorem step_name {s : ByteArray} (h : Gr.plnS s = true) {z : List UInt8} (hz : Stops z) : stepL (s.data.toList ++ z) = .tok 1 s.data.toList.length ∧ kd s = 1 := by
  obtain ⟨c, r, hl, h1, h2, h3⟩ := pln_head h
  unfold kd
  rw [hl]
  have ne : ∀ d : UInt8, Tk.letB d = false → ¬ c = d := fun d hd => let_ne h1 hd
  refine ⟨?_, by rw [List.head?_cons, if_neg]; exact fun e => ne 39 (by decide) (by injection e)⟩
  rw [List.cons_append]
  simp only [stepL]
  rw [if_neg (by rintro (e | e | e | e) <;> exact ne _ (by decide) e), if_neg (ne _ (by decide)), if_neg (ne _ (by decide)), if_neg (ne _ (by decide)), if_neg (ne _ (by decide)), if_neg (ne _ (by decide)), if_neg (ne _ (by decide)), if_pos h1]
  unfold Tk.namL
  have hs : Tk.spanL Tk.inNB (c :: (r ++ z)) = (c :: r).length := by
    unfold Tk.spanL
    rw [← List.cons_append, span_stop h2 hz]
  rw [hs, if_neg (by omega)]

theorem quoL_at {r z : List UInt8} {i : Nat} (hr : ∀ c ∈ r, 33 ≤ c.toNat ∧ c.toNat ≤ 126 ∧ c.toNat ≠ 39) (hi : 1 ≤ i) (h2 : 2 ≤ i + r.length) (hn : i + r.length < 24) : Tk.quoL (r ++ 39 :: z) i = .tok 2 (i + r.length + 1) := by
  induction r generalizing i with
  | nil =>
    simp only [List.length_nil, Nat.add_zero] at h2 hn ⊢
    rw [List.nil_append]
    unfold Tk.quoL
    have e : (39 : UInt8).toNat = 39 := rfl
    rw [if_neg (by rw [e]; omega), if_neg (by omega), if_pos e]
  | cons c r ih =>
    have hc := hr c (List.mem_cons_self ..)
    simp only [List.length_cons] at h2 hn ⊢
    rw [List.cons_append]
    unfold Tk.quoL
    rw [if_neg (by omega), if_neg (by omega), if_neg (by omega), ih (fun x hx => hr x (List.mem_cons_of_mem _ hx)) (by omega) (by omega) (by omega)]
    congr 1
    omega

theorem quo_form {s : ByteArray} (h : Gr.quoS s = true) : ∃ r, s.data.toList = 39 :: (r ++ [39]) ∧ (∀ c ∈ r, 33 ≤ c.toNat ∧ c.toNat ≤ 126 ∧ c.toNat ≠ 39) ∧ 1 ≤ r.length ∧ r.length ≤ 22 := by
  unfold Gr.quoS at h
  rw [@decide_eq_true_iff _ (Classical.propDecidable _)] at h
  obtain ⟨⟨h0, h1⟩, k, ⟨k1, k2, k3, k4, k5⟩, k6⟩ := h
  obtain ⟨⟨l⟩⟩ := s
  have hsz : l.length = k + 1 := k6.symm
  have hget : ∀ j (hj : j < l.length), (⟨⟨l⟩⟩ : ByteArray)[j]'hj = l[j] := fun j hj => rfl
  cases l with
  | nil => simp at hsz
  | cons c q =>
    have hc : c = 39 := UInt8.toNat_inj.1 h1
    have hq : q.length = k := by simpa using hsz
    have hlast : q = q.take (k - 1) ++ [39] := by
      have e : q = q.take (k - 1) ++ q.drop (k - 1) := (List.take_append_drop _ _).symm
      have hd : q.drop (k - 1) = [39] := by
        rw [List.drop_eq_getElem_cons (by omega), List.drop_eq_nil_of_le (by omega)]
        have : (c :: q)[k]'(by simp; omega) = 39 := UInt8.toNat_inj.1 k5
        obtain ⟨m, rfl⟩ : ∃ m, k = m + 1 := ⟨k - 1, by omega⟩
        simp only [List.getElem_cons_succ] at this
        simp only [Nat.add_sub_cancel, this]
      rw [hd] at e
      exact e
    refine ⟨q.take (k - 1), ?_, fun x hx => ?_, by rw [List.length_take]; omega, by rw [List.length_take]; omega⟩
    · show c :: q = _
      rw [hc, ← hlast]
    · obtain ⟨j, hj, rfl⟩ := List.mem_iff_getElem.1 hx
      rw [List.length_take] at hj
      have := k3 (j + 1) (show j + 1 < (c :: q).length by simp; omega) (by omega) (by omega)
      unfold Gr.insB at this
      rw [decide_eq_true_iff] at this
      have e : ((⟨⟨c :: q⟩⟩ : ByteArray)[j + 1]'(show j + 1 < (c :: q).length by simp; omega)) = q[j]'(by omega) := rfl
      rw [e] at this
      rw [List.getElem_take]
      omega

theorem step_quo {s : ByteArray} (h : Gr.quoS s = true) (z : List UInt8) : stepL (s.data.toList ++ z) = .tok 2 s.data.toList.length ∧ kd s = 2 := by
  obtain ⟨r, hl, h1, h2, h3⟩ := quo_form h
  unfold kd
  rw [hl]
  refine ⟨?_, by rfl⟩
  show Tk.quoL ((r ++ [39]) ++ z) 1 = _
  rw [List.append_assoc, List.singleton_append, quoL_at h1 (by omega) (by omega) (by omega)]
  simp
  omega

theorem step_sym {s : ByteArray} (h : Gr.plnS s = true ∨ Gr.quoS s = true) {z : List UInt8} (hz : Stops z) : stepL (s.data.toList ++ z) = .tok (kd s) s.data.toList.length := by
  rcases h with h | h
  · obtain ⟨a, b⟩ := step_name h hz
    rw [a, b]
  · obtain ⟨a, b⟩ := step_quo h z
    rw [a, b]
theorem kd_sym (s : ByteArray) : kd s = 1 ∨ kd s = 2 := by
  unfold kd
  split
  · exact .inr rfl
  · exact .inl rfl

/-! ### Names behind blanks -/

def gap (c : UInt8) : Pc := ⟨-1, [c]⟩
def symPc (L : List ByteArray) : List Pc := L.flatMap fun s => [gap 32, ⟨kd s, s.data.toList⟩]
/-- A name or a quoted token. -/
def SymOk (s : ByteArray) : Prop := Gr.plnS s = true ∨ Gr.quoS s = true

theorem symPc_cons (s : ByteArray) (L : List ByteArray) : symPc (s :: L) = gap 32 :: ⟨kd s, s.data.toList⟩ :: symPc L := rfl
theorem txt_sym (L : List ByteArray) : txt (symPc L) = L.flatMap fun s => 32 :: s.data.toList := by
  induction L with
  | nil => rfl
  | cons s L ih =>
    rw [symPc_cons, txt_cons, txt_cons, ih]
    simp [gap]
theorem stops_sym (L : List ByteArray) {z : List UInt8} (hz : Stops z) : Stops (txt (symPc L) ++ z) := by
  cases L with
  | nil => exact hz
  | cons s L =>
    rw [symPc_cons, txt_cons]
    exact stops_cons _ (by decide)
theorem fits_sym {L : List ByteArray} (h : ∀ s ∈ L, SymOk s) {z : List UInt8} (hz : Stops z) : Fits (symPc L) z := by
  induction L with
  | nil => trivial
  | cons s L ih =>
    refine ⟨⟨step_gap (.inl rfl) _, show ¬ (-1 : Int) = 0 by decide⟩, ⟨⟨step_sym (h s (List.mem_cons_self ..)) (stops_sym L hz), ?_⟩, ih fun x hx => h x (List.mem_cons_of_mem _ hx)⟩⟩
    show ¬ kd s = 0
    rcases kd_sym s with e | e <;> rw [e] <;> decide

/-- The tokens of names behind blanks. -/
theorem toks_sym (L : List ByteArray) (a : Nat) : (toks a (symPc L)).map (·.s) = L ∧ ∀ t ∈ toks a (symPc L), t.k = kd t.s := by
  induction L generalizing a with
  | nil => exact ⟨rfl, fun t ht => by cases ht⟩
  | cons s L ih =>
    have hk : ¬ kd s = -1 := by rcases kd_sym s with e | e <;> rw [e] <;> decide
    have e : toks a (symPc (s :: L)) = ⟨kd s, s, a + 1⟩ :: toks (a + 1 + s.data.toList.length) (symPc L) := by
      rw [symPc_cons]
      simp only [toks, gap, if_true, List.nil_append, List.length_singleton]
      rw [if_neg hk]
      rfl
    rw [e]
    obtain ⟨i1, i2⟩ := ih (a + 1 + s.data.toList.length)
    refine ⟨by rw [List.map_cons, i1], fun t ht => ?_⟩
    rcases List.mem_cons.1 ht with rfl | ht
    · rfl
    · exact i2 t ht

end Go.Proofs.Ytimfiaphhomelaa.Sw
