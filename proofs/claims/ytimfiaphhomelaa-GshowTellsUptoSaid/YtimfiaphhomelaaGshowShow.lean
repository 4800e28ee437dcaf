/-
  gshow's Show: the text of a valid and ordered grammar; of another one the empty text.
-/
import Derived.Test.YtimfiaphhomelaaGshowRules
import Derived.Test.YtimfiaphhomelaaGramCheck
import Derived.Test.YtimfiaphhomelaaGramOrd
namespace Go.Proofs.Ytimfiaphhomelaa.Sw
open Go.RowKit Go.Maps
open Go.Proofs.Ytimfiaphhomelaa.Gr (Gram GAt Sh gv Is Bx checkN ordB)
set_option linter.unusedVariables false
set_option linter.unusedSimpArgs false

/-- What is bounded of a valid grammar's text. -/
structure Short (G : Gram) : Prop where
  decls : (tokenL G ++ startL G).length ≤ 10000
  terms : (termsL G.terms).length ≤ 10000
  rows : (rowsL G G.rules G.rules.length).length + 4 ≤ 100000

theorem right_len {G : Gram} {l : List Int} (h : ∀ x ∈ l, (nmL G x).length ≤ 24) : (rightL G l).length ≤ 25 * l.length := by
  induction l with
  | nil => exact Nat.zero_le _
  | cons x r ih =>
    have h1 := ih fun y hy => h y (List.mem_cons_of_mem _ hy)
    have h2 := h x (List.mem_cons_self ..)
    unfold rightL at h1 ⊢
    rw [List.flatMap_cons, List.length_append, List.length_cons, List.length_cons]
    omega
theorem terms_len {L : List ByteArray} (h : ∀ s ∈ L, s.size ≤ 24) : (termsL L).length ≤ 25 * L.length := by
  induction L with
  | nil => exact Nat.zero_le _
  | cons x r ih =>
    have h1 := ih fun y hy => h y (List.mem_cons_of_mem _ hy)
    have h2 := h x (List.mem_cons_self ..)
    have h3 : x.data.toList.length = x.size := by simp
    unfold termsL at h1 ⊢
    rw [List.flatMap_cons, List.length_append, List.length_cons, List.length_cons]
    omega
theorem rows_len {G : Gram} (R : List (Int × List Int)) (h : ∀ r ∈ R, (nmL G r.1).length ≤ 24 ∧ r.2.length ≤ 8 ∧ ∀ x ∈ r.2, (nmL G x).length ≤ 24) : ∀ k, k ≤ R.length → (rowsL G R k).length ≤ 230 * k := by
  intro k
  induction k with
  | zero => intro _; exact Nat.zero_le _
  | succ k ih =>
    intro hk
    have h1 := ih (by omega)
    rw [rows_succ, List.length_append]
    have hr : R.getD k (0, []) = R[k]'(by omega) := by simp [List.getD_eq_getElem?_getD, List.getElem?_eq_getElem (show k < R.length by omega)]
    obtain ⟨n1, n2, n3⟩ := h _ (List.getElem_mem (show k < R.length by omega))
    have n4 := right_len n3
    have : (rowL G R k).length ≤ 230 := by
      unfold rowL ruleL
      rw [hr]
      split
      · simp only [List.length_append, List.length_cons, List.length_nil]; omega
      · split
        · simp only [List.length_append, List.length_cons, List.length_nil]; omega
        · simp only [List.length_append, List.length_cons, List.length_nil]; omega
    omega

set_option maxHeartbeats 1000000 in
set_option maxRecDepth 100000 in
theorem show_any (h : Sh) (G : Gram) (w : World) (k : GAt h G w) (hs : checkN G = 0 → ordB G = true → Short G) :
    Calls Try.prog 6 #[gv h G] w (Is (.string (showS G)) w) := by
  have X := Lib.hid (Bx.start h G w 25)
  have CK := Lib.hid (fun w' (b : Below w.heap.size w w') => Gr.check_any h G w' (k.went b))
  have OD := Lib.hid (fun w' (b : Below w.heap.size w w') => Gr.ordered_any h G w' (k.went b))
  by_cases hv : checkN G = 0
  · cases ho : ordB G with
    | true =>
      have hS := hs hv ho
      have DC := Lib.hid (fun w' (b : Below w.heap.size w w') => decls_any h G w' (k.went b) (Nat.le_trans hS.decls (by decide)) (Nat.le_trans hS.terms (by decide)))
      have RL := Lib.hid (fun w' (b : Below w.heap.size w w') => rules_any h G w' (k.went b) (Nat.le_trans hS.rows (by decide)))
      have hR : str ((str (tokenL G ++ startL G)).data.toList ++ ((⟨#[37, 37, 10]⟩ : ByteArray).data.toList ++ (str (rowsL G G.rules G.rules.length ++ [10, 9, 59, 10])).data.toList)) = showS G := by
        unfold showS showL
        rw [if_pos ⟨hv, ho⟩, str_data, str_data]
        refine congrArg str ?_
        simp
      have JJ := Lib.hid (fun w' => joined_three (str (tokenL G ++ startL G)) ⟨#[37, 37, 10]⟩ (str (rowsL G G.rules G.rules.length ++ [10, 9, 59, 10])) w' (by
        have h1 := hS.decls
        have h2 := hS.rows
        rw [str_data, str_data]
        show (_ ++ ([37, 37, 10] ++ _)).length ≤ _
        simp only [List.length_append, List.length_cons, List.length_nil] at h1 h2 ⊢
        omega))
      rw [hR] at JJ
      have CK := Lib.hid (fun w' (b : Below w.heap.size w w') => show Calls Try.prog 10 #[gv h G] w' (Is (.int .i64 0) w') from hv ▸ CK.out w' b)
      have OD := Lib.hid (fun w' (b : Below w.heap.size w w') => show Calls Try.prog 11 #[gv h G] w' (Is (.bool true) w') from ho ▸ OD.out w' b)
      clear hs hS hR hv ho k
      generalize showS G = R at *
      generalize str (tokenL G ++ startL G) = S1 at *
      generalize str (rowsL G G.rules G.rules.length ++ [10, 9, 59, 10]) = S2 at *
      unfold gv
      go_enter Try.func6, Try.ntmps6
      go_upto_region 3 with (first
        | (go_at_call 10; refine (CK.out _ X.out.below).mono ?_; rintro e w1 ⟨rfl, hb⟩; have X1 := Lib.hid (X.out.went hb); clear hb; obtain ⟨_, x0, x1, x2, x3⟩ := X1.out)
        | (go_at_call 11; refine (OD.out _ X1.out.below).mono ?_; rintro e w2 ⟨rfl, hb⟩; have X2 := Lib.hid (X1.out.went hb); clear hb x0 x1 x2 x3)
        | fail)
      have HQ := Lib.hid (fun w' (hb : Below w2.heap.size w2 w') => (show w'.cell? ⟨w.heap.size, 0, none⟩ = some (.slice h.a1 G.terms.length h.c1) ∧ w'.cell? ⟨w.heap.size, 1, none⟩ = some (.slice h.a2 G.nons.length h.c2) ∧ w'.cell? ⟨w.heap.size, 2, none⟩ = some (.slice h.a3 G.rules.length h.c3) ∧ w'.cell? ⟨w.heap.size, 3, none⟩ = some (.int .i64 G.start) ∧ Below w2.heap.size w2 w' from
        ⟨(X2.out.went hb).box.x0, (X2.out.went hb).box.x1, (X2.out.went hb).box.x2, (X2.out.went hb).box.x3, hb⟩))
      have hbd := Gr.drawn w2
      go_region_held3 (fun w' => w'.cell? ⟨w.heap.size, 0, none⟩ = some (.slice h.a1 G.terms.length h.c1) ∧ w'.cell? ⟨w.heap.size, 1, none⟩ = some (.slice h.a2 G.nons.length h.c2) ∧ w'.cell? ⟨w.heap.size, 2, none⟩ = some (.slice h.a3 G.rules.length h.c3) ∧ w'.cell? ⟨w.heap.size, 3, none⟩ = some (.int .i64 G.start) ∧ Below w2.heap.size w2 w')
        (exact HQ.out _ (by first | assumption | exact Gr.step (by assumption) (Gr.boxed _ _)))
        (first
          | (go_at_call 13; refine (DC.out _ (Gr.step X2.out.below (by assumption))).mono ?_; rintro e wa ⟨rfl, hb⟩; have kA : Below w2.heap.size w2 wa := Gr.step (by assumption) hb; clear hb)
          | (go_at_call 14; refine (RL.out _ (Gr.step X2.out.below (by assumption))).mono ?_; rintro e wb ⟨rfl, hb⟩; have kB : Below w2.heap.size w2 wb := Gr.step (by assumption) hb; clear hb)
          | (go_at_call 12; refine (JJ.out _).mono ?_; rintro e wc ⟨rfl, hb⟩; have kC : Below w2.heap.size w2 wc := Gr.step (Gr.step (by assumption) (Gr.boxed _ _)) hb; clear hb)
          | fail)
      all_goals
        go_wp2
        go_ret
        exact ⟨rfl, Gr.step X2.out.below kC⟩
    | false =>
      have hR : showS G = ⟨#[]⟩ := by unfold showS; rw [if_neg (fun hh => by rw [ho] at hh; exact absurd hh.2 (by decide))]; rfl
      rw [hR]
      have CK := Lib.hid (fun w' (b : Below w.heap.size w w') => show Calls Try.prog 10 #[gv h G] w' (Is (.int .i64 0) w') from hv ▸ CK.out w' b)
      have OD := Lib.hid (fun w' (b : Below w.heap.size w w') => show Calls Try.prog 11 #[gv h G] w' (Is (.bool false) w') from ho ▸ OD.out w' b)
      clear hs hR hv ho k
      unfold gv
      go_enter Try.func6, Try.ntmps6
      go_wp2_with (first
        | (go_at_call 10; refine (CK.out _ X.out.below).mono ?_; rintro e w1 ⟨rfl, hb⟩; have X1 := Lib.hid (X.out.went hb); clear hb; obtain ⟨_, x0, x1, x2, x3⟩ := X1.out)
        | (go_at_call 11; refine (OD.out _ X1.out.below).mono ?_; rintro e w2 ⟨rfl, hb⟩; have X2 := Lib.hid (X1.out.went hb); clear hb x0 x1 x2 x3)
        | fail)
      go_ret
      exact ⟨rfl, X2.out.below⟩
  · have hR : showS G = ⟨#[]⟩ := by unfold showS; rw [if_neg (fun hh => hv hh.1)]; rfl
    rw [hR]
    clear hs hR k OD
    generalize checkN G = c at *
    unfold gv
    go_enter Try.func6, Try.ntmps6
    go_wp2_with (first
      | (go_at_call 10; refine (CK.out _ X.out.below).mono ?_; rintro e w1 ⟨rfl, hb⟩; have X1 := Lib.hid (X.out.went hb); clear hb)
      | fail)
    go_ret
    exact ⟨rfl, X1.out.below⟩

end Go.Proofs.Ytimfiaphhomelaa.Sw
