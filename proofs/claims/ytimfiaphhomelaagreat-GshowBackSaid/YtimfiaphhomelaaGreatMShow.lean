/-
  The walks of the statements that what is shown is read as it was. Condition: MaxLen's variable holds a number.
  gshow's Show: the text of a valid and ordered grammar; of another one the empty text.
  The statements' own function awake: the text of a small grammar, and of its first rule.
-/
import Derived.Test.YtimfiaphhomelaaGreatMWrite
import Derived.Test.YtimfiaphhomelaaGreatMCheck
import Derived.Test.YtimfiaphhomelaaGreatMPlain
import Derived.Test.YtimfiaphhomelaaGreatMParse
import Derived.Test.YtimfiaphhomelaaGreatMSame
import Derived.Test.YtimfiaphhomelaaGreatMMuch
namespace Go.Proofs.YtimfiaphhomelaaGreat.Sw
open Go.RowKit Go.Maps
open Go.Proofs.YtimfiaphhomelaaGreat.Gr (Gram GAt Sh gv Is Bx checkN ordB)
set_option linter.unusedVariables false
set_option linter.unusedSimpArgs false

/-- What is bounded of a valid grammar's text. -/
structure Short (G : Gram) : Prop where
  decls : (tokenL G ++ startL G).length ≤ 10000
  terms : (termsL G.terms).length ≤ 10000
  rows : (rowsL G G.rules G.rules.length).length + 4 ≤ 100000

theorem right_len {G : Gram} {l : List Int} (h : ∀ x ∈ l, (nmL G x).length ≤ 24) : (rightL G l).length ≤ 25 * l.length := by
  induction l with
  | nil => exact Nat.zero_le _
  | cons x r ih =>
    have h1 := ih fun y hy => h y (List.mem_cons_of_mem _ hy)
    have h2 := h x (List.mem_cons_self ..)
    unfold rightL at h1 ⊢
    rw [List.flatMap_cons, List.length_append, List.length_cons, List.length_cons]
    omega
theorem terms_len {L : List ByteArray} (h : ∀ s ∈ L, s.size ≤ 24) : (termsL L).length ≤ 25 * L.length := by
  induction L with
  | nil => exact Nat.zero_le _
  | cons x r ih =>
    have h1 := ih fun y hy => h y (List.mem_cons_of_mem _ hy)
    have h2 := h x (List.mem_cons_self ..)
    have h3 : x.data.toList.length = x.size := by simp
    unfold termsL at h1 ⊢
    rw [List.flatMap_cons, List.length_append, List.length_cons, List.length_cons]
    omega
theorem rows_len {G : Gram} (R : List (Int × List Int)) (h : ∀ r ∈ R, (nmL G r.1).length ≤ 24 ∧ r.2.length ≤ 8 ∧ ∀ x ∈ r.2, (nmL G x).length ≤ 24) : ∀ k, k ≤ R.length → (rowsL G R k).length ≤ 230 * k := by
  intro k
  induction k with
  | zero => intro _; exact Nat.zero_le _
  | succ k ih =>
    intro hk
    have h1 := ih (by omega)
    rw [rows_succ, List.length_append]
    have hr : R.getD k (0, []) = R[k]'(by omega) := by simp [List.getD_eq_getElem?_getD, List.getElem?_eq_getElem (show k < R.length by omega)]
    obtain ⟨n1, n2, n3⟩ := h _ (List.getElem_mem (show k < R.length by omega))
    have n4 := right_len n3
    have : (rowL G R k).length ≤ 230 := by
      unfold rowL ruleL
      rw [hr]
      split
      · simp only [List.length_append, List.length_cons, List.length_nil]; omega
      · split
        · simp only [List.length_append, List.length_cons, List.length_nil]; omega
        · simp only [List.length_append, List.length_cons, List.length_nil]; omega
    omega

set_option maxHeartbeats 1000000 in
set_option maxRecDepth 100000 in
theorem show_any (h : Sh) (G : Gram) (w : World) (k : GAt h G w) (hs : checkN G = 0 → ordB G = true → Short G) :
    Calls Tryz.prog 9 #[gv h G] w (Is (.string (showS G)) w) := by
  have X := Lib.hid (Bx.start h G w 25)
  have CK := Lib.hid (fun w' (b : Below w.heap.size w w') => Gr.check_any h G w' (k.went b))
  have OD := Lib.hid (fun w' (b : Below w.heap.size w w') => Gr.ordered_any h G w' (k.went b))
  by_cases hv : checkN G = 0
  · cases ho : ordB G with
    | true =>
      have hS := hs hv ho
      have DC := Lib.hid (fun w' (b : Below w.heap.size w w') => decls_any h G w' (k.went b) (Nat.le_trans hS.decls (by decide)) (Nat.le_trans hS.terms (by decide)))
      have RL := Lib.hid (fun w' (b : Below w.heap.size w w') => rules_any h G w' (k.went b) (Nat.le_trans hS.rows (by decide)))
      have hR : str ((str (tokenL G ++ startL G)).data.toList ++ ((⟨#[37, 37, 10]⟩ : ByteArray).data.toList ++ (str (rowsL G G.rules G.rules.length ++ [10, 9, 59, 10])).data.toList)) = showS G := by
        unfold showS showL
        rw [if_pos ⟨hv, ho⟩, str_data, str_data]
        refine congrArg str ?_
        simp
      have JJ := Lib.hid (fun w' => joined_three (str (tokenL G ++ startL G)) ⟨#[37, 37, 10]⟩ (str (rowsL G G.rules G.rules.length ++ [10, 9, 59, 10])) w' (by
        have h1 := hS.decls
        have h2 := hS.rows
        rw [str_data, str_data]
        show (_ ++ ([37, 37, 10] ++ _)).length ≤ _
        simp only [List.length_append, List.length_cons, List.length_nil] at h1 h2 ⊢
        omega))
      rw [hR] at JJ
      have CK := Lib.hid (fun w' (b : Below w.heap.size w w') => show Calls Tryz.prog 20 #[gv h G] w' (Is (.int .i64 0) w') from hv ▸ CK.out w' b)
      have OD := Lib.hid (fun w' (b : Below w.heap.size w w') => show Calls Tryz.prog 21 #[gv h G] w' (Is (.bool true) w') from ho ▸ OD.out w' b)
      clear hs hS hR hv ho k
      generalize showS G = R at *
      generalize str (tokenL G ++ startL G) = S1 at *
      generalize str (rowsL G G.rules G.rules.length ++ [10, 9, 59, 10]) = S2 at *
      unfold gv
      go_enter Tryz.func9, Tryz.ntmps9
      go_upto_region 3 with (first
        | (go_at_call 20; refine (CK.out _ X.out.below).mono ?_; rintro e w1 ⟨rfl, hb⟩; have X1 := Lib.hid (X.out.went hb); clear hb; obtain ⟨_, x0, x1, x2, x3⟩ := X1.out)
        | (go_at_call 21; refine (OD.out _ X1.out.below).mono ?_; rintro e w2 ⟨rfl, hb⟩; have X2 := Lib.hid (X1.out.went hb); clear hb x0 x1 x2 x3)
        | fail)
      have HQ := Lib.hid (fun w' (hb : Below w2.heap.size w2 w') => (show w'.cell? ⟨w.heap.size, 0, none⟩ = some (.slice h.a1 G.terms.length h.c1) ∧ w'.cell? ⟨w.heap.size, 1, none⟩ = some (.slice h.a2 G.nons.length h.c2) ∧ w'.cell? ⟨w.heap.size, 2, none⟩ = some (.slice h.a3 G.rules.length h.c3) ∧ w'.cell? ⟨w.heap.size, 3, none⟩ = some (.int .i64 G.start) ∧ Below w2.heap.size w2 w' from
        ⟨(X2.out.went hb).box.x0, (X2.out.went hb).box.x1, (X2.out.went hb).box.x2, (X2.out.went hb).box.x3, hb⟩))
      have hbd := Gr.drawn w2
      go_region_held3 (fun w' => w'.cell? ⟨w.heap.size, 0, none⟩ = some (.slice h.a1 G.terms.length h.c1) ∧ w'.cell? ⟨w.heap.size, 1, none⟩ = some (.slice h.a2 G.nons.length h.c2) ∧ w'.cell? ⟨w.heap.size, 2, none⟩ = some (.slice h.a3 G.rules.length h.c3) ∧ w'.cell? ⟨w.heap.size, 3, none⟩ = some (.int .i64 G.start) ∧ Below w2.heap.size w2 w')
        (exact HQ.out _ (by first | assumption | exact Gr.step (by assumption) (Gr.boxed _ _)))
        (first
          | (go_at_call 23; refine (DC.out _ (Gr.step X2.out.below (by assumption))).mono ?_; rintro e wa ⟨rfl, hb⟩; have kA : Below w2.heap.size w2 wa := Gr.step (by assumption) hb; clear hb)
          | (go_at_call 24; refine (RL.out _ (Gr.step X2.out.below (by assumption))).mono ?_; rintro e wb ⟨rfl, hb⟩; have kB : Below w2.heap.size w2 wb := Gr.step (by assumption) hb; clear hb)
          | (go_at_call 22; refine (JJ.out _).mono ?_; rintro e wc ⟨rfl, hb⟩; have kC : Below w2.heap.size w2 wc := Gr.step (Gr.step (by assumption) (Gr.boxed _ _)) hb; clear hb)
          | fail)
      all_goals
        go_wp2
        go_ret
        exact ⟨rfl, Gr.step X2.out.below kC⟩
    | false =>
      have hR : showS G = ⟨#[]⟩ := by unfold showS; rw [if_neg (fun hh => by rw [ho] at hh; exact absurd hh.2 (by decide))]; rfl
      rw [hR]
      have CK := Lib.hid (fun w' (b : Below w.heap.size w w') => show Calls Tryz.prog 20 #[gv h G] w' (Is (.int .i64 0) w') from hv ▸ CK.out w' b)
      have OD := Lib.hid (fun w' (b : Below w.heap.size w w') => show Calls Tryz.prog 21 #[gv h G] w' (Is (.bool false) w') from ho ▸ OD.out w' b)
      clear hs hR hv ho k
      unfold gv
      go_enter Tryz.func9, Tryz.ntmps9
      go_wp2_with (first
        | (go_at_call 20; refine (CK.out _ X.out.below).mono ?_; rintro e w1 ⟨rfl, hb⟩; have X1 := Lib.hid (X.out.went hb); clear hb; obtain ⟨_, x0, x1, x2, x3⟩ := X1.out)
        | (go_at_call 21; refine (OD.out _ X1.out.below).mono ?_; rintro e w2 ⟨rfl, hb⟩; have X2 := Lib.hid (X1.out.went hb); clear hb x0 x1 x2 x3)
        | fail)
      go_ret
      exact ⟨rfl, X2.out.below⟩
  · have hR : showS G = ⟨#[]⟩ := by unfold showS; rw [if_neg (fun hh => hv hh.1)]; rfl
    rw [hR]
    clear hs hR k OD
    generalize checkN G = c at *
    unfold gv
    go_enter Tryz.func9, Tryz.ntmps9
    go_wp2_with (first
      | (go_at_call 20; refine (CK.out _ X.out.below).mono ?_; rintro e w1 ⟨rfl, hb⟩; have X1 := Lib.hid (X.out.went hb); clear hb)
      | fail)
    go_ret
    exact ⟨rfl, X1.out.below⟩

end Go.Proofs.YtimfiaphhomelaaGreat.Sw

namespace Go.Proofs.YtimfiaphhomelaaGreat.Sw
open Go.RowKit Go.Maps
open Go.Proofs.YtimfiaphhomelaaGreat.Gr (Gram GAt Sh gv Is Bx checkN ordB boxed cell_old cell_new cell_later)
set_option linter.unusedVariables false
set_option linter.unusedSimpArgs false

/-- The grammar of awake. -/
def G8 : Gram := { terms := [⟨#[65]⟩], nons := [⟨#[115]⟩], rules := [(2, [1, 2]), (2, [])], start := 2 }
theorem g8_check : checkN G8 = 0 := by
  refine Gr.check_all (by decide +kernel) ?_ (by decide +kernel) (by decide +kernel) (by decide +kernel) (by decide +kernel)
  have h1 : Gr.plnS ⟨#[65]⟩ = true := by decide +kernel
  have h2 : Gr.plnS ⟨#[115]⟩ = true := by decide +kernel
  simp [Gr.formB, G8, h1, h2]
theorem g8_ord : ordB G8 = true := by
  refine Gr.ord_true fun j hj i i' hi hlt e => ?_
  simp [G8] at hi
  omega
theorem g8_show : showS G8 = ⟨#[37, 116, 111, 107, 101, 110, 32, 65, 10, 37, 115, 116, 97, 114, 116, 32, 115, 10, 37, 37, 10, 115, 32, 58, 32, 65, 32, 115, 10, 9, 124, 10, 9, 59, 10]⟩ := by
  unfold showS
  rw [if_pos ⟨g8_check, g8_ord⟩]
  kernel_rfl
theorem g8_rule : ruleS G8 (2, [1, 2]) = ⟨#[115, 32, 58, 32, 65, 32, 115]⟩ := by kernel_rfl
theorem g8_short : Short G8 := ⟨by decide +kernel, by decide +kernel, by decide +kernel⟩

/-- The world behind the literals of awake, and where they lie. -/
def aw8 (W : World) : World :=
  ((((W.alloc (.cells #[.string ⟨#[65]⟩] 9)).alloc (.cells #[.string ⟨#[115]⟩] 9)).alloc (.cells #[.int .i64 1, .int .i64 2] 3)).alloc
    (.cells #[.int .i64 2, .slice (some ⟨W.heap.size + 1 + 1, 0, none⟩) 2 2, .int .i64 2, .slice none 0 0] 40)).alloc
    (.cells #[.slice (some ⟨W.heap.size, 0, none⟩) 1 1, .slice (some ⟨W.heap.size + 1, 0, none⟩) 1 1, .slice (some ⟨W.heap.size + 1 + 1 + 1, 0, none⟩) 2 2, .int .i64 2] 25)
def ah8 (W : World) : Sh := ⟨some ⟨W.heap.size, 0, none⟩, 1, some ⟨W.heap.size + 1, 0, none⟩, 1, some ⟨W.heap.size + 1 + 1 + 1, 0, none⟩, 2⟩
theorem aw8_below (W : World) : Below W.heap.size W (aw8 W) := Gr.step (Gr.step (Gr.step (Gr.step (boxed _ _) (boxed _ _)) (boxed _ _)) (boxed _ _)) (boxed _ _)
theorem fits8 (x : Int) (h : -1000 ≤ x) (k : x ≤ 1000) : Gr.Fits x := ⟨by omega, by omega⟩
theorem reads8 (W : World) : Sep.Reads (some ⟨W.heap.size + 1 + 1, 0, none⟩) ([1, 2].map (.int .i64)) (aw8 W) := fun i hi => by
  refine ⟨W.heap.size + 1 + 1, 0, rfl, ?_⟩
  have h3 : i < 2 := hi
  have : i = 0 ∨ i = 1 := by omega
  rcases this with rfl | rfl
  · exact cell_old (cell_old (cell_new (by simp) rfl))
  · exact cell_old (cell_old (cell_new (by simp) rfl))
theorem aw8_at (W : World) : GAt (ah8 W) G8 (aw8 W) := by
  refine ⟨fun i hi => ?_, fun i hi => ?_, fun i hi => ?_, by simp [ah8, G8], by simp [G8], by simp [G8], by simp [ah8, G8], by simp [G8], ⟨?_, ?_, fits8 _ (by decide) (by decide), ?_, ?_⟩⟩
  · refine ⟨W.heap.size, 0, rfl, ?_⟩
    have h2 : i < 1 := hi
    obtain rfl : i = 0 := by omega
    exact cell_old (cell_old (cell_old (cell_old (cell_new rfl rfl))))
  · refine ⟨W.heap.size + 1, 0, rfl, ?_⟩
    have h2 : i < 1 := hi
    obtain rfl : i = 0 := by omega
    exact cell_old (cell_old (cell_old (cell_new (by simp) rfl)))
  · have h2 : i < 2 := hi
    have : i = 0 ∨ i = 1 := by omega
    rcases this with rfl | rfl
    · exact ⟨W.heap.size + 1 + 1 + 1, 0, some ⟨W.heap.size + 1 + 1, 0, none⟩, 2, rfl, cell_old (cell_new (by simp) rfl), cell_old (cell_new (by simp) rfl), reads8 W, by simp [G8], by simp [G8]⟩
    · exact ⟨W.heap.size + 1 + 1 + 1, 0, none, 0, rfl, cell_old (cell_new (by simp) rfl), cell_old (cell_new (by simp) rfl), (fun j hj => absurd hj (by simp [G8])), by simp [G8], by simp [G8]⟩
  · intro s hs
    simp only [G8, List.mem_cons, List.not_mem_nil, or_false] at hs
    subst hs
    simp [ByteArray.size]
  · intro s hs
    simp only [G8, List.mem_cons, List.not_mem_nil, or_false] at hs
    subst hs
    simp [ByteArray.size]
  · intro r hr
    simp only [G8, List.mem_cons, List.not_mem_nil, or_false] at hr
    rcases hr with rfl | rfl <;> exact fits8 _ (by decide) (by decide)
  · intro r hr x hx
    simp only [G8, List.mem_cons, List.not_mem_nil, or_false] at hr
    rcases hr with rfl | rfl
    · simp only [List.mem_cons, List.not_mem_nil, or_false] at hx
      rcases hx with rfl | rfl <;> exact fits8 _ (by decide) (by decide)
    · cases hx

theorem show8 (W w : World) (k : GAt (ah8 W) G8 w) : Calls Tryz.prog 9 #[gv (ah8 W) G8] w (Is (.string ⟨#[37, 116, 111, 107, 101, 110, 32, 65, 10, 37, 115, 116, 97, 114, 116, 32, 115, 10, 37, 37, 10, 115, 32, 58, 32, 65, 32, 115, 10, 9, 124, 10, 9, 59, 10]⟩) w) := by
  have := show_any _ _ w k (fun _ _ => g8_short)
  rw [g8_show] at this
  exact this
theorem rule8 (W w : World) (k : GAt (ah8 W) G8 w) (hr : Sep.Reads (some ⟨W.heap.size + 1 + 1, 0, none⟩) ([1, 2].map (.int .i64)) w) : Calls Tryz.prog 19 #[gv (ah8 W) G8, .agg #[.int .i64 2, .slice (some ⟨W.heap.size + 1 + 1, 0, none⟩) 2 2]] w (Is (.string ⟨#[115, 32, 58, 32, 65, 32, 115]⟩) w) := by
  have := rule_any (ah8 W) G8 (2, [1, 2]) (some ⟨W.heap.size + 1 + 1, 0, none⟩) 2 w k hr (by decide) (by decide +kernel)
  rw [g8_rule] at this
  exact this

/-- What stays through awake's calls. -/
structure Aw8 (W : World) (w : World) : Prop where
  below : Below W.heap.size W w
  at_ : GAt (ah8 W) G8 w
  rd : Sep.Reads (some ⟨W.heap.size + 1 + 1, 0, none⟩) ([1, 2].map (.int .i64)) w
  x0 : w.cell? ⟨W.heap.size + 1 + 1 + 1 + 1, 0, none⟩ = some (.slice (some ⟨W.heap.size, 0, none⟩) 1 1)
  x1 : w.cell? ⟨W.heap.size + 1 + 1 + 1 + 1, 1, none⟩ = some (.slice (some ⟨W.heap.size + 1, 0, none⟩) 1 1)
  x2 : w.cell? ⟨W.heap.size + 1 + 1 + 1 + 1, 2, none⟩ = some (.slice (some ⟨W.heap.size + 1 + 1 + 1, 0, none⟩) 2 2)
  x3 : w.cell? ⟨W.heap.size + 1 + 1 + 1 + 1, 3, none⟩ = some (.int .i64 2)
  y0 : w.cell? ⟨W.heap.size + 1 + 1 + 1, 0, none⟩ = some (.int .i64 2)
  y1 : w.cell? ⟨W.heap.size + 1 + 1 + 1, 1, none⟩ = some (.slice (some ⟨W.heap.size + 1 + 1, 0, none⟩) 2 2)
theorem Aw8.went {W w w' : World} (k : Aw8 W w) (hb : Below w.heap.size w w') : Aw8 W w' :=
  ⟨Gr.step k.below hb, k.at_.went hb, k.rd.below hb (Nat.le_refl _), cell_later hb k.x0, cell_later hb k.x1, cell_later hb k.x2, cell_later hb k.x3, cell_later hb k.y0, cell_later hb k.y1⟩
theorem aw8_is (W : World) : Aw8 W (aw8 W) := ⟨aw8_below W, aw8_at W, reads8 W, cell_new (by simp) rfl, cell_new (by simp) rfl, cell_new (by simp) rfl, cell_new (by simp) rfl, cell_old (cell_new (by simp) rfl), cell_old (cell_new (by simp) rfl)⟩

set_option maxHeartbeats 1000000 in
set_option maxRecDepth 100000 in
theorem awake_any (W : World) : Calls Tryz.prog 8 #[] W (Is (.bool true) W) := by
  have A0 := Lib.hid (aw8_is W)
  have hW : aw8 W = ((((W.alloc (.cells #[.string ⟨#[65]⟩] 9)).alloc (.cells #[.string ⟨#[115]⟩] 9)).alloc (.cells #[.int .i64 1, .int .i64 2] 3)).alloc
    (.cells #[.int .i64 2, .slice (some ⟨W.heap.size + 1 + 1, 0, none⟩) 2 2, .int .i64 2, .slice none 0 0] 40)).alloc
    (.cells #[.slice (some ⟨W.heap.size, 0, none⟩) 1 1, .slice (some ⟨W.heap.size + 1, 0, none⟩) 1 1, .slice (some ⟨W.heap.size + 1 + 1 + 1, 0, none⟩) 2 2, .int .i64 2] 25) := rfl
  go_enter Tryz.func8, Tryz.ntmps8
  go_upto_region 2 with fail
  rw [← hW]
  clear hW
  generalize aw8 W = W1 at *
  have HQ := Lib.hid (fun w' (hb : Below W1.heap.size W1 w') => (show w'.cell? ⟨W.heap.size + 1 + 1 + 1 + 1, 0, none⟩ = some (.slice (some ⟨W.heap.size, 0, none⟩) 1 1) ∧ w'.cell? ⟨W.heap.size + 1 + 1 + 1 + 1, 1, none⟩ = some (.slice (some ⟨W.heap.size + 1, 0, none⟩) 1 1) ∧ w'.cell? ⟨W.heap.size + 1 + 1 + 1 + 1, 2, none⟩ = some (.slice (some ⟨W.heap.size + 1 + 1 + 1, 0, none⟩) 2 2) ∧ w'.cell? ⟨W.heap.size + 1 + 1 + 1 + 1, 3, none⟩ = some (.int .i64 2) ∧ w'.cell? ⟨W.heap.size + 1 + 1 + 1, 0, none⟩ = some (.int .i64 2) ∧ w'.cell? ⟨W.heap.size + 1 + 1 + 1, 1, none⟩ = some (.slice (some ⟨W.heap.size + 1 + 1, 0, none⟩) 2 2) ∧ Below W1.heap.size W1 w' from
    have a := A0.out.went hb
    ⟨a.x0, a.x1, a.x2, a.x3, a.y0, a.y1, hb⟩))
  have hbd := Gr.drawn W1
  go_region_held3 (fun w' => w'.cell? ⟨W.heap.size + 1 + 1 + 1 + 1, 0, none⟩ = some (.slice (some ⟨W.heap.size, 0, none⟩) 1 1) ∧ w'.cell? ⟨W.heap.size + 1 + 1 + 1 + 1, 1, none⟩ = some (.slice (some ⟨W.heap.size + 1, 0, none⟩) 1 1) ∧ w'.cell? ⟨W.heap.size + 1 + 1 + 1 + 1, 2, none⟩ = some (.slice (some ⟨W.heap.size + 1 + 1 + 1, 0, none⟩) 2 2) ∧ w'.cell? ⟨W.heap.size + 1 + 1 + 1 + 1, 3, none⟩ = some (.int .i64 2) ∧ w'.cell? ⟨W.heap.size + 1 + 1 + 1, 0, none⟩ = some (.int .i64 2) ∧ w'.cell? ⟨W.heap.size + 1 + 1 + 1, 1, none⟩ = some (.slice (some ⟨W.heap.size + 1 + 1, 0, none⟩) 2 2) ∧ Below W1.heap.size W1 w')
    (exact HQ.out _ (by assumption))
    (first
      | (go_at_call 9; refine (show8 W _ (A0.out.went (by assumption)).at_).mono ?_; rintro e wa ⟨rfl, hb⟩; have kA : Below W1.heap.size W1 wa := Gr.step (by assumption) hb; clear hb)
      | (go_at_call 19; refine (rule8 W _ (A0.out.went (by assumption)).at_ (A0.out.went (by assumption)).rd).mono ?_; rintro e wb ⟨rfl, hb⟩; have kB : Below W1.heap.size W1 wb := Gr.step (by assumption) hb; clear hb)
      | fail)
  all_goals
    go_wp2
    go_ret
    exact ⟨rfl, Gr.step A0.out.below kB⟩

end Go.Proofs.YtimfiaphhomelaaGreat.Sw

namespace Go.Proofs.YtimfiaphhomelaaGreat.Sw
open Go.RowKit Go.Maps
open Go.Proofs.YtimfiaphhomelaaGreat.Gr (Gram GAt Sh gv Is Bx checkN ordB)
open Go.Proofs.YtimfiaphhomelaaGreat.Tk (MaxLen)
open Go.Proofs.YtimfiaphhomelaaGreat.Rd (ParseIs ParseGave parse_any Mo zg)
set_option linter.unusedVariables false
set_option linter.unusedSimpArgs false

theorem short_of {G : Gram} (h1 : checkN G = 0) (h2 : ordB G = true) : Short G := by
  have hv := val_of h1 h2
  obtain ⟨f1, f2, f3⟩ := hv.few
  have sz : ∀ s : ByteArray, SymOk s → s.size ≤ 24 := fun s hs => by
    have := sym_len hs
    unfold It.okLen at this
    rw [Bool.and_eq_true, decide_eq_true_iff, decide_eq_true_iff] at this
    exact this.2
  have nl : ∀ x, SymOk (Gr.nameS G x) → (nmL G x).length ≤ 24 := fun x hx => by
    have := sz _ hx
    unfold nmL
    simpa using this
  have ht := terms_len (L := G.terms) fun s hs => sz s (hv.term_ok s hs)
  have hst := nl G.start (.inl (hv.pln hv.start))
  have hr := rows_len G.rules (fun r hr => ⟨nl _ (.inl (hv.pln (hv.rule hr).1)), (hv.rule hr).2.1, fun x hx => nl _ (hv.sym ((hv.rule hr).2.2 x hx).1 ((hv.rule hr).2.2 x hx).2)⟩) _ (Nat.le_refl _)
  refine ⟨?_, by omega, by omega⟩
  unfold tokenL startL
  split <;> simp only [List.length_append, List.length_cons, List.length_nil] <;> omega

theorem show_is {G : Gram} (h1 : checkN G = 0) (h2 : ordB G = true) : showS G = str (showL G) := by
  unfold showS
  rw [if_pos ⟨h1, h2⟩]

/-- What is shown is read as it was. -/
theorem read_back {G : Gram} (h1 : checkN G = 0) (h2 : ordB G = true) (hl : (showL G).length ≤ 8192) (w : World) (hm : MaxLen w) : Calls Tryz.prog 10 #[.string (showS G)] w (ParseGave (.ok G) w) := by
  obtain ⟨T, src, rest, p1, p2, p3⟩ := show_parts h1 h2 hl
  rw [show_is h1 h2]
  exact parse_any _ _ w ⟨.ok T, by rw [str_data]; exact p1, .ok src rest, p2, p3.symm⟩ (by rw [str_size]; omega) hm

set_option maxHeartbeats 1000000 in
set_option maxRecDepth 100000 in
theorem back_law (h : Sh) (G : Gram) (w : World) (k : GAt h G w) (hm : MaxLen w) : Calls Tryz.prog 3 #[gv h G] w (Is (.bool true) w) := by
  have X := Lib.hid (Bx.start h G w 25)
  have MU := Lib.hid (fun w' (b : Below w.heap.size w w') => Gr.much_any h G w' (k.went b))
  have CK := Lib.hid (fun w' (b : Below w.heap.size w w') => Gr.rcheck_any h G w' (k.went b))
  have AW := Lib.hid awake_any
  have K := Lib.hid k
  have HM := Lib.hid hm
  clear k hm
  unfold gv
  go_enter Tryz.func3, Tryz.ntmps3
  go_wp2_with fail
  refine (MU.out _ X.out.below).mono ?_
  rintro e w1 ⟨n, rfl, hn, hb⟩
  have X1 := Lib.hid (X.out.went hb)
  obtain ⟨_, x0, x1, x2, x3⟩ := X1.out
  clear hb MU
  by_cases hn3 : 300 < n
  · clear hn
    go_wp2_with (go_at_call 8; refine (AW.out _).mono ?_; rintro e w2 ⟨rfl, hb⟩; have B2 := Lib.hid (Gr.step X1.out.below hb); clear hb)
    go_ret
    exact ⟨rfl, B2.out⟩
  · have hrl : G.rules.length ≤ 65536 := by omega
    have OD := Lib.hid (fun w' (b : Below w.heap.size w w') => Gr.rordered_any h G w' (K.out.went b) hrl)
    clear hn hrl
    by_cases hv : checkN G = 0
    · have CK := Lib.hid (fun w' (b : Below w.heap.size w w') => show Calls Tryz.prog 6 #[gv h G] w' (Is (.int .i64 0) w') from hv ▸ CK.out w' b)
      cases ho : ordB G with
      | true =>
        have OD := Lib.hid (fun w' (b : Below w.heap.size w w') => show Calls Tryz.prog 7 #[gv h G] w' (Is (.bool true) w') from ho ▸ OD.out w' b)
        have SH := Lib.hid (fun w' (b : Below w.heap.size w w') => show_any h G w' (K.out.went b) (fun _ _ => short_of hv ho))
        have hsz : (showS G).size = (showL G).length := by rw [show_is hv ho, str_size]
        by_cases hl : 8192 < (showL G).length
        · clear hv ho
          rw [← hsz] at hl
          clear hsz
          generalize showS G = S at *
          go_wp2_with (first
            | (go_at_call 6; refine (CK.out _ X1.out.below).mono ?_; rintro e w2 ⟨rfl, hb⟩; have X2 := Lib.hid (X1.out.went hb); clear hb x0 x1 x2 x3; obtain ⟨_, x0, x1, x2, x3⟩ := X2.out)
            | (go_at_call 7; refine (OD.out _ X2.out.below).mono ?_; rintro e w3 ⟨rfl, hb⟩; have X3 := Lib.hid (X2.out.went hb); clear hb x0 x1 x2 x3; obtain ⟨_, x0, x1, x2, x3⟩ := X3.out)
            | (go_at_call 9; refine (SH.out _ X3.out.below).mono ?_; rintro e w4 ⟨rfl, hb⟩; have X4 := Lib.hid (X3.out.went hb); clear hb x0 x1 x2 x3)
            | (go_at_call 8; refine (AW.out _).mono ?_; rintro e w5 ⟨rfl, hb⟩; have B5 := Lib.hid (Gr.step X4.out.below hb); clear hb)
            | fail)
          go_ret
          exact ⟨rfl, B5.out⟩
        · have PA := Lib.hid (fun w' (b : Below w.heap.size w w') => read_back hv ho (by omega) w' (HM.out.keep b))
          have SM := Lib.hid (fun l w' (b : Below w.heap.size w w') (m : GAt l G w') => show Calls Tryz.prog 11 #[gv h G, gv l G] w' (Is (.bool true) w') from by have := Gr.rsame_any h l G G w' (K.out.went b) m; rw [Gr.sameG_self] at this; exact this)
          clear hv ho
          rw [← hsz] at hl
          clear hsz
          generalize showS G = S at *
          go_wp2_with (first
            | (go_at_call 6; refine (CK.out _ X1.out.below).mono ?_; rintro e w2 ⟨rfl, hb⟩; have X2 := Lib.hid (X1.out.went hb); clear hb x0 x1 x2 x3; obtain ⟨_, x0, x1, x2, x3⟩ := X2.out)
            | (go_at_call 7; refine (OD.out _ X2.out.below).mono ?_; rintro e w3 ⟨rfl, hb⟩; have X3 := Lib.hid (X2.out.went hb); clear hb x0 x1 x2 x3; obtain ⟨_, x0, x1, x2, x3⟩ := X3.out)
            | (go_at_call 9; refine (SH.out _ X3.out.below).mono ?_; rintro e w4 ⟨rfl, hb⟩; have X4 := Lib.hid (X3.out.went hb); clear hb x0 x1 x2 x3)
            | (go_at_call 10; refine (PA.out _ X4.out.below).mono ?_; rintro e w5 ⟨l, rfl, hG, hb⟩; have X5 := Lib.hid ((X4.out.went hb).alloc (.cells #[.slice l.a1 G.terms.length l.c1, .slice l.a2 G.nons.length l.c2, .slice l.a3 G.rules.length l.c3, .int .i64 G.start] 25)); have G5 := Lib.hid (hG.went (Gr.boxed w5 (.cells #[.slice l.a1 G.terms.length l.c1, .slice l.a2 G.nons.length l.c2, .slice l.a3 G.rules.length l.c3, .int .i64 G.start] 25))); (obtain ⟨_, x0, x1, x2, x3⟩ := X4.out.went hb); have hsz5 : w.heap.size < w5.heap.size := (X4.out.went hb).size; clear hb hG)
            | (go_at_call 11; refine (SM.out l _ X5.out.below G5.out).mono ?_; rintro e w6 ⟨rfl, hb⟩; have B6 := Lib.hid (Gr.step X5.out.below hb); clear hb)
            | (go_at_call 8; refine (AW.out _).mono ?_; rintro e w7 ⟨rfl, hb⟩; have B7 := Lib.hid (Gr.step B6.out hb); clear hb)
            | fail)
          go_ret
          exact ⟨rfl, B7.out⟩
      | false =>
        have OD := Lib.hid (fun w' (b : Below w.heap.size w w') => show Calls Tryz.prog 7 #[gv h G] w' (Is (.bool false) w') from ho ▸ OD.out w' b)
        clear hv ho
        go_wp2_with (first
          | (go_at_call 6; refine (CK.out _ X1.out.below).mono ?_; rintro e w2 ⟨rfl, hb⟩; have X2 := Lib.hid (X1.out.went hb); clear hb x0 x1 x2 x3; obtain ⟨_, x0, x1, x2, x3⟩ := X2.out)
          | (go_at_call 7; refine (OD.out _ X2.out.below).mono ?_; rintro e w3 ⟨rfl, hb⟩; have X3 := Lib.hid (X2.out.went hb); clear hb x0 x1 x2 x3)
          | (go_at_call 8; refine (AW.out _).mono ?_; rintro e w4 ⟨rfl, hb⟩; have B4 := Lib.hid (Gr.step X3.out.below hb); clear hb)
          | fail)
        go_ret
        exact ⟨rfl, B4.out⟩
    · clear OD
      generalize checkN G = c at *
      go_wp2_with (first
        | (go_at_call 6; refine (CK.out _ X1.out.below).mono ?_; rintro e w2 ⟨rfl, hb⟩; have X2 := Lib.hid (X1.out.went hb); clear hb x0 x1 x2 x3)
        | (go_at_call 8; refine (AW.out _).mono ?_; rintro e w4 ⟨rfl, hb⟩; have B4 := Lib.hid (Gr.step X2.out.below hb); clear hb)
        | fail)
      go_ret
      exact ⟨rfl, B4.out⟩

end Go.Proofs.YtimfiaphhomelaaGreat.Sw
