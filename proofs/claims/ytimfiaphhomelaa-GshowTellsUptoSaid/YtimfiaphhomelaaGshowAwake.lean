/-
  The statements' own function awake: the text of a small grammar, and of its first rule.
-/
import Derived.Test.YtimfiaphhomelaaGshowShow
namespace Go.Proofs.Ytimfiaphhomelaa.Sw
open Go.RowKit Go.Maps
open Go.Proofs.Ytimfiaphhomelaa.Gr (Gram GAt Sh gv Is Bx checkN ordB boxed cell_old cell_new cell_later)
set_option linter.unusedVariables false
set_option linter.unusedSimpArgs false

/-- The grammar of awake. -/
def G8 : Gram := { terms := [⟨#[65]⟩], nons := [⟨#[115]⟩], rules := [(2, [1, 2]), (2, [])], start := 2 }
theorem g8_check : checkN G8 = 0 := by
  refine Gr.check_all (by decide +kernel) ?_ (by decide +kernel) (by decide +kernel) (by decide +kernel) (by decide +kernel)
  have h1 : Gr.plnS ⟨#[65]⟩ = true := by decide +kernel
  have h2 : Gr.plnS ⟨#[115]⟩ = true := by decide +kernel
  simp [Gr.formB, G8, h1, h2]
theorem g8_ord : ordB G8 = true := by
  refine Gr.ord_true fun j hj i i' hi hlt e => ?_
  simp [G8] at hi
  omega
theorem g8_show : showS G8 = ⟨#[37, 116, 111, 107, 101, 110, 32, 65, 10, 37, 115, 116, 97, 114, 116, 32, 115, 10, 37, 37, 10, 115, 32, 58, 32, 65, 32, 115, 10, 9, 124, 10, 9, 59, 10]⟩ := by
  unfold showS
  rw [if_pos ⟨g8_check, g8_ord⟩]
  kernel_rfl
theorem g8_rule : ruleS G8 (2, [1, 2]) = ⟨#[115, 32, 58, 32, 65, 32, 115]⟩ := by kernel_rfl
theorem g8_short : Short G8 := ⟨by decide +kernel, by decide +kernel, by decide +kernel⟩

/-- The world behind the literals of awake, and where they lie. -/
def aw8 (W : World) : World :=
  ((((W.alloc (.cells #[.string ⟨#[65]⟩] 9)).alloc (.cells #[.string ⟨#[115]⟩] 9)).alloc (.cells #[.int .i64 1, .int .i64 2] 3)).alloc
    (.cells #[.int .i64 2, .slice (some ⟨W.heap.size + 1 + 1, 0, none⟩) 2 2, .int .i64 2, .slice none 0 0] 28)).alloc
    (.cells #[.slice (some ⟨W.heap.size, 0, none⟩) 1 1, .slice (some ⟨W.heap.size + 1, 0, none⟩) 1 1, .slice (some ⟨W.heap.size + 1 + 1 + 1, 0, none⟩) 2 2, .int .i64 2] 25)
def ah8 (W : World) : Sh := ⟨some ⟨W.heap.size, 0, none⟩, 1, some ⟨W.heap.size + 1, 0, none⟩, 1, some ⟨W.heap.size + 1 + 1 + 1, 0, none⟩, 2⟩
theorem aw8_below (W : World) : Below W.heap.size W (aw8 W) := Gr.step (Gr.step (Gr.step (Gr.step (boxed _ _) (boxed _ _)) (boxed _ _)) (boxed _ _)) (boxed _ _)
theorem fits8 (x : Int) (h : -1000 ≤ x) (k : x ≤ 1000) : Gr.Fits x := ⟨by omega, by omega⟩
theorem reads8 (W : World) : Sep.Reads (some ⟨W.heap.size + 1 + 1, 0, none⟩) ([1, 2].map (.int .i64)) (aw8 W) := fun i hi => by
  refine ⟨W.heap.size + 1 + 1, 0, rfl, ?_⟩
  have h3 : i < 2 := hi
  have : i = 0 ∨ i = 1 := by omega
  rcases this with rfl | rfl
  · exact cell_old (cell_old (cell_new (by simp) rfl))
  · exact cell_old (cell_old (cell_new (by simp) rfl))
theorem aw8_at (W : World) : GAt (ah8 W) G8 (aw8 W) := by
  refine ⟨fun i hi => ?_, fun i hi => ?_, fun i hi => ?_, by simp [ah8, G8], by simp [G8], by simp [G8], by simp [ah8, G8], by simp [G8], ⟨?_, ?_, fits8 _ (by decide) (by decide), ?_, ?_⟩⟩
  · refine ⟨W.heap.size, 0, rfl, ?_⟩
    have h2 : i < 1 := hi
    obtain rfl : i = 0 := by omega
    exact cell_old (cell_old (cell_old (cell_old (cell_new rfl rfl))))
  · refine ⟨W.heap.size + 1, 0, rfl, ?_⟩
    have h2 : i < 1 := hi
    obtain rfl : i = 0 := by omega
    exact cell_old (cell_old (cell_old (cell_new (by simp) rfl)))
  · have h2 : i < 2 := hi
    have : i = 0 ∨ i = 1 := by omega
    rcases this with rfl | rfl
    · exact ⟨W.heap.size + 1 + 1 + 1, 0, some ⟨W.heap.size + 1 + 1, 0, none⟩, 2, rfl, cell_old (cell_new (by simp) rfl), cell_old (cell_new (by simp) rfl), reads8 W, by simp [G8], by simp [G8]⟩
    · exact ⟨W.heap.size + 1 + 1 + 1, 0, none, 0, rfl, cell_old (cell_new (by simp) rfl), cell_old (cell_new (by simp) rfl), (fun j hj => absurd hj (by simp [G8])), by simp [G8], by simp [G8]⟩
  · intro s hs
    simp only [G8, List.mem_cons, List.not_mem_nil, or_false] at hs
    subst hs
    simp [ByteArray.size]
  · intro s hs
    simp only [G8, List.mem_cons, List.not_mem_nil, or_false] at hs
    subst hs
    simp [ByteArray.size]
  · intro r hr
    simp only [G8, List.mem_cons, List.not_mem_nil, or_false] at hr
    rcases hr with rfl | rfl <;> exact fits8 _ (by decide) (by decide)
  · intro r hr x hx
    simp only [G8, List.mem_cons, List.not_mem_nil, or_false] at hr
    rcases hr with rfl | rfl
    · simp only [List.mem_cons, List.not_mem_nil, or_false] at hx
      rcases hx with rfl | rfl <;> exact fits8 _ (by decide) (by decide)
    · cases hx

theorem show8 (W w : World) (k : GAt (ah8 W) G8 w) : Calls Try.prog 6 #[gv (ah8 W) G8] w (Is (.string ⟨#[37, 116, 111, 107, 101, 110, 32, 65, 10, 37, 115, 116, 97, 114, 116, 32, 115, 10, 37, 37, 10, 115, 32, 58, 32, 65, 32, 115, 10, 9, 124, 10, 9, 59, 10]⟩) w) := by
  have := show_any _ _ w k (fun _ _ => g8_short)
  rw [g8_show] at this
  exact this
theorem rule8 (W w : World) (k : GAt (ah8 W) G8 w) (hr : Sep.Reads (some ⟨W.heap.size + 1 + 1, 0, none⟩) ([1, 2].map (.int .i64)) w) : Calls Try.prog 8 #[gv (ah8 W) G8, .agg #[.int .i64 2, .slice (some ⟨W.heap.size + 1 + 1, 0, none⟩) 2 2]] w (Is (.string ⟨#[115, 32, 58, 32, 65, 32, 115]⟩) w) := by
  have := rule_any (ah8 W) G8 (2, [1, 2]) (some ⟨W.heap.size + 1 + 1, 0, none⟩) 2 w k hr (by decide) (by decide +kernel)
  rw [g8_rule] at this
  exact this

/-- What stays through awake's calls. -/
structure Aw8 (W : World) (w : World) : Prop where
  below : Below W.heap.size W w
  at_ : GAt (ah8 W) G8 w
  rd : Sep.Reads (some ⟨W.heap.size + 1 + 1, 0, none⟩) ([1, 2].map (.int .i64)) w
  x0 : w.cell? ⟨W.heap.size + 1 + 1 + 1 + 1, 0, none⟩ = some (.slice (some ⟨W.heap.size, 0, none⟩) 1 1)
  x1 : w.cell? ⟨W.heap.size + 1 + 1 + 1 + 1, 1, none⟩ = some (.slice (some ⟨W.heap.size + 1, 0, none⟩) 1 1)
  x2 : w.cell? ⟨W.heap.size + 1 + 1 + 1 + 1, 2, none⟩ = some (.slice (some ⟨W.heap.size + 1 + 1 + 1, 0, none⟩) 2 2)
  x3 : w.cell? ⟨W.heap.size + 1 + 1 + 1 + 1, 3, none⟩ = some (.int .i64 2)
  y0 : w.cell? ⟨W.heap.size + 1 + 1 + 1, 0, none⟩ = some (.int .i64 2)
  y1 : w.cell? ⟨W.heap.size + 1 + 1 + 1, 1, none⟩ = some (.slice (some ⟨W.heap.size + 1 + 1, 0, none⟩) 2 2)
theorem Aw8.went {W w w' : World} (k : Aw8 W w) (hb : Below w.heap.size w w') : Aw8 W w' :=
  ⟨Gr.step k.below hb, k.at_.went hb, k.rd.below hb (Nat.le_refl _), cell_later hb k.x0, cell_later hb k.x1, cell_later hb k.x2, cell_later hb k.x3, cell_later hb k.y0, cell_later hb k.y1⟩
theorem aw8_is (W : World) : Aw8 W (aw8 W) := ⟨aw8_below W, aw8_at W, reads8 W, cell_new (by simp) rfl, cell_new (by simp) rfl, cell_new (by simp) rfl, cell_new (by simp) rfl, cell_old (cell_new (by simp) rfl), cell_old (cell_new (by simp) rfl)⟩

set_option maxHeartbeats 1000000 in
set_option maxRecDepth 100000 in
theorem awake_any (W : World) : Calls Try.prog 5 #[] W (Is (.bool true) W) := by
  have A0 := Lib.hid (aw8_is W)
  have hW : aw8 W = ((((W.alloc (.cells #[.string ⟨#[65]⟩] 9)).alloc (.cells #[.string ⟨#[115]⟩] 9)).alloc (.cells #[.int .i64 1, .int .i64 2] 3)).alloc
    (.cells #[.int .i64 2, .slice (some ⟨W.heap.size + 1 + 1, 0, none⟩) 2 2, .int .i64 2, .slice none 0 0] 28)).alloc
    (.cells #[.slice (some ⟨W.heap.size, 0, none⟩) 1 1, .slice (some ⟨W.heap.size + 1, 0, none⟩) 1 1, .slice (some ⟨W.heap.size + 1 + 1 + 1, 0, none⟩) 2 2, .int .i64 2] 25) := rfl
  go_enter Try.func5, Try.ntmps5
  go_upto_region 2 with fail
  rw [← hW]
  clear hW
  generalize aw8 W = W1 at *
  have HQ := Lib.hid (fun w' (hb : Below W1.heap.size W1 w') => (show w'.cell? ⟨W.heap.size + 1 + 1 + 1 + 1, 0, none⟩ = some (.slice (some ⟨W.heap.size, 0, none⟩) 1 1) ∧ w'.cell? ⟨W.heap.size + 1 + 1 + 1 + 1, 1, none⟩ = some (.slice (some ⟨W.heap.size + 1, 0, none⟩) 1 1) ∧ w'.cell? ⟨W.heap.size + 1 + 1 + 1 + 1, 2, none⟩ = some (.slice (some ⟨W.heap.size + 1 + 1 + 1, 0, none⟩) 2 2) ∧ w'.cell? ⟨W.heap.size + 1 + 1 + 1 + 1, 3, none⟩ = some (.int .i64 2) ∧ w'.cell? ⟨W.heap.size + 1 + 1 + 1, 0, none⟩ = some (.int .i64 2) ∧ w'.cell? ⟨W.heap.size + 1 + 1 + 1, 1, none⟩ = some (.slice (some ⟨W.heap.size + 1 + 1, 0, none⟩) 2 2) ∧ Below W1.heap.size W1 w' from
    have a := A0.out.went hb
    ⟨a.x0, a.x1, a.x2, a.x3, a.y0, a.y1, hb⟩))
  have hbd := Gr.drawn W1
  go_region_held3 (fun w' => w'.cell? ⟨W.heap.size + 1 + 1 + 1 + 1, 0, none⟩ = some (.slice (some ⟨W.heap.size, 0, none⟩) 1 1) ∧ w'.cell? ⟨W.heap.size + 1 + 1 + 1 + 1, 1, none⟩ = some (.slice (some ⟨W.heap.size + 1, 0, none⟩) 1 1) ∧ w'.cell? ⟨W.heap.size + 1 + 1 + 1 + 1, 2, none⟩ = some (.slice (some ⟨W.heap.size + 1 + 1 + 1, 0, none⟩) 2 2) ∧ w'.cell? ⟨W.heap.size + 1 + 1 + 1 + 1, 3, none⟩ = some (.int .i64 2) ∧ w'.cell? ⟨W.heap.size + 1 + 1 + 1, 0, none⟩ = some (.int .i64 2) ∧ w'.cell? ⟨W.heap.size + 1 + 1 + 1, 1, none⟩ = some (.slice (some ⟨W.heap.size + 1 + 1, 0, none⟩) 2 2) ∧ Below W1.heap.size W1 w')
    (exact HQ.out _ (by assumption))
    (first
      | (go_at_call 6; refine (show8 W _ (A0.out.went (by assumption)).at_).mono ?_; rintro e wa ⟨rfl, hb⟩; have kA : Below W1.heap.size W1 wa := Gr.step (by assumption) hb; clear hb)
      | (go_at_call 8; refine (rule8 W _ (A0.out.went (by assumption)).at_ (A0.out.went (by assumption)).rd).mono ?_; rintro e wb ⟨rfl, hb⟩; have kB : Below W1.heap.size W1 wb := Gr.step (by assumption) hb; clear hb)
      | fail)
  all_goals
    go_wp2
    go_ret
    exact ⟨rfl, Gr.step A0.out.below kB⟩

end Go.Proofs.Ytimfiaphhomelaa.Sw
