/-
  The statements' own function awake.
-/
import Derived.Test.YtflljgakdakfdaaGramCheck
import Derived.Test.YtflljgakdakfdaaGramRule
namespace Go.Proofs.Ytflljgakdakfdaa.Gr
open Go.RowKit Go.Maps
set_option linter.unusedVariables false

/-- The grammar of awake. -/
def G0 : Gram := { terms := [⟨#[65]⟩, ⟨#[39, 120, 39]⟩], nons := [⟨#[115]⟩], rules := [(3, [1, 2])], start := 3 }

theorem g0_quo : quoS ⟨#[39, 120, 39]⟩ = true := by
  have hc : Closes ⟨#[39, 120, 39]⟩ 2 := by
    refine ⟨by omega, by omega, fun j h h1 h2 => ?_, by decide +kernel, by decide +kernel⟩
    have e : j = 1 := by omega
    subst e
    rfl
  rw [quo_some ⟨by decide +kernel, by decide +kernel⟩ hc]
  decide +kernel
theorem g0_check : checkN G0 = 0 := by
  refine check_all (by decide +kernel) ?_ (by decide +kernel) (by decide +kernel) (by decide +kernel) (by decide +kernel)
  have h1 : plnS ⟨#[65]⟩ = true := by decide +kernel
  have h2 : plnS ⟨#[115]⟩ = true := by decide +kernel
  simp [formB, G0, h1, h2, g0_quo]
theorem g0_ord : ordB G0 = true := by
  refine ord_true fun j hj i i' hi hlt e => ?_
  simp [G0] at hi
  omega
theorem g0_name : nameS G0 2 = ⟨#[39, 120, 39]⟩ := by decide +kernel
theorem g0_find : findI G0 ⟨#[115]⟩ = 3 := by decide +kernel
theorem g0_top : top G0 = 3 := rfl
theorem g0_term : termB G0 1 = true := by decide
theorem g0_non : nonB G0 3 = true := by decide
theorem g0_rule : ruleR G0 1 = (0, [3]) ∧ ruleB G0 1 = true := by decide +kernel

/-- The world behind the literals of awake, and where they lie. -/
def aw (W : World) : World :=
  ((((W.alloc (.cells #[.string ⟨#[65]⟩, .string ⟨#[39, 120, 39]⟩] 9)).alloc (.cells #[.string ⟨#[115]⟩] 9)).alloc (.cells #[.int .i64 1, .int .i64 2] 3)).alloc
    (.cells #[.int .i64 3, .slice (some ⟨W.heap.size + 1 + 1, 0, none⟩) 2 2] 30)).alloc
    (.cells #[.slice (some ⟨W.heap.size, 0, none⟩) 2 2, .slice (some ⟨W.heap.size + 1, 0, none⟩) 1 1, .slice (some ⟨W.heap.size + 1 + 1 + 1, 0, none⟩) 1 1, .int .i64 3] 25)
def ah (W : World) : Sh := ⟨some ⟨W.heap.size, 0, none⟩, 2, some ⟨W.heap.size + 1, 0, none⟩, 1, some ⟨W.heap.size + 1 + 1 + 1, 0, none⟩, 1⟩

theorem aw_below (W : World) : Below W.heap.size W (aw W) := step (step (step (step (boxed _ _) (boxed _ _)) (boxed _ _)) (boxed _ _)) (boxed _ _)
theorem fits (x : Int) (h : -1000 ≤ x) (k : x ≤ 1000) : Fits x := ⟨by omega, by omega⟩
theorem aw_at (W : World) : GAt (ah W) G0 (aw W) := by
  refine ⟨fun i hi => ?_, fun i hi => ?_, fun i hi => ?_, by simp [ah, G0], by simp [ah], by simp [ah, G0], by simp [ah], by simp [ah, G0], by simp [ah], ⟨?_, ?_, fits _ (by decide) (by decide), ?_, ?_⟩⟩
  · refine ⟨W.heap.size, 0, rfl, ?_⟩
    have h2 : i < 2 := hi
    have : i = 0 ∨ i = 1 := by omega
    rcases this with rfl | rfl
    · exact cell_old (cell_old (cell_old (cell_old (cell_new rfl rfl))))
    · exact cell_old (cell_old (cell_old (cell_old (cell_new rfl rfl))))
  · refine ⟨W.heap.size + 1, 0, rfl, ?_⟩
    have h2 : i < 1 := hi
    obtain rfl : i = 0 := by omega
    exact cell_old (cell_old (cell_old (cell_new (by simp) rfl)))
  · have h2 : i < 1 := hi
    obtain rfl : i = 0 := by omega
    refine ⟨W.heap.size + 1 + 1 + 1, 0, some ⟨W.heap.size + 1 + 1, 0, none⟩, 2, rfl, cell_old (cell_new (by simp) rfl), cell_old (cell_new (by simp) rfl), fun j hj => ?_, by simp [G0], by simp⟩
    refine ⟨W.heap.size + 1 + 1, 0, rfl, ?_⟩
    have h3 : j < 2 := hj
    have : j = 0 ∨ j = 1 := by omega
    rcases this with rfl | rfl
    · exact cell_old (cell_old (cell_new (by simp) rfl))
    · exact cell_old (cell_old (cell_new (by simp) rfl))
  · intro s hs
    simp only [G0, List.mem_cons, List.not_mem_nil, or_false] at hs
    rcases hs with rfl | rfl <;> simp [ByteArray.size]
  · intro s hs
    simp only [G0, List.mem_cons, List.not_mem_nil, or_false] at hs
    subst hs
    simp [ByteArray.size]
  · intro r hr
    simp only [G0, List.mem_cons, List.not_mem_nil, or_false] at hr
    subst hr
    exact fits _ (by decide) (by decide)
  · intro r hr x hx
    simp only [G0, List.mem_cons, List.not_mem_nil, or_false] at hr
    subst hr
    simp only [List.mem_cons, List.not_mem_nil, or_false] at hx
    rcases hx with rfl | rfl <;> exact fits _ (by decide) (by decide)

/-- What stays through awake's calls. -/
structure Aw (W : World) (p b o c : Nat) (w : World) : Prop where
  below : Below W.heap.size W w
  at_ : GAt (ah W) G0 w
  x0 : w.cell? ⟨W.heap.size + 1 + 1 + 1 + 1, 0, none⟩ = some (.slice (some ⟨W.heap.size, 0, none⟩) 2 2)
  x1 : w.cell? ⟨W.heap.size + 1 + 1 + 1 + 1, 1, none⟩ = some (.slice (some ⟨W.heap.size + 1, 0, none⟩) 1 1)
  x2 : w.cell? ⟨W.heap.size + 1 + 1 + 1 + 1, 2, none⟩ = some (.slice (some ⟨W.heap.size + 1 + 1 + 1, 0, none⟩) 1 1)
  x3 : w.cell? ⟨W.heap.size + 1 + 1 + 1 + 1, 3, none⟩ = some (.int .i64 3)
  y1 : w.cell? ⟨p, 1, none⟩ = some (.slice (some ⟨b, o, none⟩) 1 c)
  y2 : w.cell? ⟨b, o, none⟩ = some (.int .i64 3)
theorem Aw.went {W : World} {p b o c : Nat} {w w' : World} (k : Aw W p b o c w) (hb : Below w.heap.size w w') : Aw W p b o c w' :=
  ⟨step k.below hb, k.at_.went hb, cell_later hb k.x0, cell_later hb k.x1, cell_later hb k.x2, cell_later hb k.x3, cell_later hb k.y1, cell_later hb k.y2⟩

theorem c_check (W w : World) (k : GAt (ah W) G0 w) : Calls Try.prog 10 #[gv (ah W) G0] w (Is (.int .i64 0) w) := by have := check_any _ _ w k; rw [g0_check] at this; exact this
theorem c_name (W w : World) (k : GAt (ah W) G0 w) : Calls Try.prog 19 #[gv (ah W) G0, .int .i64 2] w (Is (.string ⟨#[39, 120, 39]⟩) w) := by have := name_any _ _ 2 w k; rw [g0_name] at this; exact this
theorem c_find (W w : World) (k : GAt (ah W) G0 w) : Calls Try.prog 21 #[gv (ah W) G0, .string ⟨#[115]⟩] w (Is (.int .i64 3) w) := by have := find_any _ _ ⟨#[115]⟩ w k; rw [g0_find] at this; exact this
theorem c_top (W w : World) (k : GAt (ah W) G0 w) : Calls Try.prog 12 #[gv (ah W) G0] w (Is (.int .i64 3) w) := by have := top_any _ _ w k; rw [g0_top] at this; exact this
theorem c_term (W w : World) (k : GAt (ah W) G0 w) : Calls Try.prog 14 #[gv (ah W) G0, .int .i64 1] w (Is (.bool true) w) := by have := term_any _ _ 1 w k; rw [g0_term] at this; exact this
theorem c_non (W w : World) (k : GAt (ah W) G0 w) : Calls Try.prog 16 #[gv (ah W) G0, .int .i64 3] w (Is (.bool true) w) := by have := non_any _ _ 3 w k; rw [g0_non] at this; exact this
theorem c_ord (W w : World) (k : GAt (ah W) G0 w) : Calls Try.prog 26 #[gv (ah W) G0] w (Is (.bool true) w) := by have := ordered_any _ _ w k; rw [g0_ord] at this; exact this
theorem c_rule (W w : World) (k : GAt (ah W) G0 w) : Calls Try.prog 8 #[gv (ah W) G0, .int .i64 1] w (Ruled (0, [3]) true w) := by have := rule_any _ _ 1 w k; rw [g0_rule.1, g0_rule.2] at this; exact this

set_option maxHeartbeats 4000000 in
theorem awake_any (W : World) : Calls Try.prog 7 #[] W (Is (.bool true) W) := by
  have R := Lib.hid (c_rule W (aw W) (aw_at W))
  go_enter Try.func7, Try.ntmps7
  go_wp2_with fail
  refine R.out.mono ?_
  rintro e w1 ⟨a', c', rfl, hr, hb⟩
  obtain ⟨b, o, rfl, hc⟩ := hr 0 (by simp [ivs])
  simp only [ivs, iv, List.map_cons, List.getElem_cons_zero, Nat.add_zero] at hc
  have A := Lib.hid (show Aw W w1.heap.size b o c' (w1.alloc (.cells #[.int .i64 0, .slice (some ⟨b, o, none⟩) 1 c'] 30)) from by
    have hb2 := step hb (boxed w1 (.cells #[.int .i64 0, .slice (some ⟨b, o, none⟩) 1 c'] 30))
    refine ⟨step (aw_below W) hb2, (aw_at W).went hb2, cell_later hb2 (cell_new (by simp) rfl), cell_later hb2 (cell_new (by simp) rfl), cell_later hb2 (cell_new (by simp) rfl), cell_later hb2 (cell_new (by simp) rfl), cell_new rfl rfl, cell_old hc⟩)
  have hsz : W.heap.size + 1 + 1 + 1 + 1 < w1.heap.size := by
    have h1 := hb.size
    have h2 : (aw W).heap.size = W.heap.size + 1 + 1 + 1 + 1 + 1 := by simp [aw]
    omega
  have z0 := cell_later hb (show (aw W).cell? ⟨W.heap.size + 1 + 1 + 1 + 1, 0, none⟩ = some (.slice (some ⟨W.heap.size, 0, none⟩) 2 2) from cell_new (by simp) rfl)
  have z1 := cell_later hb (show (aw W).cell? ⟨W.heap.size + 1 + 1 + 1 + 1, 1, none⟩ = some (.slice (some ⟨W.heap.size + 1, 0, none⟩) 1 1) from cell_new (by simp) rfl)
  have z2 := cell_later hb (show (aw W).cell? ⟨W.heap.size + 1 + 1 + 1 + 1, 2, none⟩ = some (.slice (some ⟨W.heap.size + 1 + 1 + 1, 0, none⟩) 1 1) from cell_new (by simp) rfl)
  have z3 := cell_later hb (show (aw W).cell? ⟨W.heap.size + 1 + 1 + 1 + 1, 3, none⟩ = some (.int .i64 3) from cell_new (by simp) rfl)
  clear hr hb R hc
  go_wp2_with (first
    | (go_at_call 10; refine (c_check W _ A.out.at_).mono ?_; rintro e w2 ⟨rfl, hb⟩; have A := Lib.hid (A.out.went hb); obtain ⟨_, _, x0, x1, x2, x3, y1, y2⟩ := A.out; clear hb)
    | (go_at_call 19; refine (c_name W _ A.out.at_).mono ?_; rintro e w2 ⟨rfl, hb⟩; have A := Lib.hid (A.out.went hb); obtain ⟨_, _, x0, x1, x2, x3, y1, y2⟩ := A.out; clear hb)
    | (go_at_call 21; refine (c_find W _ A.out.at_).mono ?_; rintro e w2 ⟨rfl, hb⟩; have A := Lib.hid (A.out.went hb); obtain ⟨_, _, x0, x1, x2, x3, y1, y2⟩ := A.out; clear hb)
    | (go_at_call 12; refine (c_top W _ A.out.at_).mono ?_; rintro e w2 ⟨rfl, hb⟩; have A := Lib.hid (A.out.went hb); obtain ⟨_, _, x0, x1, x2, x3, y1, y2⟩ := A.out; clear hb)
    | (go_at_call 14; refine (c_term W _ A.out.at_).mono ?_; rintro e w2 ⟨rfl, hb⟩; have A := Lib.hid (A.out.went hb); obtain ⟨_, _, x0, x1, x2, x3, y1, y2⟩ := A.out; clear hb)
    | (go_at_call 16; refine (c_non W _ A.out.at_).mono ?_; rintro e w2 ⟨rfl, hb⟩; have A := Lib.hid (A.out.went hb); obtain ⟨_, _, x0, x1, x2, x3, y1, y2⟩ := A.out; clear hb)
    | (go_at_call 26; refine (c_ord W _ A.out.at_).mono ?_; rintro e w2 ⟨rfl, hb⟩; have A := Lib.hid (A.out.went hb); clear hb))
  go_ret
  exact ⟨rfl, A.out.below⟩

end Go.Proofs.Ytflljgakdakfdaa.Gr
