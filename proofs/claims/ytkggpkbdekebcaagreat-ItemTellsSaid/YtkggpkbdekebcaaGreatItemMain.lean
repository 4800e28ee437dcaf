/-
  Package item: Right, Behind, Begin.
-/
import Derived.Test.YtkggpkbdekebcaaGreatItemClose
namespace Go.Proofs.YtkggpkbdekebcaaGreat.Im
open Go.RowKit Go.Maps
open Go.Proofs.YtkggpkbdekebcaaGreat.Gr (Gram Sh gv GAt Bx Box boxed drawn checkN check_any ruleB ruleR rule_out cell_new cell_old cell_later free_new free_old bool_of)
set_option linter.unusedVariables false

theorem next_eq (G : Gram) (x : Itm) : nextB G x = behB G x ∧ nextV G x = behV G x := by
  have e : nextB G x = behB G x := by
    by_cases h : rightB G x = true
    · exact (next_of h).1
    · have h2 : behB G x = false := by
        unfold behB
        simp [h]
      rw [h2]
      unfold nextB
      rw [decide_eq_false_iff_not]
      rintro ⟨k1, k2⟩
      by_cases hr : x.1 < 0 ∨ (G.rules.length : Int) < x.1
      · rw [(rule_out hr).2] at k2
        simp at k2
        omega
      · exact h (right_iff.2 ⟨by omega, k1, by unfold rlen; omega⟩)
  exact ⟨e, by unfold nextV behV; rw [e]⟩

/-- Is it right, in a grammar that may be? -/
noncomputable def rgtB (G : Gram) (x : Itm) : Bool := (checkN G == 0) && rightB G x
noncomputable def bhdB (G : Gram) (x : Itm) : Bool := (checkN G == 0) && behB G x
noncomputable def bhdV (G : Gram) (x : Itm) : Int := if checkN G == 0 then behV G x else 0

set_option maxRecDepth 100000 in
set_option maxHeartbeats 1000000 in
theorem right_any (h : Sh) (G : Gram) (x : Itm) (w : World) (k : GAt h G w) :
    Calls Tryz.prog 8 #[gv h G, iv x] w (Gr.Is (.bool (rgtB G x)) w) := by
  have C := Lib.hid (fun w1 (b : Below w.heap.size w w1) => check_any h G w1 (k.went b))
  have F := Lib.hid (fun w1 (b : Below w.heap.size w w1) => fits_any h G x w1 (k.went b))
  clear k
  have X := Lib.hid (Bi.start h G x w 25 34)
  unfold rgtB
  generalize rightB G x = rb at F ⊢
  generalize checkN G = cn at C ⊢
  obtain ⟨x0, x1⟩ := x
  unfold gv iv at *
  dsimp only at F X ⊢
  by_cases hc : cn = 0
  · subst hc
    go_enter Tryz.func8, Tryz.ntmps8
    go_wp2_with (first
      | (go_at_call 27; refine (C.out _ X.out.below).mono ?_; rintro e w1 ⟨rfl, hb⟩; have X1 := Lib.hid (X.out.went hb); have y0 := X1.out.i0; have y1 := X1.out.i1; obtain ⟨g0, g1, g2, g3⟩ := X1.out.bx.box; clear hb)
      | (go_at_call 29; refine (F.out _ X1.out.below).mono ?_; rintro e w2 ⟨rfl, hb⟩; have X2 := Lib.hid (X1.out.went hb); clear hb))
    go_ret
    exact ⟨by simp, X2.out.below⟩
  · have hcb : (cn == 0) = false := by simpa using hc
    go_enter Tryz.func8, Tryz.ntmps8
    go_wp2_with (go_at_call 27; refine (C.out _ X.out.below).mono ?_; rintro e w1 ⟨rfl, hb⟩; have X1 := Lib.hid (X.out.went hb); have y0 := X1.out.i0; have y1 := X1.out.i1; obtain ⟨g0, g1, g2, g3⟩ := X1.out.bx.box; clear hb)
    go_ret
    exact ⟨by simp [hcb], X1.out.below⟩

set_option maxRecDepth 100000 in
set_option maxHeartbeats 1000000 in
theorem behindM_any (h : Sh) (G : Gram) (x : Itm) (w : World) (k : GAt h G w) :
    Calls Tryz.prog 7 #[gv h G, iv x] w (Gr.Is (.tuple #[.int .i64 (bhdV G x), .bool (bhdB G x)]) w) := by
  have C := Lib.hid (fun w1 (b : Below w.heap.size w w1) => check_any h G w1 (k.went b))
  have F := Lib.hid (fun w1 (b : Below w.heap.size w w1) => behind_any h G x w1 (k.went b))
  clear k
  have X := Lib.hid (Bi.start h G x w 25 34)
  rw [(next_eq G x).1, (next_eq G x).2] at F
  unfold bhdV bhdB
  generalize behB G x = bb at F ⊢
  generalize behV G x = bv at F ⊢
  generalize checkN G = cn at C ⊢
  obtain ⟨x0, x1⟩ := x
  unfold gv iv at *
  dsimp only at F X ⊢
  by_cases hc : cn = 0
  · subst hc
    go_enter Tryz.func7, Tryz.ntmps7
    go_wp2_with (first
      | (go_at_call 27; refine (C.out _ X.out.below).mono ?_; rintro e w1 ⟨rfl, hb⟩; have X1 := Lib.hid (X.out.went hb); have y0 := X1.out.i0; have y1 := X1.out.i1; obtain ⟨g0, g1, g2, g3⟩ := X1.out.bx.box; clear hb)
      | (go_at_call 28; refine (F.out _ X1.out.below).mono ?_; rintro e w2 ⟨rfl, hb⟩; have X2 := Lib.hid (X1.out.went hb); clear hb))
    go_ret2
    exact ⟨by simp, X2.out.below⟩
  · have hcb : (cn == 0) = false := by simpa using hc
    go_enter Tryz.func7, Tryz.ntmps7
    go_wp2_with (go_at_call 27; refine (C.out _ X.out.below).mono ?_; rintro e w1 ⟨rfl, hb⟩; have X1 := Lib.hid (X.out.went hb); have y0 := X1.out.i0; have y1 := X1.out.i1; obtain ⟨g0, g1, g2, g3⟩ := X1.out.bx.box; clear hb)
    go_ret2
    exact ⟨by simp, X1.out.below⟩

theorem listIs_none {P : Itm → Prop} {w w' : World} (h : ∀ x, ¬ P x) (hb : Below w.heap.size w w') : ListIs P w (.returned (.slice none 0 0)) w' := ⟨[], none, 0, rfl, Is.nil h, ItsV.nil _ _ _, hb⟩

set_option maxRecDepth 100000 in
set_option maxHeartbeats 1000000 in
theorem begin_any (h : Sh) (G : Gram) (w : World) (k : GAt h G w) :
    Calls Tryz.prog 9 #[gv h G] w (ListIs (fun x => checkN G = 0 ∧ x = ((G.rules.length : Int), 0)) w) := by
  have C := Lib.hid (fun w1 (b : Below w.heap.size w w1) => check_any h G w1 (k.went b))
  have A := Lib.hid (fun w1 (b : Below w.heap.size w w1) => augmented_any h G w1 (k.went b))
  clear k
  have X := Lib.hid (Bx.start h G w 25)
  unfold gv at *
  by_cases hc : checkN G = 0
  · rw [hc] at C
    go_enter Tryz.func9, Tryz.ntmps9
    go_wp2_with (first
      | (go_at_call 27; refine (C.out _ X.out.below).mono ?_; rintro e w1 ⟨rfl, hb⟩; have X1 := Lib.hid (X.out.went hb); obtain ⟨g0, g1, g2, g3⟩ := X1.out.box; clear hb)
      | (go_at_call 30; refine (A.out _ X1.out.below).mono ?_; rintro e w2 ⟨rfl, hb⟩; have X2 := Lib.hid (X1.out.went hb); clear hb))
    go_ret
    have hB := X2.out.below.size
    exact ⟨[((G.rules.length : Int), 0)], _, _, rfl, ⟨srt_one _, fun x => by rw [List.mem_singleton]; exact ⟨fun e => ⟨hc, e⟩, fun e => e.2⟩⟩, item_one 34 w.heap.size w2.heap.size ((G.rules.length : Int), 0) w2 rfl hB, (X2.out.alloc _).below⟩
  · have hcb : (checkN G == 0) = false := by simpa using hc
    go_enter Tryz.func9, Tryz.ntmps9
    go_wp2_with (go_at_call 27; refine (C.out _ X.out.below).mono ?_; rintro e w1 ⟨rfl, hb⟩; have X1 := Lib.hid (X.out.went hb); clear hb)
    go_ret
    exact listIs_none (fun x k => hc k.1) X1.out.below

end Go.Proofs.YtkggpkbdekebcaaGreat.Im
