/-
  Package item: Right, Behind, Begin.
-/
import Derived.Test.YtjjmoonajijnmaaItemClose
namespace Go.Proofs.Ytjjmoonajijnmaa.Im
open Go.RowKit Go.Maps
open Go.Proofs.Ytjjmoonajijnmaa.Gr (Gram Sh gv GAt Bx Box boxed drawn checkN check_any ruleB ruleR rule_out cell_new cell_old cell_later free_new free_old bool_of)
set_option linter.unusedVariables false

theorem next_eq (G : Gram) (x : Itm) : nextB G x = behB G x ∧ nextV G x = behV G x := by
  have e : nextB G x = behB G x := by
    by_cases h : rightB G x = true
    · exact (next_of h).1
    · have h2 : behB G x = false := by
        unfold behB
        simp [h]
      rw [h2]
      unfold nextB
      rw [decide_eq_false_iff_not]
      rintro ⟨k1, k2⟩
      by_cases hr : x.1 < 0 ∨ (G.rules.length : Int) < x.1
      · rw [(rule_out hr).2] at k2
        simp at k2
        omega
      · exact h (right_iff.2 ⟨by omega, k1, by unfold rlen; omega⟩)
  exact ⟨e, by unfold nextV behV; rw [e]⟩

/-- Is it right, in a grammar that may be? -/
noncomputable def rgtB (G : Gram) (x : Itm) : Bool := (checkN G == 0) && rightB G x
noncomputable def bhdB (G : Gram) (x : Itm) : Bool := (checkN G == 0) && behB G x
noncomputable def bhdV (G : Gram) (x : Itm) : Int := if checkN G == 0 then behV G x else 0

theorem listIs_none {P : Itm → Prop} {w w' : World} (h : ∀ x, ¬ P x) (hb : Below w.heap.size w w') : ListIs P w (.returned (.slice none 0 0)) w' := ⟨[], none, 0, rfl, Is.nil h, ItsV.nil _ _ _, hb⟩

set_option maxRecDepth 100000 in
set_option maxHeartbeats 1000000 in
theorem begin_any (h : Sh) (G : Gram) (w : World) (k : GAt h G w) :
    Calls Try.prog 26 #[gv h G] w (ListIs (fun x => checkN G = 0 ∧ x = ((G.rules.length : Int), 0)) w) := by
  have C := Lib.hid (fun w1 (b : Below w.heap.size w w1) => check_any h G w1 (k.went b))
  have A := Lib.hid (fun w1 (b : Below w.heap.size w w1) => augmented_any h G w1 (k.went b))
  clear k
  have X := Lib.hid (Bx.start h G w 36)
  unfold gv at *
  by_cases hc : checkN G = 0
  · rw [hc] at C
    go_enter Try.func26, Try.ntmps26
    go_wp2_with (first
      | (go_at_call 24; refine (C.out _ X.out.below).mono ?_; rintro e w1 ⟨rfl, hb⟩; have X1 := Lib.hid (X.out.went hb); obtain ⟨g0, g1, g2, g3⟩ := X1.out.box; clear hb)
      | (go_at_call 40; refine (A.out _ X1.out.below).mono ?_; rintro e w2 ⟨rfl, hb⟩; have X2 := Lib.hid (X1.out.went hb); clear hb))
    go_ret
    have hB := X2.out.below.size
    exact ⟨[((G.rules.length : Int), 0)], _, _, rfl, ⟨srt_one _, fun x => by rw [List.mem_singleton]; exact ⟨fun e => ⟨hc, e⟩, fun e => e.2⟩⟩, item_one 51 w.heap.size w2.heap.size ((G.rules.length : Int), 0) w2 rfl hB, (X2.out.alloc _).below⟩
  · have hcb : (checkN G == 0) = false := by simpa using hc
    go_enter Try.func26, Try.ntmps26
    go_wp2_with (go_at_call 24; refine (C.out _ X.out.below).mono ?_; rintro e w1 ⟨rfl, hb⟩; have X1 := Lib.hid (X.out.went hb); clear hb)
    go_ret
    exact listIs_none (fun x k => hc k.1) X1.out.below

end Go.Proofs.Ytjjmoonajijnmaa.Im
