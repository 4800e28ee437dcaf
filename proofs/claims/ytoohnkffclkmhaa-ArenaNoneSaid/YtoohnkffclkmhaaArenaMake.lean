/-
  Package arena: how many nodes, is there one, is it free; a node is added; children are taken, or given back.
-/
import Derived.Test.YtoohnkffclkmhaaArenaAt
import Derived.Test.YtoohnkffclkmhaaGramRule
import Derived.Deep.RegionHeld3
namespace Go.Proofs.Ytoohnkffclkmhaa.Tr
open Go.RowKit Go.Maps
open Go.Proofs.Ytoohnkffclkmhaa.Sep
open Go.Proofs.Ytoohnkffclkmhaa.Rw (Bk)
open Go.Proofs.Ytoohnkffclkmhaa.Gr (cell_later boxed drawn Is bool_of int_of ivs Listed New clone_any)
set_option linter.unusedVariables false
set_option linter.unusedSimpArgs false

section
variable {p : Nat} {S K : Nat → Prop} {L : List Nv} {T : List Nd} {v : Value} {w : World}

theorem len_any (h : TrAt p S K T w) : Calls Try.prog 12 #[.pointer (some ⟨p, 0, none⟩)] w (Is (.int .i64 (T.length : Int)) w) := by
  obtain ⟨L, v, rfl, h⟩ := h
  obtain ⟨a, c, rfl⟩ := h.shape
  have x := h.cell
  rw [List.length_map]
  clear h
  go_enter Try.func12, Try.ntmps12
  go_wp2
  go_ret
  exact ⟨rfl, .refl _ _⟩
theorem len_nil (w : World) : Calls Try.prog 12 #[.pointer none] w (Is (.int .i64 0) w) := by
  go_enter Try.func12, Try.ntmps12
  go_wp2
  go_ret
  exact ⟨rfl, .refl _ _⟩

theorem has_any (h : TrAt p S K T w) (i : Int) : Calls Try.prog 22 #[.pointer (some ⟨p, 0, none⟩), .int .i64 i] w (Is (.bool (inP T i)) w) := by
  have N := Lib.hid (len_any h)
  have f := h.few
  clear h
  by_cases h0 : 0 ≤ i
  · go_enter Try.func22, Try.ntmps22
    go_wp2_with (go_at_call 12; refine N.out.mono ?_; rintro e w1 ⟨rfl, hb⟩; have HB := Lib.hid hb; clear hb)
    go_ret
    refine ⟨bool_of ?_, HB.out⟩
    unfold inP
    go_light
    first | (rw [decide_eq_true_iff]; omega) | (rw [decide_eq_false_iff_not]; omega) | (rw [Bool.eq_iff_iff]; simp only [decide_eq_true_eq]; omega)
  · have E : inP T i = false := by unfold inP; rw [decide_eq_false_iff_not]; omega
    rw [E]
    go_enter Try.func22, Try.ntmps22
    go_wp2
    go_ret
    exact ⟨rfl, .refl _ _⟩
theorem has_nil (i : Int) (w : World) : Calls Try.prog 22 #[.pointer none, .int .i64 i] w (Is (.bool false) w) := by
  have N := Lib.hid (len_nil w)
  by_cases h0 : 0 ≤ i
  · go_enter Try.func22, Try.ntmps22
    go_wp2_with (go_at_call 12; refine N.out.mono ?_; rintro e w1 ⟨rfl, hb⟩; have HB := Lib.hid hb; clear hb)
    go_ret
    exact ⟨bool_of (by go_light; first | rfl | (symm; rw [decide_eq_false_iff_not]; omega) | (rw [decide_eq_false_iff_not]; omega)), HB.out⟩
  · go_enter Try.func22, Try.ntmps22
    go_wp2
    go_ret
    exact ⟨rfl, .refl _ _⟩

theorem inP_iff {i : Int} : inP T i = true ↔ ∃ j : Nat, i = (j : Int) ∧ j < T.length := by
  unfold inP
  rw [decide_eq_true_iff]
  constructor
  · intro h
    exact ⟨i.toNat, by omega, by omega⟩
  · rintro ⟨j, rfl, h⟩
    omega
theorem free_out {i : Int} (h : inP T i = false) : freeP T i = false := by
  rw [← Bool.not_eq_true, freeP_iff]
  rintro ⟨j, rfl, n, h1, _⟩
  have := (List.getElem?_eq_some_iff.1 h1).1
  rw [inP_iff.2 ⟨j, rfl, this⟩] at h
  cases h
theorem free_in {j : Nat} (h : j < T.length) : freeP T (j : Int) = !T[j].taken := by
  unfold freeP freeAt
  simp [h]

theorem free_any (h : TrAt p S K T w) (i : Int) : Calls Try.prog 20 #[.pointer (some ⟨p, 0, none⟩), .int .i64 i] w (Is (.bool (freeP T i)) w) := by
  have N := Lib.hid (has_any h i)
  cases hi : inP T i with
  | false =>
    rw [hi] at N
    rw [free_out hi]
    clear h
    go_enter Try.func20, Try.ntmps20
    go_wp2_with (go_at_call 22; refine N.out.mono ?_; rintro e w1 ⟨rfl, hb⟩; have HB := Lib.hid hb; clear hb)
    go_ret
    exact ⟨rfl, HB.out⟩
  | true =>
    obtain ⟨j, rfl, hj⟩ := inP_iff.1 hi
    rw [hi] at N
    rw [free_in hj]
    obtain ⟨L, v, rfl, h⟩ := h
    have hj' : j < L.length := by simpa using hj
    have hn := h.few
    rw [List.getElem_map]
    have HC := Lib.hid (fun w1 (hb : Below w.heap.size w w1) => (h.went hb).cell)
    obtain ⟨g, c, rfl, -, -, -, -, -, x5, -⟩ := h.at hj'
    have HX := Lib.hid (fun w1 (hb : Below w.heap.size w w1) => cell_later hb x5)
    clear h x5 hi
    generalize hb : L[j].1.taken = b at *
    have hj2 : (j : Int) < (L.length : Int) := by omega
    clear hb hj hj'
    generalize L.length = n at *
    go_enter Try.func20, Try.ntmps20
    go_wp2_with (go_at_call 22; refine N.out.mono ?_; rintro e w1 ⟨rfl, hb⟩; have HB := Lib.hid hb; have k0 := HC.out _ hb; have k1 := HX.out _ hb; clear hb)
    go_ret
    exact ⟨rfl, HB.out⟩

/-! ### A node is added -/

/-- What a call answers that adds a node. -/
def Added (p : Nat) (S K' : Nat → Prop) (L : List Nv) (x : Nv) (w : World) (e : Ending) (w' : World) : Prop :=
  e = .returned (.int .i64 (L.length : Int)) ∧ ∃ S' v', TrM p S' K' (L ++ [x]) v' w' ∧ Ext S' S w ∧ Fr S w w'

set_option maxHeartbeats 4000000 in
set_option maxRecDepth 100000 in
theorem add_any (h : TrM p S K L v w) (n : Nd) (a2 : Option Addr) (c2 : Nat) {K' : Nat → Prop} (hx : KidA K' (n, .slice a2 n.kids.length c2) w) (hK : ∀ b, K b → K' b) (hKi : Inn K' w) (hoff : Off S K') (hl : L.length < 1000) :
    Calls Try.prog 17 #[.pointer (some ⟨p, 0, none⟩), ndv (n, .slice a2 n.kids.length c2)] w (Added p S K' L (n, .slice a2 n.kids.length c2) w) := by
  obtain ⟨i0, hi, hz0, hz1, hz2⟩ := info_parts info_node
  obtain ⟨a, c, rfl⟩ := h.shape
  have AP := Lib.hid (fun (w1 w2 : World) (v' : Value) (hb : Below w.heap.size w w1) hown (hg : w1.grownBy w2 (Value.slice a L.length c).ownBlock) hloc => h.app hx hK hKi hoff hl (w1 := w1) (w2 := w2) (v' := v') hb hown hg hloc)
  have B1 := boxed w (.cells #[.int .i64 n.sym, .int .i64 n.leaf, .int .i64 n.rule, .slice a2 n.kids.length c2, .bool n.inner, .bool n.taken] 51)
  have HW := Lib.hid (fun w1 (hb : Below w.heap.size w w1) => h.went hb)
  unfold ndv
  dsimp only
  generalize hk : n.kids.length = kn at *
  go_enter Try.func17, Try.ntmps17
  go_wp2_with fail
  obtain ⟨w1, hw1⟩ : ∃ w1, w.alloc (.cells #[.int .i64 n.sym, .int .i64 n.leaf, .int .i64 n.rule, .slice a2 kn c2, .bool n.inner, .bool n.taken] 51) = w1 := ⟨_, rfl⟩
  have q1 : Bk w.heap.size #[.int .i64 n.sym, .int .i64 n.leaf, .int .i64 n.rule, .slice a2 kn c2, .bool n.inner, .bool n.taken] 51 w1 := hw1 ▸ Bk.new w _ _ _ rfl
  rw [hw1] at B1 ⊢
  have y0 := q1.cell (j := 0) rfl
  have y1 := q1.cell (j := 1) rfl
  have y2 := q1.cell (j := 2) rfl
  have y3 := q1.cell (j := 3) rfl
  have y4 := q1.cell (j := 4) rfl
  have y5 := q1.cell (j := 5) rfl
  have x0 := (HW.out _ B1).cell
  have B2 := Gr.step B1 (boxed w1 (.cells #[.int .i64 n.sym, .int .i64 n.leaf, .int .i64 n.rule, .slice a2 kn c2, .bool n.inner, .bool n.taken] 51))
  have B3 := Gr.step B2 (drawn _)
  have x1 := (HW.out _ B2).cell
  have RX := Lib.hid (HW.out _ B3).row
  have ON := Lib.hid (show (w1.alloc (.cells #[.int .i64 n.sym, .int .i64 n.leaf, .int .i64 n.rule, .slice a2 kn c2, .bool n.inner, .bool n.taken] 51)).drew.ownsRow 0 51 6 (.slice (some ⟨w1.heap.size, 0, none⟩) 1 1) 1 (ndc (n, .slice a2 kn c2)) from
    World.ownsRow_lit (base := 0) (e := 51) (size := 6) w1 #[.int .i64 n.sym, .int .i64 n.leaf, .int .i64 n.rule, .slice a2 kn c2, .bool n.inner, .bool n.taken] 1 (Nat.zero_le _) (by decide) rfl)
  have AX := Lib.hid (fun (w2 : World) (v' : Value) => AP.out _ w2 v' B3)
  have ONE := Lib.hid (show ∀ u ∈ ndc (n, .slice a2 kn c2), u.oneCell' = true from by
    intro u hu
    simp only [ndc, List.mem_cons, List.not_mem_nil, or_false] at hu
    rcases hu with rfl | rfl | rfl | rfl | rfl | rfl <;> rfl)
  clear hw1 q1 AP B1 B2 B3 HW hK hKi hoff hx h hk
  go_region_law (first
    | (refine Rw.step_append_rows _ (by rfl) _ _ 46 (by rfl) 0 51 i0 (.agg #[.int .i64 0, .int .i64 0, .int .i64 0, .slice none 0 0, .bool false, .bool false]) 6 56 Try.underlying46 hi hz0 hz1 hz2 rfl (by decide) (.slice a L.length c) L.length (L.flatMap ndc) (by rfl) RX.out 0 (.slice (some ⟨w1.heap.size, 0, none⟩) 1 1) 1 (ndc (n, .slice a2 kn c2)) (by rfl) ON.out ONE.out (by unfold maxLen; omega) (by omega) (Nat.zero_le _) ?_; intro v4 w4 hown4 hg4 hloc4; obtain ⟨a4, c4, rfl⟩ := Rw.row_shape hown4; obtain ⟨q9, f9, R4⟩ := AX.out w4 _ hown4 hg4 hloc4; have R4 := Lib.hid R4; clear hown4 hg4 hloc4))
  all_goals
    have R5 := Lib.hid R4.out
    obtain ⟨S', hm, _, _⟩ := R4.out
    have z0 := hm.cell
    clear hm
    go_wp2_with fail
    go_ret
    refine ⟨int_of (by omega), R5.out.elim fun S' h => ⟨S', _, h⟩⟩

end
end Go.Proofs.Ytoohnkffclkmhaa.Tr
