/-
  Package gram: Name, Find; a rule by its number.
-/
import Derived.Test.YtoohnkffclkmhaaGramAt
namespace Go.Proofs.Ytoohnkffclkmhaa.Gr
open Go.RowKit Go.Maps

theorem string_of {x r : ByteArray} (h : x = r) : Ending.returned (.string r) = .returned (.string x) := by rw [h]

set_option maxHeartbeats 1000000 in
theorem name_any (h : Sh) (G : Gram) (s : Int) (w : World) (k : GAt h G w) :
    Calls Try.prog 29 #[gv h G, .int .i64 s] w (Is (.string (nameS G s)) w) := by
  have T := Lib.hid (fun w1 (b : Below w.heap.size w w1) => term_any h G s w1 (k.went b))
  have N := Lib.hid (fun w1 (b : Below w.heap.size w w1) => non_any h G s w1 (k.went b))
  have X := Lib.hid (Bx.start h G w 43)
  have t := k.t2
  have n := k.n2
  by_cases h0 : s = 0
  · subst h0
    have E := Lib.hid (name_zero G)
    clear k T N
    unfold gv
    go_enter Try.func29, Try.ntmps29
    go_wp2
    go_ret
    exact ⟨string_of E.out, X.out.below⟩
  · by_cases h1 : 1 ≤ s ∧ s ≤ (G.terms.length : Int)
    · obtain ⟨j, rfl⟩ : ∃ j : Nat, s = (j : Int) + 1 := ⟨(s - 1).toNat, by omega⟩
      have hj : j < G.terms.length := by omega
      have E := Lib.hid (name_term hj)
      have e1 := termB_iff.2 h1
      rw [e1] at T
      obtain ⟨a1, c1, a2, c2, a3, c3⟩ := h
      obtain ⟨b, o, e, hc⟩ := k.terms j (by simpa using hj)
      dsimp only at e
      subst e
      simp only [List.getElem_map] at hc
      have HC := Lib.hid (fun w1 (b : Below w.heap.size w w1) => cell_later b hc)
      clear hc k N e1 h1 h0
      generalize nameS G ((j : Int) + 1) = x at E ⊢
      have hx := E.out
      subst hx
      unfold gv
      dsimp only
      go_enter Try.func29, Try.ntmps29
      go_wp2_with (go_at_call 41; refine (T.out _ X.out.below).mono ?_; rintro e w1 ⟨rfl, hb⟩; have X := Lib.hid (X.out.went hb); obtain ⟨x0, x1, x2, x3⟩ := X.out.box; have hc := HC.out _ X.out.below; clear hb)
      go_ret
      exact ⟨rfl, X.out.below⟩
    · have e1 : termB G s = false := by rw [← Bool.not_eq_true, termB_iff]; exact h1
      rw [e1] at T
      by_cases h2 : (G.terms.length : Int) < s ∧ s ≤ (G.terms.length : Int) + (G.nons.length : Int)
      · obtain ⟨j, rfl⟩ : ∃ j : Nat, s = ((G.terms.length + j : Nat) : Int) + 1 := ⟨(s - 1 - G.terms.length).toNat, by omega⟩
        have hj : j < G.nons.length := by omega
        have E := Lib.hid (name_non hj)
        have e2 := nonB_iff.2 h2
        rw [e2] at N
        obtain ⟨a1, c1, a2, c2, a3, c3⟩ := h
        obtain ⟨b, o, e, hc⟩ := k.nons j (by simpa using hj)
        dsimp only at e
        subst e
        simp only [List.getElem_map] at hc
        have HC := Lib.hid (fun w1 (b : Below w.heap.size w w1) => cell_later b hc)
        clear hc k e1 e2 h1 h2 h0
        generalize nameS G (((G.terms.length + j : Nat) : Int) + 1) = x at E ⊢
        have hx := E.out
        subst hx
        unfold gv
        dsimp only
        have hi1 : ((G.terms.length + j : Nat) : Int) + 1 - (G.terms.length : Int) = (j : Int) + 1 := by omega
        have hi2 : (G.terms.length : Int) + (j : Int) + 1 - (G.terms.length : Int) = (j : Int) + 1 := by omega
        go_enter Try.func29, Try.ntmps29
        go_wp2_with (first
          | (go_at_call 41; refine (T.out _ X.out.below).mono ?_; rintro e w1 ⟨rfl, hb⟩; have X := Lib.hid (X.out.went hb); obtain ⟨x0, x1, x2, x3⟩ := X.out.box; clear hb)
          | (go_at_call 47; refine (N.out _ X.out.below).mono ?_; rintro e w1 ⟨rfl, hb⟩; have X := Lib.hid (X.out.went hb); obtain ⟨x0, x1, x2, x3⟩ := X.out.box; have hc := HC.out _ X.out.below; clear hb))
        go_ret
        exact ⟨rfl, X.out.below⟩
      · have e2 : nonB G s = false := by rw [← Bool.not_eq_true, nonB_iff]; exact h2
        rw [e2] at N
        have E := Lib.hid (name_out (G := G) (s := s) (by unfold top; omega))
        clear k e1 e2 h1 h2
        unfold gv
        go_enter Try.func29, Try.ntmps29
        go_wp2_with (first
          | (go_at_call 41; refine (T.out _ X.out.below).mono ?_; rintro e w1 ⟨rfl, hb⟩; have X := Lib.hid (X.out.went hb); obtain ⟨x0, x1, x2, x3⟩ := X.out.box; clear hb)
          | (go_at_call 47; refine (N.out _ X.out.below).mono ?_; rintro e w1 ⟨rfl, hb⟩; have X := Lib.hid (X.out.went hb); obtain ⟨x0, x1, x2, x3⟩ := X.out.box; clear hb))
        go_ret
        exact ⟨string_of E.out, X.out.below⟩

end Go.Proofs.Ytoohnkffclkmhaa.Gr
