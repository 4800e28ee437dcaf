/-
  Check: by the program and by the plain answers.
-/
import Derived.Test.YtoohnkffclkmhaaGramUnlike
import Derived.Test.YtoohnkffclkmhaaGramKnown
import Derived.Test.YtoohnkffclkmhaaGramTwice
namespace Go.Proofs.Ytoohnkffclkmhaa.Gr
open Go.RowKit Go.Maps
set_option linter.unusedVariables false

theorem many_not {G : Gram} (h : manyB G = false) : G.terms.length ≤ 120 ∧ G.nons.length ≤ 120 ∧ G.rules.length ≤ 300 := by
  simp only [manyB, Bool.or_eq_false_iff, decide_eq_false_iff_not] at h
  omega
theorem check_many {G : Gram} (h : manyB G = true) : checkN G = 7 := by simp [checkN, h]
theorem check_form {G : Gram} (h : manyB G = false) (h1 : formB G = false) : checkN G = 10 := by simp [checkN, h, h1]
theorem check_once {G : Gram} (h : manyB G = false) (h1 : formB G = true) (h2 : onceB G = false) : checkN G = 8 := by simp [checkN, h, h1, h2]
theorem check_known {G : Gram} (h : manyB G = false) (h1 : formB G = true) (h2 : onceB G = true) (h3 : knownB G = false) : checkN G = 1 := by simp [checkN, h, h1, h2, h3]
theorem check_unlike {G : Gram} (h : manyB G = false) (h1 : formB G = true) (h2 : onceB G = true) (h3 : knownB G = true) (h4 : unlikeB G = false) : checkN G = 8 := by simp [checkN, h, h1, h2, h3, h4]
theorem check_ruled {G : Gram} (h : manyB G = false) (h1 : formB G = true) (h2 : onceB G = true) (h3 : knownB G = true) (h4 : unlikeB G = true) (h5 : ruledB G = false) : checkN G = 9 := by simp [checkN, h, h1, h2, h3, h4, h5]
theorem check_all {G : Gram} (h : manyB G = false) (h1 : formB G = true) (h2 : onceB G = true) (h3 : knownB G = true) (h4 : unlikeB G = true) (h5 : ruledB G = true) : checkN G = 0 := by simp [checkN, h, h1, h2, h3, h4, h5]

set_option maxHeartbeats 4000000 in
theorem check_any (h : Sh) (G : Gram) (w : World) (k : GAt h G w) :
    Calls Try.prog 23 #[gv h G] w (Is (.int .i64 (checkN G)) w) := by
  have X := Lib.hid (Bx.start h G w 43)
  have M := Lib.hid (fun w1 (b : Below w.heap.size w w1) => many_any h G w1 (k.went b))
  have F := Lib.hid (fun w1 (b : Below w.heap.size w w1) => misnamed_any h G w1 (k.went b))
  have O := Lib.hid (fun w1 (b : Below w.heap.size w w1) => namedTwice_any h G w1 (k.went b))
  have K := Lib.hid (fun w1 (b : Below w.heap.size w w1) => misnumbered_any h G w1 (k.went b))
  have U := Lib.hid (fun w1 (b : Below w.heap.size w w1) => ruledTwice_any h G w1 (k.went b))
  have KG := Lib.hid k
  clear k
  unfold gv
  cases h0 : manyB G with
  | true =>
    have E := Lib.hid (check_many h0)
    rw [h0] at M
    clear h0
    go_enter Try.func23, Try.ntmps23
    go_wp2_with (first
      | (go_at_call 34; refine (M.out _ X.out.below).mono ?_; rintro e w1 ⟨rfl, hb⟩; have X := Lib.hid (X.out.went hb); obtain ⟨x0, x1, x2, x3⟩ := X.out.box; clear hb))
    go_ret
    exact ⟨int_of E.out, X.out.below⟩
  | false =>
    rw [h0] at M
    cases h1 : formB G with
    | false =>
      have E := Lib.hid (check_form h0 h1)
      rw [h1] at F
      clear h0 h1
      go_enter Try.func23, Try.ntmps23
      go_wp2_with (first
        | (go_at_call 34; refine (M.out _ X.out.below).mono ?_; rintro e w1 ⟨rfl, hb⟩; have X := Lib.hid (X.out.went hb); obtain ⟨x0, x1, x2, x3⟩ := X.out.box; clear hb)
        | (go_at_call 35; refine (F.out _ X.out.below).mono ?_; rintro e w1 ⟨rfl, hb⟩; have X := Lib.hid (X.out.went hb); obtain ⟨x0, x1, x2, x3⟩ := X.out.box; clear hb))
      go_ret
      exact ⟨int_of E.out, X.out.below⟩
    | true =>
      rw [h1] at F
      cases h2 : onceB G with
      | false =>
        have E := Lib.hid (check_once h0 h1 h2)
        rw [h2] at O
        clear h0 h1 h2
        go_enter Try.func23, Try.ntmps23
        go_wp2_with (first
          | (go_at_call 34; refine (M.out _ X.out.below).mono ?_; rintro e w1 ⟨rfl, hb⟩; have X := Lib.hid (X.out.went hb); obtain ⟨x0, x1, x2, x3⟩ := X.out.box; clear hb)
          | (go_at_call 35; refine (F.out _ X.out.below).mono ?_; rintro e w1 ⟨rfl, hb⟩; have X := Lib.hid (X.out.went hb); obtain ⟨x0, x1, x2, x3⟩ := X.out.box; clear hb)
          | (go_at_call 36; refine (O.out _ X.out.below).mono ?_; rintro e w1 ⟨rfl, hb⟩; have X := Lib.hid (X.out.went hb); obtain ⟨x0, x1, x2, x3⟩ := X.out.box; clear hb))
        go_ret
        exact ⟨int_of E.out, X.out.below⟩
      | true =>
        rw [h2] at O
        cases h3 : knownB G with
        | false =>
          have E := Lib.hid (check_known h0 h1 h2 h3)
          rw [h3] at K
          clear h0 h1 h2 h3
          go_enter Try.func23, Try.ntmps23
          go_wp2_with (first
            | (go_at_call 34; refine (M.out _ X.out.below).mono ?_; rintro e w1 ⟨rfl, hb⟩; have X := Lib.hid (X.out.went hb); obtain ⟨x0, x1, x2, x3⟩ := X.out.box; clear hb)
            | (go_at_call 35; refine (F.out _ X.out.below).mono ?_; rintro e w1 ⟨rfl, hb⟩; have X := Lib.hid (X.out.went hb); obtain ⟨x0, x1, x2, x3⟩ := X.out.box; clear hb)
            | (go_at_call 36; refine (O.out _ X.out.below).mono ?_; rintro e w1 ⟨rfl, hb⟩; have X := Lib.hid (X.out.went hb); obtain ⟨x0, x1, x2, x3⟩ := X.out.box; clear hb)
            | (go_at_call 37; refine (K.out _ X.out.below).mono ?_; rintro e w1 ⟨rfl, hb⟩; have X := Lib.hid (X.out.went hb); obtain ⟨x0, x1, x2, x3⟩ := X.out.box; clear hb))
          go_ret
          exact ⟨int_of E.out, X.out.below⟩
        | true =>
          rw [h3] at K
          cases h4 : unlikeB G with
          | false =>
            have E := Lib.hid (check_unlike h0 h1 h2 h3 h4)
            rw [h4] at U
            clear h0 h1 h2 h3 h4
            go_enter Try.func23, Try.ntmps23
            go_wp2_with (first
              | (go_at_call 34; refine (M.out _ X.out.below).mono ?_; rintro e w1 ⟨rfl, hb⟩; have X := Lib.hid (X.out.went hb); obtain ⟨x0, x1, x2, x3⟩ := X.out.box; clear hb)
              | (go_at_call 35; refine (F.out _ X.out.below).mono ?_; rintro e w1 ⟨rfl, hb⟩; have X := Lib.hid (X.out.went hb); obtain ⟨x0, x1, x2, x3⟩ := X.out.box; clear hb)
              | (go_at_call 36; refine (O.out _ X.out.below).mono ?_; rintro e w1 ⟨rfl, hb⟩; have X := Lib.hid (X.out.went hb); obtain ⟨x0, x1, x2, x3⟩ := X.out.box; clear hb)
              | (go_at_call 37; refine (K.out _ X.out.below).mono ?_; rintro e w1 ⟨rfl, hb⟩; have X := Lib.hid (X.out.went hb); obtain ⟨x0, x1, x2, x3⟩ := X.out.box; clear hb)
              | (go_at_call 38; refine (U.out _ X.out.below).mono ?_; rintro e w1 ⟨rfl, hb⟩; have X := Lib.hid (X.out.went hb); obtain ⟨x0, x1, x2, x3⟩ := X.out.box; clear hb))
            go_ret
            exact ⟨int_of E.out, X.out.below⟩
          | true =>
            rw [h4] at U
            have hr3 := (many_not h0).2.2
            have R := Lib.hid (fun w1 (b : Below w.heap.size w w1) => unruled_any h G w1 (KG.out.went b) (by omega))
            cases h5 : ruledB G with
            | false =>
              have E := Lib.hid (check_ruled h0 h1 h2 h3 h4 h5)
              rw [h5] at R
              clear h0 h1 h2 h3 h4 h5
              go_enter Try.func23, Try.ntmps23
              go_wp2_with (first
                | (go_at_call 34; refine (M.out _ X.out.below).mono ?_; rintro e w1 ⟨rfl, hb⟩; have X := Lib.hid (X.out.went hb); obtain ⟨x0, x1, x2, x3⟩ := X.out.box; clear hb)
                | (go_at_call 35; refine (F.out _ X.out.below).mono ?_; rintro e w1 ⟨rfl, hb⟩; have X := Lib.hid (X.out.went hb); obtain ⟨x0, x1, x2, x3⟩ := X.out.box; clear hb)
                | (go_at_call 36; refine (O.out _ X.out.below).mono ?_; rintro e w1 ⟨rfl, hb⟩; have X := Lib.hid (X.out.went hb); obtain ⟨x0, x1, x2, x3⟩ := X.out.box; clear hb)
                | (go_at_call 37; refine (K.out _ X.out.below).mono ?_; rintro e w1 ⟨rfl, hb⟩; have X := Lib.hid (X.out.went hb); obtain ⟨x0, x1, x2, x3⟩ := X.out.box; clear hb)
                | (go_at_call 38; refine (U.out _ X.out.below).mono ?_; rintro e w1 ⟨rfl, hb⟩; have X := Lib.hid (X.out.went hb); obtain ⟨x0, x1, x2, x3⟩ := X.out.box; clear hb)
                | (go_at_call 39; refine (R.out _ X.out.below).mono ?_; rintro e w1 ⟨rfl, hb⟩; have X := Lib.hid (X.out.went hb); obtain ⟨x0, x1, x2, x3⟩ := X.out.box; clear hb))
              go_ret
              exact ⟨int_of E.out, X.out.below⟩
            | true =>
              rw [h5] at R
              have E := Lib.hid (check_all h0 h1 h2 h3 h4 h5)
              clear h0 h1 h2 h3 h4 h5
              go_enter Try.func23, Try.ntmps23
              go_wp2_with (first
                | (go_at_call 34; refine (M.out _ X.out.below).mono ?_; rintro e w1 ⟨rfl, hb⟩; have X := Lib.hid (X.out.went hb); obtain ⟨x0, x1, x2, x3⟩ := X.out.box; clear hb)
                | (go_at_call 35; refine (F.out _ X.out.below).mono ?_; rintro e w1 ⟨rfl, hb⟩; have X := Lib.hid (X.out.went hb); obtain ⟨x0, x1, x2, x3⟩ := X.out.box; clear hb)
                | (go_at_call 36; refine (O.out _ X.out.below).mono ?_; rintro e w1 ⟨rfl, hb⟩; have X := Lib.hid (X.out.went hb); obtain ⟨x0, x1, x2, x3⟩ := X.out.box; clear hb)
                | (go_at_call 37; refine (K.out _ X.out.below).mono ?_; rintro e w1 ⟨rfl, hb⟩; have X := Lib.hid (X.out.went hb); obtain ⟨x0, x1, x2, x3⟩ := X.out.box; clear hb)
                | (go_at_call 38; refine (U.out _ X.out.below).mono ?_; rintro e w1 ⟨rfl, hb⟩; have X := Lib.hid (X.out.went hb); obtain ⟨x0, x1, x2, x3⟩ := X.out.box; clear hb)
                | (go_at_call 39; refine (R.out _ X.out.below).mono ?_; rintro e w1 ⟨rfl, hb⟩; have X := Lib.hid (X.out.went hb); obtain ⟨x0, x1, x2, x3⟩ := X.out.box; clear hb))
              go_ret
              exact ⟨int_of E.out, X.out.below⟩

theorem once_eq (G : Gram) : onceB G = decide (names G).Nodup := rfl

end Go.Proofs.Ytoohnkffclkmhaa.Gr
