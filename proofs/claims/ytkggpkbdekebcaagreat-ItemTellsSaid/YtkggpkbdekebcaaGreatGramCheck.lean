/-
  Check: by the program and by the plain answers.
-/
import Derived.Test.YtkggpkbdekebcaaGreatGramUnlike
import Derived.Test.YtkggpkbdekebcaaGreatGramKnown
import Derived.Test.YtkggpkbdekebcaaGreatGramTwice
namespace Go.Proofs.YtkggpkbdekebcaaGreat.Gr
open Go.RowKit Go.Maps
set_option linter.unusedVariables false

theorem many_not {G : Gram} (h : manyB G = false) : G.terms.length ≤ 120 ∧ G.nons.length ≤ 120 ∧ G.rules.length ≤ 300 := by
  simp only [manyB, Bool.or_eq_false_iff, decide_eq_false_iff_not] at h
  omega
theorem check_many {G : Gram} (h : manyB G = true) : checkN G = 7 := by simp [checkN, h]
theorem check_form {G : Gram} (h : manyB G = false) (h1 : formB G = false) : checkN G = 10 := by simp [checkN, h, h1]
theorem check_once {G : Gram} (h : manyB G = false) (h1 : formB G = true) (h2 : onceB G = false) : checkN G = 8 := by simp [checkN, h, h1, h2]
theorem check_known {G : Gram} (h : manyB G = false) (h1 : formB G = true) (h2 : onceB G = true) (h3 : knownB G = false) : checkN G = 1 := by simp [checkN, h, h1, h2, h3]
theorem check_unlike {G : Gram} (h : manyB G = false) (h1 : formB G = true) (h2 : onceB G = true) (h3 : knownB G = true) (h4 : unlikeB G = false) : checkN G = 8 := by simp [checkN, h, h1, h2, h3, h4]
theorem check_ruled {G : Gram} (h : manyB G = false) (h1 : formB G = true) (h2 : onceB G = true) (h3 : knownB G = true) (h4 : unlikeB G = true) (h5 : ruledB G = false) : checkN G = 9 := by simp [checkN, h, h1, h2, h3, h4, h5]
theorem check_all {G : Gram} (h : manyB G = false) (h1 : formB G = true) (h2 : onceB G = true) (h3 : knownB G = true) (h4 : unlikeB G = true) (h5 : ruledB G = true) : checkN G = 0 := by simp [checkN, h, h1, h2, h3, h4, h5]

set_option maxHeartbeats 4000000 in
theorem check_any (h : Sh) (G : Gram) (w : World) (k : GAt h G w) :
    Calls Tryz.prog 27 #[gv h G] w (Is (.int .i64 (checkN G)) w) := by
  have X := Lib.hid (Bx.start h G w 25)
  have M := Lib.hid (fun w1 (b : Below w.heap.size w w1) => many_any h G w1 (k.went b))
  have F := Lib.hid (fun w1 (b : Below w.heap.size w w1) => misnamed_any h G w1 (k.went b))
  have O := Lib.hid (fun w1 (b : Below w.heap.size w w1) => namedTwice_any h G w1 (k.went b))
  have K := Lib.hid (fun w1 (b : Below w.heap.size w w1) => misnumbered_any h G w1 (k.went b))
  have U := Lib.hid (fun w1 (b : Below w.heap.size w w1) => ruledTwice_any h G w1 (k.went b))
  have KG := Lib.hid k
  clear k
  unfold gv
  cases h0 : manyB G with
  | true =>
    have E := Lib.hid (check_many h0)
    rw [h0] at M
    clear h0
    go_enter Tryz.func27, Tryz.ntmps27
    go_wp2_with (first
      | (go_at_call 43; refine (M.out _ X.out.below).mono ?_; rintro e w1 ⟨rfl, hb⟩; have X := Lib.hid (X.out.went hb); obtain ⟨x0, x1, x2, x3⟩ := X.out.box; clear hb))
    go_ret
    exact ⟨int_of E.out, X.out.below⟩
  | false =>
    rw [h0] at M
    cases h1 : formB G with
    | false =>
      have E := Lib.hid (check_form h0 h1)
      rw [h1] at F
      clear h0 h1
      go_enter Tryz.func27, Tryz.ntmps27
      go_wp2_with (first
        | (go_at_call 43; refine (M.out _ X.out.below).mono ?_; rintro e w1 ⟨rfl, hb⟩; have X := Lib.hid (X.out.went hb); obtain ⟨x0, x1, x2, x3⟩ := X.out.box; clear hb)
        | (go_at_call 44; refine (F.out _ X.out.below).mono ?_; rintro e w1 ⟨rfl, hb⟩; have X := Lib.hid (X.out.went hb); obtain ⟨x0, x1, x2, x3⟩ := X.out.box; clear hb))
      go_ret
      exact ⟨int_of E.out, X.out.below⟩
    | true =>
      rw [h1] at F
      cases h2 : onceB G with
      | false =>
        have E := Lib.hid (check_once h0 h1 h2)
        rw [h2] at O
        clear h0 h1 h2
        go_enter Tryz.func27, Tryz.ntmps27
        go_wp2_with (first
          | (go_at_call 43; refine (M.out _ X.out.below).mono ?_; rintro e w1 ⟨rfl, hb⟩; have X := Lib.hid (X.out.went hb); obtain ⟨x0, x1, x2, x3⟩ := X.out.box; clear hb)
          | (go_at_call 44; refine (F.out _ X.out.below).mono ?_; rintro e w1 ⟨rfl, hb⟩; have X := Lib.hid (X.out.went hb); obtain ⟨x0, x1, x2, x3⟩ := X.out.box; clear hb)
          | (go_at_call 45; refine (O.out _ X.out.below).mono ?_; rintro e w1 ⟨rfl, hb⟩; have X := Lib.hid (X.out.went hb); obtain ⟨x0, x1, x2, x3⟩ := X.out.box; clear hb))
        go_ret
        exact ⟨int_of E.out, X.out.below⟩
      | true =>
        rw [h2] at O
        cases h3 : knownB G with
        | false =>
          have E := Lib.hid (check_known h0 h1 h2 h3)
          rw [h3] at K
          clear h0 h1 h2 h3
          go_enter Tryz.func27, Tryz.ntmps27
          go_wp2_with (first
            | (go_at_call 43; refine (M.out _ X.out.below).mono ?_; rintro e w1 ⟨rfl, hb⟩; have X := Lib.hid (X.out.went hb); obtain ⟨x0, x1, x2, x3⟩ := X.out.box; clear hb)
            | (go_at_call 44; refine (F.out _ X.out.below).mono ?_; rintro e w1 ⟨rfl, hb⟩; have X := Lib.hid (X.out.went hb); obtain ⟨x0, x1, x2, x3⟩ := X.out.box; clear hb)
            | (go_at_call 45; refine (O.out _ X.out.below).mono ?_; rintro e w1 ⟨rfl, hb⟩; have X := Lib.hid (X.out.went hb); obtain ⟨x0, x1, x2, x3⟩ := X.out.box; clear hb)
            | (go_at_call 46; refine (K.out _ X.out.below).mono ?_; rintro e w1 ⟨rfl, hb⟩; have X := Lib.hid (X.out.went hb); obtain ⟨x0, x1, x2, x3⟩ := X.out.box; clear hb))
          go_ret
          exact ⟨int_of E.out, X.out.below⟩
        | true =>
          rw [h3] at K
          cases h4 : unlikeB G with
          | false =>
            have E := Lib.hid (check_unlike h0 h1 h2 h3 h4)
            rw [h4] at U
            clear h0 h1 h2 h3 h4
            go_enter Tryz.func27, Tryz.ntmps27
            go_wp2_with (first
              | (go_at_call 43; refine (M.out _ X.out.below).mono ?_; rintro e w1 ⟨rfl, hb⟩; have X := Lib.hid (X.out.went hb); obtain ⟨x0, x1, x2, x3⟩ := X.out.box; clear hb)
              | (go_at_call 44; refine (F.out _ X.out.below).mono ?_; rintro e w1 ⟨rfl, hb⟩; have X := Lib.hid (X.out.went hb); obtain ⟨x0, x1, x2, x3⟩ := X.out.box; clear hb)
              | (go_at_call 45; refine (O.out _ X.out.below).mono ?_; rintro e w1 ⟨rfl, hb⟩; have X := Lib.hid (X.out.went hb); obtain ⟨x0, x1, x2, x3⟩ := X.out.box; clear hb)
              | (go_at_call 46; refine (K.out _ X.out.below).mono ?_; rintro e w1 ⟨rfl, hb⟩; have X := Lib.hid (X.out.went hb); obtain ⟨x0, x1, x2, x3⟩ := X.out.box; clear hb)
              | (go_at_call 47; refine (U.out _ X.out.below).mono ?_; rintro e w1 ⟨rfl, hb⟩; have X := Lib.hid (X.out.went hb); obtain ⟨x0, x1, x2, x3⟩ := X.out.box; clear hb))
            go_ret
            exact ⟨int_of E.out, X.out.below⟩
          | true =>
            rw [h4] at U
            have hr3 := (many_not h0).2.2
            have R := Lib.hid (fun w1 (b : Below w.heap.size w w1) => unruled_any h G w1 (KG.out.went b) (by omega))
            cases h5 : ruledB G with
            | false =>
              have E := Lib.hid (check_ruled h0 h1 h2 h3 h4 h5)
              rw [h5] at R
              clear h0 h1 h2 h3 h4 h5
              go_enter Tryz.func27, Tryz.ntmps27
              go_wp2_with (first
                | (go_at_call 43; refine (M.out _ X.out.below).mono ?_; rintro e w1 ⟨rfl, hb⟩; have X := Lib.hid (X.out.went hb); obtain ⟨x0, x1, x2, x3⟩ := X.out.box; clear hb)
                | (go_at_call 44; refine (F.out _ X.out.below).mono ?_; rintro e w1 ⟨rfl, hb⟩; have X := Lib.hid (X.out.went hb); obtain ⟨x0, x1, x2, x3⟩ := X.out.box; clear hb)
                | (go_at_call 45; refine (O.out _ X.out.below).mono ?_; rintro e w1 ⟨rfl, hb⟩; have X := Lib.hid (X.out.went hb); obtain ⟨x0, x1, x2, x3⟩ := X.out.box; clear hb)
                | (go_at_call 46; refine (K.out _ X.out.below).mono ?_; rintro e w1 ⟨rfl, hb⟩; have X := Lib.hid (X.out.went hb); obtain ⟨x0, x1, x2, x3⟩ := X.out.box; clear hb)
                | (go_at_call 47; refine (U.out _ X.out.below).mono ?_; rintro e w1 ⟨rfl, hb⟩; have X := Lib.hid (X.out.went hb); obtain ⟨x0, x1, x2, x3⟩ := X.out.box; clear hb)
                | (go_at_call 48; refine (R.out _ X.out.below).mono ?_; rintro e w1 ⟨rfl, hb⟩; have X := Lib.hid (X.out.went hb); obtain ⟨x0, x1, x2, x3⟩ := X.out.box; clear hb))
              go_ret
              exact ⟨int_of E.out, X.out.below⟩
            | true =>
              rw [h5] at R
              have E := Lib.hid (check_all h0 h1 h2 h3 h4 h5)
              clear h0 h1 h2 h3 h4 h5
              go_enter Tryz.func27, Tryz.ntmps27
              go_wp2_with (first
                | (go_at_call 43; refine (M.out _ X.out.below).mono ?_; rintro e w1 ⟨rfl, hb⟩; have X := Lib.hid (X.out.went hb); obtain ⟨x0, x1, x2, x3⟩ := X.out.box; clear hb)
                | (go_at_call 44; refine (F.out _ X.out.below).mono ?_; rintro e w1 ⟨rfl, hb⟩; have X := Lib.hid (X.out.went hb); obtain ⟨x0, x1, x2, x3⟩ := X.out.box; clear hb)
                | (go_at_call 45; refine (O.out _ X.out.below).mono ?_; rintro e w1 ⟨rfl, hb⟩; have X := Lib.hid (X.out.went hb); obtain ⟨x0, x1, x2, x3⟩ := X.out.box; clear hb)
                | (go_at_call 46; refine (K.out _ X.out.below).mono ?_; rintro e w1 ⟨rfl, hb⟩; have X := Lib.hid (X.out.went hb); obtain ⟨x0, x1, x2, x3⟩ := X.out.box; clear hb)
                | (go_at_call 47; refine (U.out _ X.out.below).mono ?_; rintro e w1 ⟨rfl, hb⟩; have X := Lib.hid (X.out.went hb); obtain ⟨x0, x1, x2, x3⟩ := X.out.box; clear hb)
                | (go_at_call 48; refine (R.out _ X.out.below).mono ?_; rintro e w1 ⟨rfl, hb⟩; have X := Lib.hid (X.out.went hb); obtain ⟨x0, x1, x2, x3⟩ := X.out.box; clear hb))
              go_ret
              exact ⟨int_of E.out, X.out.below⟩

theorem once_eq (G : Gram) : onceB G = decide (names G).Nodup := rfl

set_option maxHeartbeats 8000000 in
theorem rcheck_any (h : Sh) (G : Gram) (w : World) (k : GAt h G w) :
    Calls Tryz.prog 6 #[gv h G] w (Is (.int .i64 (checkN G)) w) := by
  have X := Lib.hid (Bx.start h G w 25)
  have M := Lib.hid (fun w1 (b : Below w.heap.size w w1) => rmany_any h G w1 (k.went b))
  have F := Lib.hid (fun w1 (b : Below w.heap.size w w1) => rform_any h G w1 (k.went b))
  have K := Lib.hid (fun w1 (b : Below w.heap.size w w1) => rknown_any h G w1 (k.went b))
  have U := Lib.hid (fun w1 (b : Below w.heap.size w w1) => runlike_any h G w1 (k.went b))
  have KG := Lib.hid k
  clear k
  unfold gv
  cases h0 : manyB G with
  | true =>
    have E := Lib.hid (check_many h0)
    rw [h0] at M
    clear h0
    go_enter Tryz.func6, Tryz.ntmps6
    go_wp2_with (go_at_call 20; refine (M.out _ X.out.below).mono ?_; rintro e w1 ⟨rfl, hb⟩; have X := Lib.hid (X.out.went hb); obtain ⟨x0, x1, x2, x3⟩ := X.out.box; clear hb)
    go_ret
    exact ⟨int_of E.out, X.out.below⟩
  | false =>
    rw [h0] at M
    obtain ⟨ht, hn, hr⟩ := many_not h0
    have NA := Lib.hid (fun w1 (b : Below w.heap.size w w1) => names_any h G w1 (KG.out.went b) (by omega))
    have N := Lib.hid (fun s w1 (b : Below w.heap.size w w1) => rof_any h G s w1 (KG.out.went b) (by omega))
    have hln : (names G).length ≤ 240 := by rw [names_length]; unfold top; omega
    have ON := Lib.hid (fun a c w1 (hR : Sep.Reads a ((names G).map .string) w1) (hc : (names G).length ≤ c) => once_any (names G) a c w1 hR hc (by omega))
    cases h1 : formB G with
    | false =>
      have E := Lib.hid (check_form h0 h1)
      rw [h1] at F
      clear h0 h1
      go_enter Tryz.func6, Tryz.ntmps6
      go_wp2_with (first
        | (go_at_call 20; refine (M.out _ X.out.below).mono ?_; rintro e w1 ⟨rfl, hb⟩; have X := Lib.hid (X.out.went hb); obtain ⟨x0, x1, x2, x3⟩ := X.out.box; clear hb)
        | (go_at_call 21; refine (F.out _ X.out.below).mono ?_; rintro e w1 ⟨rfl, hb⟩; have X := Lib.hid (X.out.went hb); obtain ⟨x0, x1, x2, x3⟩ := X.out.box; clear hb))
      go_ret
      exact ⟨int_of E.out, X.out.below⟩
    | true =>
      rw [h1] at F
      rw [← once_eq] at ON
      cases h2 : onceB G with
      | false =>
        have E := Lib.hid (check_once h0 h1 h2)
        rw [h2] at ON
        clear h0 h1 h2
        go_enter Tryz.func6, Tryz.ntmps6
        go_wp2_with (first
          | (go_at_call 20; refine (M.out _ X.out.below).mono ?_; rintro e w1 ⟨rfl, hb⟩; have X := Lib.hid (X.out.went hb); obtain ⟨x0, x1, x2, x3⟩ := X.out.box; clear hb)
          | (go_at_call 21; refine (F.out _ X.out.below).mono ?_; rintro e w1 ⟨rfl, hb⟩; have X := Lib.hid (X.out.went hb); obtain ⟨x0, x1, x2, x3⟩ := X.out.box; clear hb)
          | (go_at_call 23; refine (NA.out _ X.out.below).mono ?_; rintro e w2 ⟨a', c', rfl, hR, hcap, hb⟩; have HR := Lib.hid hR; have HC := Lib.hid hcap; clear hR hcap; have X := Lib.hid (X.out.went hb); obtain ⟨x0, x1, x2, x3⟩ := X.out.box; clear hb)
          | (go_at_call 22; refine (ON.out _ _ _ HR.out HC.out).mono ?_; rintro e w3 ⟨rfl, hb⟩; have X := Lib.hid (X.out.went hb); obtain ⟨x0, x1, x2, x3⟩ := X.out.box; clear hb))
        go_ret
        exact ⟨int_of E.out, X.out.below⟩
      | true =>
        rw [h2] at ON
        cases h3 : knownB G with
        | false =>
          have E := Lib.hid (check_known h0 h1 h2 h3)
          rw [h3] at K
          clear h0 h1 h2 h3
          go_enter Tryz.func6, Tryz.ntmps6
          go_wp2_with (first
            | (go_at_call 20; refine (M.out _ X.out.below).mono ?_; rintro e w1 ⟨rfl, hb⟩; have X := Lib.hid (X.out.went hb); obtain ⟨x0, x1, x2, x3⟩ := X.out.box; clear hb)
            | (go_at_call 21; refine (F.out _ X.out.below).mono ?_; rintro e w1 ⟨rfl, hb⟩; have X := Lib.hid (X.out.went hb); obtain ⟨x0, x1, x2, x3⟩ := X.out.box; clear hb)
            | (go_at_call 23; refine (NA.out _ X.out.below).mono ?_; rintro e w2 ⟨a', c', rfl, hR, hcap, hb⟩; have HR := Lib.hid hR; have HC := Lib.hid hcap; clear hR hcap; have X := Lib.hid (X.out.went hb); obtain ⟨x0, x1, x2, x3⟩ := X.out.box; clear hb)
            | (go_at_call 22; refine (ON.out _ _ _ HR.out HC.out).mono ?_; rintro e w3 ⟨rfl, hb⟩; have X := Lib.hid (X.out.went hb); obtain ⟨x0, x1, x2, x3⟩ := X.out.box; clear hb)
            | (go_at_call 24; refine (K.out _ X.out.below).mono ?_; rintro e w4 ⟨rfl, hb⟩; have X := Lib.hid (X.out.went hb); obtain ⟨x0, x1, x2, x3⟩ := X.out.box; clear hb))
          go_ret
          exact ⟨int_of E.out, X.out.below⟩
        | true =>
          rw [h3] at K
          cases h4 : unlikeB G with
          | false =>
            have E := Lib.hid (check_unlike h0 h1 h2 h3 h4)
            rw [h4] at U
            clear h0 h1 h2 h3 h4
            go_enter Tryz.func6, Tryz.ntmps6
            go_wp2_with (first
              | (go_at_call 20; refine (M.out _ X.out.below).mono ?_; rintro e w1 ⟨rfl, hb⟩; have X := Lib.hid (X.out.went hb); obtain ⟨x0, x1, x2, x3⟩ := X.out.box; clear hb)
              | (go_at_call 21; refine (F.out _ X.out.below).mono ?_; rintro e w1 ⟨rfl, hb⟩; have X := Lib.hid (X.out.went hb); obtain ⟨x0, x1, x2, x3⟩ := X.out.box; clear hb)
              | (go_at_call 23; refine (NA.out _ X.out.below).mono ?_; rintro e w2 ⟨a', c', rfl, hR, hcap, hb⟩; have HR := Lib.hid hR; have HC := Lib.hid hcap; clear hR hcap; have X := Lib.hid (X.out.went hb); obtain ⟨x0, x1, x2, x3⟩ := X.out.box; clear hb)
              | (go_at_call 22; refine (ON.out _ _ _ HR.out HC.out).mono ?_; rintro e w3 ⟨rfl, hb⟩; have X := Lib.hid (X.out.went hb); obtain ⟨x0, x1, x2, x3⟩ := X.out.box; clear hb)
              | (go_at_call 24; refine (K.out _ X.out.below).mono ?_; rintro e w4 ⟨rfl, hb⟩; have X := Lib.hid (X.out.went hb); obtain ⟨x0, x1, x2, x3⟩ := X.out.box; clear hb)
              | (go_at_call 25; refine (U.out _ X.out.below).mono ?_; rintro e w5 ⟨rfl, hb⟩; have X := Lib.hid (X.out.went hb); obtain ⟨x0, x1, x2, x3⟩ := X.out.box; clear hb))
            go_ret
            exact ⟨int_of E.out, X.out.below⟩
          | true =>
            rw [h4] at U
            have E0 := Lib.hid (check_all h0 h1 h2 h3 h4)
            have E9 := Lib.hid (check_ruled h0 h1 h2 h3 h4)
            clear h0 h1 h2 h3 h4
            go_enter Tryz.func6, Tryz.ntmps6
            go_wp2_with (first
              | (go_at_call 20; refine (M.out _ X.out.below).mono ?_; rintro e w1 ⟨rfl, hb⟩; have X := Lib.hid (X.out.went hb); obtain ⟨x0, x1, x2, x3⟩ := X.out.box; clear hb)
              | (go_at_call 21; refine (F.out _ X.out.below).mono ?_; rintro e w1 ⟨rfl, hb⟩; have X := Lib.hid (X.out.went hb); obtain ⟨x0, x1, x2, x3⟩ := X.out.box; clear hb)
              | (go_at_call 23; refine (NA.out _ X.out.below).mono ?_; rintro e w2 ⟨a', c', rfl, hR, hcap, hb⟩; have HR := Lib.hid hR; have HC := Lib.hid hcap; clear hR hcap; have X := Lib.hid (X.out.went hb); obtain ⟨x0, x1, x2, x3⟩ := X.out.box; clear hb)
              | (go_at_call 22; refine (ON.out _ _ _ HR.out HC.out).mono ?_; rintro e w3 ⟨rfl, hb⟩; have X := Lib.hid (X.out.went hb); obtain ⟨x0, x1, x2, x3⟩ := X.out.box; clear hb)
              | (go_at_call 24; refine (K.out _ X.out.below).mono ?_; rintro e w4 ⟨rfl, hb⟩; have X := Lib.hid (X.out.went hb); obtain ⟨x0, x1, x2, x3⟩ := X.out.box; clear hb)
              | (go_at_call 25; refine (U.out _ X.out.below).mono ?_; rintro e w5 ⟨rfl, hb⟩; have X := Lib.hid (X.out.went hb); obtain ⟨x0, x1, x2, x3⟩ := X.out.box; clear hb))
            have XL := X
            clear X M F K U NA ON HR HC KG
            go_loopw [3] (fun i wr => ∃ j : Nat, j ≤ G.nons.length ∧ i = .int .i64 j ∧ (∀ i, i < j → 0 < (ofL G ((G.terms.length : Int) + 1 + i)).length) ∧ Bx w h G wr) (fun i _ => G.nons.length - (intOf i).toNat)
            case atStart => exact ⟨0, Nat.zero_le _, rfl, fun _ h => absurd h (by omega), XL.out⟩
            case round =>
              clear XL
              obtain ⟨j, hj, rfl, hA, hX⟩ := hrel
              have A := Lib.hid hA
              have X := Lib.hid hX
              obtain ⟨x0, x1, x2, x3⟩ := hX.box
              clear hA hX
              by_cases hlt : j < G.nons.length
              · have NN := Lib.hid (N.out ((G.terms.length : Int) + 1 + j))
                have F3 := Lib.hid (ruled_fail (G := G) (k := j) hlt)
                have F4 := Lib.hid (fun (h0 : 0 < (ofL G ((G.terms.length : Int) + 1 + j)).length) i (hi : i < j + 1) => show 0 < (ofL G ((G.terms.length : Int) + 1 + i)).length by
                  by_cases e : i = j
                  · subst e; exact h0
                  · exact A.out i (by omega))
                generalize hL : ofL G ((G.terms.length : Int) + 1 + j) = L at NN F3 F4
                clear hL
                rcases L with _ | ⟨x, l⟩
                · have FR := Lib.hid (E9.out (F3.out (by simp)))
                  clear F3 F4
                  go_wp2_with (go_at_call 26; refine (NN.out _ X.out.below).mono ?_; rintro e w2 ⟨a', c', rfl, hr, hn, hb⟩; have X := Lib.hid (X.out.went hb); clear hb hr hn)
                  go_ret
                  exact ⟨int_of FR.out, X.out.below⟩
                · have FR := Lib.hid (F4.out (by simp))
                  clear F3 F4
                  go_wp2_with (go_at_call 26; refine (NN.out _ X.out.below).mono ?_; rintro e w2 ⟨a', c', rfl, hr, hn, hb⟩; have X := Lib.hid (X.out.went hb); clear hb hr hn)
                  go_roundw
                  case rel => exact ⟨j + 1, by omega, by go_num, FR.out, X.out⟩
                  case measure => simp [intOf]; omega
              · have FR := Lib.hid (E0.out (ruled_end A.out hlt))
                go_wp2
                go_ret
                exact ⟨int_of FR.out, X.out.below⟩

end Go.Proofs.YtkggpkbdekebcaaGreat.Gr
