/-
  Package least: the library's comparison of two lists of one length; lexical, and smaller. Condition: the lists are within a machine's reach.
-/
import Derived.Test.YtpfokebbpbigdaaLeastAt
import Derived.Test.YtpfokebbpbigdaaGramKnown
namespace Go.Proofs.Ytpfokebbpbigdaa.Le
open Go.RowKit Go.Maps
open Go.Proofs.Ytpfokebbpbigdaa.Gr (Gram Is step boxed cell_later drawn ivs iv int_at int_of bool_of)
set_option linter.unusedVariables false

/-- One value comes back; the world is as it was. -/
def Still (v : Value) (w : World) (e : Ending) (w' : World) : Prop := e = .returned v ∧ w = w'
def cmpI (x y : Int) : Int := if x < y then -1 else if y < x then 1 else 0

theorem nan_any (x : Int) (w : World) : Calls Try.prog 70 #[.int .i64 x] w (Still (.bool false) w) := by
  go_enter Try.func70, Try.ntmps70
  go_wp2
  go_ret
  exact ⟨bool_of (by simp), rfl⟩

set_option maxHeartbeats 4000000 in
theorem cmp_any (x y : Int) (w : World) : Calls Try.prog 61 #[.int .i64 x, .int .i64 y] w (Still (.int .i64 (cmpI x y)) w) := by
  by_cases h1 : x < y
  · have E := Lib.hid (show cmpI x y = -1 from if_pos h1)
    have d1 : decide (x < y) = true := decide_eq_true h1
    clear h1
    go_enter Try.func61, Try.ntmps61
    go_wp2_with (go_at_call 70; refine (nan_any _ _).mono ?_; rintro e w1 ⟨rfl, rfl⟩)
    go_ret
    exact ⟨int_of E.out, rfl⟩
  · have d1 : decide (x < y) = false := decide_eq_false h1
    by_cases h2 : y < x
    · have E := Lib.hid (show cmpI x y = 1 from by unfold cmpI; rw [if_neg h1, if_pos h2])
      have d2 : decide (y < x) = true := decide_eq_true h2
      clear h1 h2
      go_enter Try.func61, Try.ntmps61
      go_wp2_with (go_at_call 70; refine (nan_any _ _).mono ?_; rintro e w1 ⟨rfl, rfl⟩)
      go_ret
      exact ⟨int_of E.out, rfl⟩
    · have E := Lib.hid (show cmpI x y = 0 from by unfold cmpI; rw [if_neg h1, if_neg h2])
      have d2 : decide (y < x) = false := decide_eq_false h2
      clear h1 h2
      go_enter Try.func61, Try.ntmps61
      go_wp2_with (go_at_call 70; refine (nan_any _ _).mono ?_; rintro e w1 ⟨rfl, rfl⟩)
      go_ret
      exact ⟨int_of E.out, rfl⟩
theorem cmpI_eq {x y : Int} (h : x = y) : cmpI x y = 0 := by unfold cmpI; rw [if_neg (by omega), if_neg (by omega)]
theorem cmpI_ne {x y : Int} (h : x ≠ y) : cmpI x y ≠ 0 ∧ cmpI x y = if x < y then -1 else 1 := by
  unfold cmpI
  by_cases h1 : x < y
  · rw [if_pos h1, if_pos h1]
    exact ⟨by omega, rfl⟩
  · rw [if_neg h1, if_neg h1, if_pos (by omega)]
    exact ⟨by omega, rfl⟩

set_option maxHeartbeats 4000000 in
theorem compare_any (X Y : List Int) (a b : Option Addr) (c d : Nat) (w : World) (hX : Sep.Reads a (ivs X) w) (hY : Sep.Reads b (ivs Y) w) (hl : X.length = Y.length) (hm : X.length ≤ 100000) :
    Calls Try.prog 43 #[.slice a X.length c, .slice b Y.length d] w (Still (.int .i64 (cmpL X Y)) w) := by
  have HX := Lib.hid hX
  have HY := Lib.hid hY
  have HL := Lib.hid hl
  rw [← hl]
  clear hX hY hl
  go_enter Try.func43, Try.ntmps43
  go_wp2
  go_loop [11] (fun i => ∃ k : Nat, k ≤ X.length ∧ i = .int .i64 k ∧ SameTo X Y k) (fun i => X.length - (intOf i).toNat)
  case atStart => exact ⟨0, Nat.zero_le _, rfl, same_zero _ _⟩
  case round =>
    obtain ⟨k, hk, rfl, hS⟩ := hrel
    have S := Lib.hid hS
    clear hS
    by_cases hlt : k < X.length
    · have hlt2 : k < Y.length := by rw [← HL.out]; exact hlt
      obtain ⟨b1, o1, e1, hc1⟩ := int_at HX.out hlt
      obtain ⟨b2, o2, e2, hc2⟩ := int_at HY.out hlt2
      have NS := Lib.hid (fun he => same_step S.out hlt hlt2 he)
      have NE := Lib.hid (fun he => (cmp_at S.out hlt hlt2 he).trans (cmpI_ne he).2.symm)
      have d0 : decide (X.length ≤ k) = false := decide_eq_false (by omega)
      generalize X[k] = x at *
      generalize Y[k] = y at *
      subst e1 e2
      by_cases hxy : x = y
      · have S2 := Lib.hid (NS.out hxy)
        have CM := Lib.hid (fun w => cmp_any x y w)
        rw [cmpI_eq hxy] at CM
        clear hxy NS NE hlt2
        go_wp2_with (go_at_call 61; refine (CM.out _).mono ?_; rintro e w1 ⟨rfl, rfl⟩)
        go_round
        case rel => exact ⟨k + 1, by omega, by go_num, S2.out⟩
        case measure => simp [intOf]; omega
      · have E := Lib.hid (NE.out hxy)
        have hne := (cmpI_ne hxy).1
        have CM := Lib.hid (fun w => cmp_any x y w)
        clear hxy NS NE hlt2
        generalize cmpI x y = ci at *
        have hb : (ci != 0) = true := by simpa using hne
        clear hne
        go_wp2_with (go_at_call 61; refine (CM.out _).mono ?_; rintro e w1 ⟨rfl, rfl⟩)
        go_ret
        exact ⟨int_of E.out, rfl⟩
    · have E := Lib.hid (show cmpL X Y = 0 from by rw [same_end S.out hlt HL.out]; exact cmp_self Y)
      go_wp2
      go_ret
      exact ⟨int_of E.out, rfl⟩

set_option maxHeartbeats 4000000 in
theorem lexical_any (X Y : List Int) (a b : Option Addr) (c d : Nat) (w : World) (hX : Sep.Reads a (ivs X) w) (hY : Sep.Reads b (ivs Y) w) (hl : X.length = Y.length) (hm : X.length ≤ 100000) :
    Calls Try.prog 22 #[.slice a X.length c, .slice b Y.length d] w (Still (.int .i64 (cmpL X Y)) w) := by
  have C := Lib.hid (compare_any X Y a b c d w hX hY hl hm)
  clear hX hY hl
  go_enter Try.func22, Try.ntmps22
  go_wp2_with (go_at_call 43; refine C.out.mono ?_; rintro e w1 ⟨rfl, rfl⟩)
  go_ret
  exact ⟨rfl, rfl⟩

/-- How the program compares: by lexical. -/
abbrev lexV : Value := .func (.func 22) #[] #[]

set_option maxRecDepth 100000 in
set_option maxHeartbeats 4000000 in
theorem smaller_any (x : Option Addr) (s t : Ans) (a b : Option Addr) (c d : Nat) (w : World) (hX : Sep.Reads a (ivs (wordA s)) w) (hY : Sep.Reads b (ivs (wordA t)) w) (hs : Bd s) (ht : Bd t) :
    Calls Try.prog 44 #[.agg #[.pointer x, lexV], .agg #[.int .i64 (lenA s : Int), .slice a (wordA s).length c], .agg #[.int .i64 (lenA t : Int), .slice b (wordA t).length d]] w (Is (.bool (betterS s t)) w) := by
  have b1 := boxed w (.cells #[.pointer x, lexV] 49)
  have b2 := Gr.step b1 (boxed _ (.cells #[.int .i64 (lenA s : Int), .slice a (wordA s).length c] 60))
  have B3 := Lib.hid (Gr.step b2 (boxed _ (.cells #[.int .i64 (lenA t : Int), .slice b (wordA t).length d] 60)))
  have hs2 := wordA_le hs
  have ht2 := wordA_le ht
  clear b1 b2
  by_cases he : lenA s = lenA t
  · obtain ⟨e1, e2⟩ := better_eq hs ht he
    have E := Lib.hid ((cmp_lex e2).trans e1.symm)
    have C := Lib.hid (fun w1 (bb : Below w.heap.size w w1) => lexical_any (wordA s) (wordA t) a b c d w1 (hX.below bb (Nat.le_refl _)) (hY.below bb (Nat.le_refl _)) e2 (by omega))
    rw [he]
    rw [he] at B3
    generalize lenA t = n at *
    generalize cmpL (wordA s) (wordA t) = ci at *
    clear e1 e2 he hX hY hs ht
    generalize wordA s = X at *
    generalize wordA t = Y at *
    go_enter Try.func44, Try.ntmps44
    go_wp2_with (go_at_call 22; refine (C.out _ B3.out).mono ?_; rintro e w1 ⟨rfl, rfl⟩)
    go_ret
    exact ⟨bool_of E.out.symm, B3.out⟩
  · have E := Lib.hid (better_ne hs ht he)
    have hb : ((lenA s : Int) != (lenA t : Int)) = true := by simp; omega
    generalize lenA s = n at *
    generalize lenA t = m at *
    generalize wordA s = X at *
    generalize wordA t = Y at *
    clear he hX hY hs ht
    go_enter Try.func44, Try.ntmps44
    go_wp2
    go_ret
    exact ⟨bool_of E.out, B3.out⟩

end Go.Proofs.Ytpfokebbpbigdaa.Le
