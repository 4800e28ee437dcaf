/-
  The plain answers of layer 10: better, Line, Length. Condition: lists are within a machine's reach.
-/
import Derived.Test.YtpfokebbpbigdaaLeastRJoin
namespace Go.Proofs.Ytpfokebbpbigdaa.Le
open Go.RowKit Go.Maps
open Go.Proofs.Ytpfokebbpbigdaa.Gr
open Go.Proofs.Ytpfokebbpbigdaa.Rw (Bk IntsV row_shape)
set_option linter.unusedVariables false

set_option maxRecDepth 100000 in
set_option maxHeartbeats 8000000 in
theorem rbetter_any (p q1 q2 q3 hi n : Nat) (T : Int → Ans) (f : Nat → Value) (j : Nat) (a : Ans) (xa : Option Addr) (xc : Nat) (w : World) (h : RAt p q1 q2 q3 hi n T f w) (hj : j < n) (ha : a ≠ .none) (hb : Bd a) (hX : Sep.Reads xa (ivs (wordA a)) w) :
    Calls Try.prog 25 #[.pointer (some ⟨p, 0, none⟩), .int .i64 (j : Int), .slice xa (wordA a).length xc, .bool (farA a)] w (Is (.bool (betterS a (T (j : Int)))) w) := by
  have hsm := h.small
  obtain ⟨y0, y1, y2, yf⟩ := h.box.three
  have z1 := h.c1.at_ j hj
  have z2 := h.c2.at_ j hj
  have z3 := h.c3.at_ j hj
  obtain ⟨ya, yc, hfj, hRy, _⟩ := h.word j hj
  rw [hfj] at z1
  have hY := h.ok.bnd (j : Int)
  clear hfj h
  generalize T (j : Int) = t at *
  cases t with
  | none =>
    have E := Lib.hid (show betterS a .none = true by cases a <;> first | rfl | exact absurd rfl ha)
    dsimp only [hasA, farA] at z2 z3
    clear hX hRy
    generalize farA a = fa at *
    go_enter Try.func25, Try.ntmps25
    go_wp2
    go_ret
    exact ⟨bool_of E.out, .refl _ _⟩
  | far =>
    dsimp only [hasA, farA] at z2 z3
    clear hX hRy
    cases a with
    | none => exact absurd rfl ha
    | far =>
      dsimp only [farA, wordA, betterS]
      go_enter Try.func25, Try.ntmps25
      go_wp2
      go_ret
      exact ⟨rfl, .refl _ _⟩
    | is x =>
      dsimp only [farA, wordA, betterS]
      go_enter Try.func25, Try.ntmps25
      go_wp2
      go_ret
      exact ⟨rfl, .refl _ _⟩
  | is y =>
    dsimp only [hasA, farA, wordA] at z1 z2 z3 hRy
    cases a with
    | none => exact absurd rfl ha
    | far =>
      dsimp only [farA, wordA, betterS]
      clear hX hRy
      go_enter Try.func25, Try.ntmps25
      go_wp2
      go_ret
      exact ⟨rfl, .refl _ _⟩
    | is x =>
      have hx := hb x rfl
      have hy := hY y rfl
      dsimp only [farA, wordA, betterS]
      have L := Lib.hid (rless_any x y xa ya xc yc w hX hRy (by omega) (by omega))
      clear hX hRy
      go_enter Try.func25, Try.ntmps25
      go_wp2_with (go_at_call 45; refine L.out.mono ?_; rintro e w1 ⟨rfl, hb⟩; have B1 := Lib.hid hb; clear hb)
      go_ret
      exact ⟨rfl, B1.out⟩

theorem has_far (a : Ans) : isA a = (hasA a && !farA a) := by cases a <;> rfl

set_option maxRecDepth 100000 in
set_option maxHeartbeats 8000000 in
theorem rline_any (nl : Bool) (v : Value) (T : Int → Ans) (l : List Int) (a : Option Addr) (c : Nat) (w : World) (h : RVAt nl v T w) (hR : Sep.Reads a (ivs l) w) (hl : l.length ≤ 17592186044416) :
    Calls Try.prog 12 #[v, .slice a l.length c] w (Lined (lineA nl T l) w) := by
  rcases h with ⟨rfl, rfl, rfl⟩ | ⟨rfl, p, q1, q2, q3, hi, n, f, rfl, h⟩
  · clear hR
    go_enter Try.func12, Try.ntmps12
    go_wp2
    go_ret2
    exact ⟨none, 0, rfl, .nil _ _, .refl _ _⟩
  · have JC := Lib.hid (rjoin_any p q1 q2 q3 hi n T f l a c w h hR hl)
    have E := Lib.hid (show lineA false T l = J T l from if_neg (by decide))
    rw [E.out]
    clear h hR E
    generalize J T l = j at *
    have EB := Lib.hid (has_far j)
    cases hh : hasA j <;> cases hf : farA j
    all_goals
      have EH := Lib.hid hh
      have EF := Lib.hid hf
      unfold RJd at JC
      rw [hh, hf] at JC
      clear hh hf
      go_enter Try.func12, Try.ntmps12
      go_wp2_with (go_at_call 24; refine JC.out.mono ?_; rintro e w1 ⟨ad, ac, rfl, hR, hN, hb⟩; have R1 := Lib.hid hR; have B1 := Lib.hid hb; clear hR hN hb)
      go_ret2
      exact ⟨ad, ac, tuple_of (by rw [EB.out, EH.out, EF.out]; rfl), R1.out, B1.out⟩

set_option maxRecDepth 100000 in
set_option maxHeartbeats 8000000 in
theorem rlength_any (nl : Bool) (v : Value) (T : Int → Ans) (s : Int) (w : World) (h : RVAt nl v T w) :
    Calls Try.prog 14 #[v, .int .i64 s] w (Is (.int .i64 (telA (T s))) w) := by
  rcases h with ⟨rfl, rfl, rfl⟩ | ⟨rfl, p, q1, q2, q3, hi, n, f, rfl, h⟩
  · dsimp only [telA]
    go_enter Try.func14, Try.ntmps14
    go_wp2
    go_ret
    exact ⟨rfl, .refl _ _⟩
  · obtain ⟨y0, y1, y2, yf⟩ := h.box.three
    have hsm := h.small
    by_cases hs : 0 ≤ s ∧ s < (n : Int)
    · obtain ⟨hs0, hsn⟩ := hs
      obtain ⟨j, rfl⟩ := Int.eq_ofNat_of_zero_le hs0
      have hj : j < n := by omega
      have z1 := h.c1.at_ j hj
      have z2 := h.c2.at_ j hj
      have z3 := h.c3.at_ j hj
      obtain ⟨ya, yc, hfj, _, _⟩ := h.word j hj
      rw [hfj] at z1
      have d0 : decide ((j : Int) < 0) = false := decide_eq_false (by omega)
      have d1 : decide (n ≤ j) = false := decide_eq_false (by omega)
      clear hfj h
      generalize T (j : Int) = t at *
      cases t
      all_goals
        dsimp only [hasA, farA, wordA, telA] at z1 z2 z3 ⊢
        go_enter Try.func14, Try.ntmps14
        go_wp2
        go_ret
        exact ⟨rfl, .refl _ _⟩
    · rw [h.ok.out s hs]
      dsimp only [telA]
      clear h
      by_cases hs0 : s < 0
      · have d0 : decide (s < 0) = true := decide_eq_true hs0
        clear hs hs0
        go_enter Try.func14, Try.ntmps14
        go_wp2
        go_ret
        exact ⟨rfl, .refl _ _⟩
      · obtain ⟨j, rfl⟩ := Int.eq_ofNat_of_zero_le (Int.not_lt.1 hs0)
        have d0 : decide ((j : Int) < 0) = false := decide_eq_false (by omega)
        have d1 : decide (n ≤ j) = true := decide_eq_true (by omega)
        clear hs hs0
        go_enter Try.func14, Try.ntmps14
        go_wp2
        go_ret
        exact ⟨rfl, .refl _ _⟩

end Go.Proofs.Ytpfokebbpbigdaa.Le
