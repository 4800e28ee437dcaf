/-
  The plain answers of layer 10: join. Condition: the list of symbols is within a machine's reach.
-/
import Derived.Test.YtoipinnfmjaaaaaDoorLeastRAt
import Derived.Test.YtoipinnfmjaaaaaDoorLeastInv
namespace Go.Proofs.YtoipinnfmjaaaaaDoor.Le
open Go.RowKit Go.Maps
open Go.Proofs.YtoipinnfmjaaaaaDoor.Gr
open Go.Proofs.YtoipinnfmjaaaaaDoor.Rw (Bk IntsV row_shape)
set_option linter.unusedVariables false

/-- What the loop has behind k symbols. -/
def JT (T : Int → Ans) (l : List Int) (k : Nat) (lg : Bool) (X : List Int) : Prop := J T (l.take k) ≠ .none ∧ lg = farA (J T (l.take k)) ∧ (lg = false → X = wordA (J T (l.take k)))
theorem jt_zero (T : Int → Ans) (l : List Int) : JT T l 0 false [] := ⟨(fun h => by cases h), rfl, fun _ => rfl⟩
theorem jt_long {T : Int → Ans} {l : List Int} {k : Nat} {lg : Bool} {X : List Int} (hT : Bnd T) (h : JT T l k lg X) (hk : k < l.length) (hn : T l[k] ≠ .none) (hl : lg = true ∨ farA (T l[k]) = true ∨ 4096 < X.length + (wordA (T l[k])).length) : JT T l (k + 1) true X := by
  obtain ⟨h1, h2, h3⟩ := h
  unfold JT
  rw [j_take hT hk]
  generalize J T (l.take k) = a at *
  generalize T l[k] = b at *
  have e : putA 4096 a b = .far := by
    cases b with
    | none => exact absurd rfl hn
    | far => exact putA_fr h1
    | is y =>
      cases a with
      | none => exact absurd rfl h1
      | far => rfl
      | is x =>
        have e2 : X = x := h3 (by rw [h2]; rfl)
        subst e2
        refine putA_gt ?_
        rcases hl with h4 | h4 | h4
        · rw [h2] at h4; cases h4
        · cases h4
        · rw [List.length_append]
          exact Nat.not_le.2 h4
  rw [e]
  exact ⟨(fun h => by cases h), rfl, fun h => by cases h⟩
theorem jt_add {T : Int → Ans} {l : List Int} {k : Nat} {X : List Int} (hT : Bnd T) (h : JT T l k false X) (hk : k < l.length) (hn : T l[k] ≠ .none) (hf : farA (T l[k]) = false) (hl : ¬ 4096 < X.length + (wordA (T l[k])).length) : JT T l (k + 1) false (X ++ wordA (T l[k])) := by
  obtain ⟨h1, h2, h3⟩ := h
  unfold JT
  rw [j_take hT hk]
  generalize J T (l.take k) = a at *
  generalize T l[k] = b at *
  cases b with
  | none => exact absurd rfl hn
  | far => cases hf
  | is y =>
    cases a with
    | none => exact absurd rfl h1
    | far => cases h2
    | is x =>
      have e2 : X = x := h3 rfl
      subst e2
      have e : putA 4096 (.is X) (.is y) = .is (X ++ y) := putA_le (by rw [List.length_append]; exact Nat.not_lt.1 hl)
      rw [e]
      exact ⟨(fun h => by cases h), rfl, fun _ => rfl⟩
theorem jt_end {T : Int → Ans} {l : List Int} {k : Nat} {lg : Bool} {X : List Int} (h : JT T l k lg X) (hk : ¬ k < l.length) : hasA (J T l) = true ∧ farA (J T l) = lg ∧ wordA (J T l) = if lg = true then [] else X := by
  obtain ⟨h1, h2, h3⟩ := h
  rw [List.take_of_length_le (by omega)] at h1 h2 h3
  cases e : J T l with
  | none => exact absurd e h1
  | far =>
    rw [e] at h2
    exact ⟨rfl, h2.symm, by rw [h2]; rfl⟩
  | is x =>
    rw [e] at h2 h3
    refine ⟨rfl, h2.symm, ?_⟩
    rw [if_neg (by rw [h2]; exact fun h => by cases h)]
    exact (h3 h2).symm

/-- A list and two answers come back; nothing that was there is written. -/
def RJd (a : Ans) (w : World) (e : Ending) (w' : World) : Prop :=
  ∃ ad c, e = .returned (.tuple #[.slice ad (wordA a).length c, .bool (hasA a), .bool (farA a)]) ∧ Sep.Reads ad (ivs (wordA a)) w' ∧ New ad w ∧ Below w.heap.size w w'
theorem row_cap' {w : World} {base n c : Nat} {e : TypeId} {a : Option Addr} {xs : List Value} (h : w.ownsRow base e 1 (.slice a n c) n xs) : n ≤ c := by
  rcases h.2 with ⟨h1, h2⟩ | ⟨g, cap, cur, h1, _, _, h3, _⟩
  · omega
  · simp only [Value.slice.injEq] at h1
    omega
/-- .. within the slice's capacity. -/
def RJc (a : Ans) (w : World) (e : Ending) (w' : World) : Prop :=
  ∃ ad c, e = .returned (.tuple #[.slice ad (wordA a).length c, .bool (hasA a), .bool (farA a)]) ∧ Sep.Reads ad (ivs (wordA a)) w' ∧ New ad w ∧ Below w.heap.size w w' ∧ (wordA a).length ≤ c
def RJRel (T : Int → Ans) (l : List Int) (W : World) (v7 v8 v9 : Value) (w : World) : Prop :=
  ∃ (k : Nat) (lg : Bool) (X : List Int), k ≤ l.length ∧ v9 = .int .i64 k ∧ v8 = .bool lg ∧ IntsV W.heap.size X v7 w ∧ X.length ≤ 4096 ∧ JT T l k lg X ∧ Below W.heap.size W w

set_option maxRecDepth 100000 in
set_option maxHeartbeats 16000000 in
theorem rjoin_any2 (p q1 q2 q3 hi n : Nat) (T : Int → Ans) (f : Nat → Value) (l : List Int) (a : Option Addr) (c : Nat) (w : World) (h : RAt p q1 q2 q3 hi n T f w) (hR : Sep.Reads a (ivs l) w) (hl : l.length ≤ 17592186044416) :
    Calls Tryd.prog 38 #[.pointer (some ⟨p, 0, none⟩), .slice a l.length c] w (RJc (J T l) w) := by
  obtain ⟨i0, hii, hz0, hz1, hz2⟩ := info_parts info_int
  have RA := Lib.hid (fun w1 (b : Below w.heap.size w w1) => h.went b)
  have RR := Lib.hid (fun w1 (b : Below w.heap.size w w1) => Sep.Reads.below hR b (Nat.le_refl _))
  have TB := Lib.hid h.ok.bnd
  have TO := Lib.hid h.ok.out
  have hsm := h.small
  clear h hR
  go_enter Tryd.func38, Tryd.ntmps38
  go_wp2
  go_loopw [7, 8, 9] (fun v7 v8 v9 wr => RJRel T l w v7 v8 v9 wr) (fun _ _ i _ => l.length - (intOf i).toNat)
  case atStart => exact ⟨0, false, [], Nat.zero_le _, rfl, rfl, ⟨rfl, .inl ⟨rfl, rfl⟩⟩, Nat.zero_le _, jt_zero _ _, .refl _ _⟩
  case round =>
    obtain ⟨k, lg, X, hk, rfl, rfl, hO, hX, hJ, hB⟩ := hrel
    obtain ⟨xa, xc, rfl⟩ := row_shape hO
    have O := Lib.hid hO
    have JJ := Lib.hid hJ
    have B := Lib.hid hB
    have R := Lib.hid (RA.out _ hB)
    clear hO hJ hB
    by_cases hlt : k < l.length
    · obtain ⟨b, o, rfl, hcw⟩ := int_at (RR.out w (.refl _ _)) hlt
      have hc := cell_later B.out hcw
      have HCW := Lib.hid hcw
      clear hcw
      have i0' : (0 : Int) ≤ (k : Int) := by omega
      have i1' : (k : Int) < (l.length : Int) := by omega
      have NN := Lib.hid (fun e => sum_none (T := T) hlt e)
      have JL := Lib.hid (fun e1 e2 => jt_long TB.out JJ.out hlt e1 e2)
      have JA := Lib.hid (fun (e : lg = false) => jt_add TB.out (show JT T l k false X by rw [← e]; exact JJ.out) hlt)
      obtain ⟨y0, y1, y2, yf⟩ := R.out.box.three
      generalize l[k] = s at *
      by_cases hs : 0 ≤ s ∧ s < (n : Int)
      · obtain ⟨hs0, hsn⟩ := hs
        obtain ⟨j, rfl⟩ := Int.eq_ofNat_of_zero_le hs0
        have hjn : j < n := by omega
        have z2 := R.out.c2.at_ j hjn
        have z3 := R.out.c3.at_ j hjn
        have z1 := R.out.c1.at_ j hjn
        obtain ⟨ya, yc, hfj, hRy, _⟩ := R.out.word j hjn
        rw [hfj] at z1
        have Z1W := Lib.hid (show w.cell? ⟨q1, j, none⟩ = some (.slice ya (wordA (T (j : Int))).length yc) from by rw [← hfj]; exact (RA.out w (.refl _ _)).c1.at_ j hjn)
        have Y0W := Lib.hid ((RA.out w (.refl _ _)).box.three.1)
        have d0 : decide ((j : Int) < 0) = false := decide_eq_false (by omega)
        have d1 : decide (n ≤ j) = false := decide_eq_false (by omega)
        have hYl := wordA_le (TB.out (j : Int))
        clear hfj
        generalize hT : T (j : Int) = t at *
        clear hT
        cases hh : hasA t with
        | false =>
          have E := Lib.hid (NN.out (by cases t <;> first | rfl | cases hh))
          rw [hh] at z2
          clear hh
          go_wp2
          go_quiet (fail)
          go_wp2
          go_ret3
          rw [E.out]
          exact ⟨none, 0, rfl, .nil _ _, (fun x h => by cases h), Gr.step B.out (drawnN _ _), Nat.le_refl _⟩
        | true =>
          have HN := Lib.hid (show t ≠ .none from fun e => by subst e; cases hh)
          have hsum : IntKind.i64.wrap ((X.length : Int) + ((wordA t).length : Int)) = (X.length : Int) + ((wordA t).length : Int) := IntWalk.i64_in _ (by omega)
          rw [hh] at z2
          clear hh
          cases hf : farA t with
          | true =>
            have J1 := Lib.hid (JL.out HN.out (.inr (.inl hf)))
            rw [hf] at z3
            clear hf JL JA NN
            go_wp2
            go_quiet (fail)
            go_wp2
            go_quiet (fail)
            go_wp2
            go_roundw
            case rel => exact ⟨k + 1, true, X, by omega, by go_num, rfl, O.out.went (drawnN _ _), hX, J1.out, Gr.step B.out (drawnN _ _)⟩
            case measure => simp [intOf]; omega
          | false =>
            rw [hf] at z3
            by_cases hov : 4096 < X.length + (wordA t).length
            · have J1 := Lib.hid (JL.out HN.out (.inr (.inr hov)))
              have d2 : decide ((4096 : Int) < (X.length : Int) + ((wordA t).length : Int)) = true := decide_eq_true (by omega)
              clear hf JL JA NN hov
              go_wp2
              go_quiet (fail)
              go_wp2
              go_quiet (fail)
              go_wp2
              go_roundw
              case rel => exact ⟨k + 1, true, X, by omega, by go_num, rfl, O.out.went (drawnN _ _), hX, J1.out, Gr.step B.out (drawnN _ _)⟩
              case measure => simp [intOf]; omega
            · have d2 : decide ((4096 : Int) < (X.length : Int) + ((wordA t).length : Int)) = false := decide_eq_false (by omega)
              cases lg with
              | true =>
                have J1 := Lib.hid (JL.out HN.out (.inl rfl))
                clear hf JL JA NN hov
                go_wp2
                go_quiet (fail)
                go_wp2
                go_quiet (fail)
                go_wp2
                go_roundw
                case rel => exact ⟨k + 1, true, X, by omega, by go_num, rfl, O.out.went (drawnN _ _), hX, J1.out, Gr.step B.out (drawnN _ _)⟩
                case measure => simp [intOf]; omega
              | false =>
                have J1 := Lib.hid (JA.out rfl HN.out hf hov)
                have hXY : X.length + (wordA t).length ≤ 4096 := by omega
                clear hf JL JA NN hov
                generalize wordA t = Y at *
                go_wp2
                go_quiet (fail)
                go_wp2
                go_quiet (fail)
                have HQ := Lib.hid (show ∀ w', Below w.heap.size w w' → w'.cell? ⟨p, 0, none⟩ = some (.slice (some ⟨q1, 0, none⟩) n n) ∧ w'.cell? ⟨b, o + k, none⟩ = some (.int .i64 (j : Int)) ∧ w'.cell? ⟨q1, j, none⟩ = some (.slice ya Y.length yc) ∧ Below w.heap.size w w' from
                  fun w' hb => ⟨cell_later hb Y0W.out, cell_later hb HCW.out, cell_later hb Z1W.out, hb⟩)
                go_wp2
                clear y0 y1 y2 yf hc z1 z2 z3
                go_region_held3 (fun w' => w'.cell? ⟨p, 0, none⟩ = some (.slice (some ⟨q1, 0, none⟩) n n) ∧ w'.cell? ⟨b, o + k, none⟩ = some (.int .i64 (j : Int)) ∧ w'.cell? ⟨q1, j, none⟩ = some (.slice ya Y.length yc) ∧ Below w.heap.size w w')
                  (exact HQ.out _ (by first | assumption | exact Gr.step B.out (drawnN _ _) | exact Gr.step B.out (Gr.step (drawnN _ _) (drawn _))))
                  ((refine step_append_src _ (by rfl) _ _ 32 (by rfl) w.heap.size 3 i0 (.int .i64 0) 8 Tryd.underlying32 hii hz0 hz1 hz2 rfl (.slice xa X.length xc) X.length (ivs X) (by rfl) (O.out.went (by first | assumption | exact drawnN _ _ | exact Gr.step (drawnN _ _) (drawn _))) _ _ _ (ivs Y) (by rfl) (by simp [ivs]) (Sep.Reads.below hRy (by first | assumption | exact drawnN _ _ | exact Gr.step (drawnN _ _) (drawn _)) (Nat.le_refl _)) (by simp [ivs, iv, Value.oneCell']) (by unfold maxLen; omega) (by omega) (by first | exact (Gr.step B.out (by first | assumption | exact drawnN _ _ | exact Gr.step (drawnN _ _) (drawn _))).size) ?_; intro v4 w4 hown4 hg4 hl4; have k4 : Below w.heap.size w w4 := Below.grown (by first | assumption | exact Gr.step B.out (drawnN _ _) | exact Gr.step B.out (Gr.step (drawnN _ _) (drawn _))) hg4 (by first | exact (Gr.step B.out (drawnN _ _)).size | exact (Gr.step B.out (Gr.step (drawnN _ _) (drawn _))).size) (fun g hg => (World.ownsRow.lt O.out g hg).1)))
                have O4 := Lib.hid (show IntsV w.heap.size (X ++ Y) v4 w4 by unfold IntsV; rw [List.length_append, show ivs (X ++ Y) = ivs X ++ ivs Y by simp [ivs]]; exact hown4)
                clear hown4 hg4 hl4
                go_wp2
                go_roundw
                case rel => exact ⟨k + 1, false, X ++ Y, by omega, by go_num, rfl, O4.out, by rw [List.length_append]; omega, J1.out, k4⟩
                case measure => simp [intOf]; omega
      · have E := Lib.hid (NN.out (TO.out s hs))
        clear JL JA NN
        by_cases hs0 : s < 0
        · have d0 : decide (s < 0) = true := decide_eq_true hs0
          clear hs hs0
          go_wp2
          go_quiet (fail)
          go_wp2
          go_ret3
          rw [E.out]
          exact ⟨none, 0, rfl, .nil _ _, (fun x h => by cases h), Gr.step B.out (drawnN _ _), Nat.le_refl _⟩
        · obtain ⟨j, rfl⟩ := Int.eq_ofNat_of_zero_le (Int.not_lt.1 hs0)
          have d0 : decide ((j : Int) < 0) = false := decide_eq_false (by omega)
          have d1 : decide (n ≤ j) = true := decide_eq_true (by omega)
          clear hs hs0
          go_wp2
          go_quiet (fail)
          go_wp2
          go_ret3
          rw [E.out]
          exact ⟨none, 0, rfl, .nil _ _, (fun x h => by cases h), Gr.step B.out (drawnN _ _), Nat.le_refl _⟩
    · obtain ⟨e1, e2, e3⟩ := jt_end JJ.out hlt
      have E1 := Lib.hid e1
      have E2 := Lib.hid e2
      have E3 := Lib.hid e3
      clear e1 e2 e3
      cases lg with
      | true =>
        go_wp2
        go_ret3
        refine ⟨none, 0, ?_, ?_, (fun x h => by cases h), B.out, by rw [E3.out]; exact Nat.le_refl _⟩
        · rw [E1.out, E2.out, E3.out]
          rfl
        · rw [E3.out]
          exact .nil _ _
      | false =>
        go_wp2
        go_ret3
        have e4 : wordA (J T l) = X := E3.out
        refine ⟨xa, xc, ?_, ?_, Gr.row_new O.out (Nat.le_refl _), B.out, by rw [e4]; exact row_cap' O.out⟩
        · rw [E1.out, E2.out, e4]
          rfl
        · rw [e4]
          exact Sep.Reads.of_row O.out

theorem rjoin_any (p q1 q2 q3 hi n : Nat) (T : Int → Ans) (f : Nat → Value) (l : List Int) (a : Option Addr) (c : Nat) (w : World) (h : RAt p q1 q2 q3 hi n T f w) (hR : Sep.Reads a (ivs l) w) (hl : l.length ≤ 17592186044416) :
    Calls Tryd.prog 38 #[.pointer (some ⟨p, 0, none⟩), .slice a l.length c] w (RJd (J T l) w) :=
  (rjoin_any2 p q1 q2 q3 hi n T f l a c w h hR hl).mono fun _ _ ⟨ad, ac, h1, h2, h3, h4, _⟩ => ⟨ad, ac, h1, h2, h3, h4⟩

end Go.Proofs.YtoipinnfmjaaaaaDoor.Le
