/-
  The plain answers of layer 11: Empty, First, Line, Follow. Condition: the sets are those of a grammar, or nil; a list is within a machine's reach.
-/
import Derived.Test.YtoipinnfmjaaaaaGreatDoorFirstROf
import Derived.Test.YtoipinnfmjaaaaaGreatDoorFirstTell
namespace Go.Proofs.YtoipinnfmjaaaaaGreatDoor.Fr
open Go.RowKit Go.Maps
open Go.Proofs.YtoipinnfmjaaaaaGreatDoor.Gr
open Go.Proofs.YtoipinnfmjaaaaaGreatDoor.Fi
open Go.Proofs.YtoipinnfmjaaaaaGreatDoor.Bt (Keeps)
open Go.Proofs.YtoipinnfmjaaaaaGreatDoor.Rw (Bk row_shape)
set_option linter.unusedVariables false

theorem lst_out {P : Int → Bool} {n : Nat} (h : ∀ t, P t = false) : lst P n = [] := lst_none fun i _ => h i
theorem frow_none {t n : Nat} {C : Int → Bool} {F B : Int → Int → Bool} (hT : TOk t n C F B) {x : Int} (hx : ¬ (0 ≤ x ∧ x < (n : Int))) (i : Int) : F x i = false := by
  cases e : F x i with
  | false => rfl
  | true => exact absurd (hT.f2 x i e) hx
theorem brow_none {t n : Nat} {C : Int → Bool} {F B : Int → Int → Bool} (hT : TOk t n C F B) {x : Int} (hx : ¬ ((t : Int) < x ∧ x < (n : Int))) (i : Int) : B x i = false := by
  cases e : B x i with
  | false => rfl
  | true => exact absurd (hT.b2 x i e) hx
theorem can_none {t n : Nat} {C : Int → Bool} {F B : Int → Int → Bool} (hT : TOk t n C F B) {x : Int} (hx : ¬ (0 ≤ x ∧ x < (n : Int))) : C x = false := by
  cases e : C x with
  | false => rfl
  | true => exact absurd (hT.c x e) hx

set_option maxHeartbeats 2000000 in
theorem rempty_any {nl : Bool} {v : Value} {h : Sh} {G : Gram} {C : Int → Bool} {F B : Int → Int → Bool} (w : World) (k : WS nl v h G C F B w) (hT : nl = false → TOk G.terms.length (top G + 1) C F B) (x : Int) :
    Calls Tryz.prog 10 #[v, .int .i64 x] w (Is (.bool (C x)) w) := by
  rcases k with ⟨h1, rfl, rfl, rfl, rfl⟩ | ⟨h1, D, p, q1, q2, k1, k2, rfl, hR⟩
  · have IC := Lib.hid (in_nil x w)
    clear hT
    go_enter Tryz.func10, Tryz.ntmps10
    go_wp2_with (go_at_call 30; refine IC.out.mono ?_; rintro e w1 ⟨rfl, rfl⟩)
    go_ret
    exact ⟨rfl, .refl _ _⟩
  · have T := Lib.hid (hT h1)
    have IC := Lib.hid (in_at w hR x)
    obtain ⟨y0, y1, y2, y3, y4, y5, y6⟩ := seven hR.box
    have h4 := hR.n4
    by_cases hx : 0 ≤ x ∧ x < ((top G + 1 : Nat) : Int)
    · obtain ⟨s, rfl⟩ : ∃ s : Nat, x = (s : Int) := ⟨x.toNat, by omega⟩
      have hs : s < top G + 1 := by omega
      have ze : w.cell? ⟨D .e, s, none⟩ = some (.bool (C (s : Int))) := (hR.fam.at_ .e trivial).at_ s hs
      rw [show Fi.symB (top G + 1) (s : Int) = true from decide_eq_true hx] at IC
      clear hR hT hx
      generalize top G + 1 = n at *
      go_enter Tryz.func10, Tryz.ntmps10
      go_wp2_with (go_at_call 30; refine IC.out.mono ?_; rintro e w1 ⟨rfl, rfl⟩)
      go_ret
      exact ⟨rfl, .refl _ _⟩
    · have E := Lib.hid (can_none T.out hx)
      rw [show Fi.symB (top G + 1) x = false from decide_eq_false hx] at IC
      clear hR hT hx
      go_enter Tryz.func10, Tryz.ntmps10
      go_wp2_with (go_at_call 30; refine IC.out.mono ?_; rintro e w1 ⟨rfl, rfl⟩)
      go_ret
      exact ⟨by rw [E.out]; rfl, .refl _ _⟩

set_option maxHeartbeats 2000000 in
theorem rfirst_any {nl : Bool} {v : Value} {h : Sh} {G : Gram} {C : Int → Bool} {F B : Int → Int → Bool} (w : World) (k : WS nl v h G C F B w) (hT : nl = false → TOk G.terms.length (top G + 1) C F B) (x : Int) :
    Calls Tryz.prog 13 #[v, .int .i64 x] w (Listed (lst (F x) (G.terms.length + 1)) w) := by
  rcases k with ⟨h1, rfl, rfl, rfl, rfl⟩ | ⟨h1, D, p, q1, q2, k1, k2, rfl, hR⟩
  · have IC := Lib.hid (in_nil x w)
    rw [lst_false]
    clear hT
    go_enter Tryz.func13, Tryz.ntmps13
    go_wp2_with (go_at_call 30; refine IC.out.mono ?_; rintro e w1 ⟨rfl, rfl⟩)
    go_ret
    exact ⟨none, 0, rfl, .nil _ _, (fun x h => by cases h), .refl _ _⟩
  · have T := Lib.hid (hT h1)
    have IC := Lib.hid (in_at w hR x)
    obtain ⟨y0, y1, y2, y3, y4, y5, y6⟩ := seven hR.box
    have h4 := hR.n4
    by_cases hx : 0 ≤ x ∧ x < ((top G + 1 : Nat) : Int)
    · obtain ⟨s, rfl⟩ : ∃ s : Nat, x = (s : Int) := ⟨x.toNat, by omega⟩
      have hs : s < top G + 1 := by omega
      have z5 := hR.begins s hs
      have LC := Lib.hid (list_any (F (s : Int)) (D (.f s)) (G.terms.length + 1) (G.terms.length + 1) w (hR.fam.at_ (.f s) hs) (by have := hR.tn; omega))
      rw [show Fi.symB (top G + 1) (s : Int) = true from decide_eq_true hx] at IC
      clear hR hT hx
      generalize top G + 1 = n at *
      go_enter Tryz.func13, Tryz.ntmps13
      go_wp2_with (first
        | (go_at_call 30; refine IC.out.mono ?_; rintro e w1 ⟨rfl, rfl⟩)
        | (go_at_call 33; refine LC.out.mono ?_; rintro e w2 ⟨la, lc, rfl, hl⟩; have LL := Lib.hid hl; clear hl))
      go_ret
      exact ⟨la, lc, rfl, LL.out⟩
    · have E := Lib.hid (lst_out (n := G.terms.length + 1) (frow_none T.out hx))
      rw [show Fi.symB (top G + 1) x = false from decide_eq_false hx] at IC
      clear hR hT hx
      go_enter Tryz.func13, Tryz.ntmps13
      go_wp2_with (go_at_call 30; refine IC.out.mono ?_; rintro e w1 ⟨rfl, rfl⟩)
      go_ret
      rw [E.out]
      exact ⟨none, 0, rfl, .nil _ _, (fun x h => by cases h), .refl _ _⟩

set_option maxRecDepth 100000 in
set_option maxHeartbeats 4000000 in
theorem rfollow_any {nl : Bool} {v : Value} {h : Sh} {G : Gram} {C : Int → Bool} {F B : Int → Int → Bool} (W0 w : World) (kg : GAt h G W0) (hb0 : Below W0.heap.size W0 w) (k : WS nl v h G C F B w) (hT : nl = false → TOk G.terms.length (top G + 1) C F B) (x : Int) :
    Calls Tryz.prog 15 #[v, .int .i64 x] w (Listed (lst (B x) (G.terms.length + 1)) w) := by
  obtain ⟨a1, c1, a2, c2, a3, c3⟩ := h
  rcases k with ⟨h1, rfl, rfl, rfl, rfl⟩ | ⟨h1, D, p, q1, q2, k1, k2, rfl, hR⟩
  · have IC := Lib.hid (in_nil x w)
    rw [lst_false]
    clear hT kg
    go_enter Tryz.func15, Tryz.ntmps15
    go_wp2_with (go_at_call 30; refine IC.out.mono ?_; rintro e w1 ⟨rfl, rfl⟩)
    go_ret
    exact ⟨none, 0, rfl, .nil _ _, (fun x h => by cases h), .refl _ _⟩
  · have T := Lib.hid (hT h1)
    have IC := Lib.hid (in_at w hR x)
    have NC := Lib.hid (rnon_any ⟨a1, c1, a2, c2, a3, c3⟩ G x w (kg.went hb0))
    obtain ⟨y0, y1, y2, y3, y4, y5, y6⟩ := seven hR.box
    try dsimp only at y0 y1 y2 y3
    have h4 := hR.n4
    have htp : top G = G.terms.length + G.nons.length := rfl
    have NI := nonB_iff (G := G) (s := x)
    unfold gv at NC
    dsimp only at NC
    by_cases hx : 0 ≤ x ∧ x < ((top G + 1 : Nat) : Int)
    · obtain ⟨s, rfl⟩ : ∃ s : Nat, x = (s : Int) := ⟨x.toNat, by omega⟩
      have hs : s < top G + 1 := by omega
      have HR := Lib.hid (fun w1 (b : Below w.heap.size w w1) => hR.went b)
      have LC := Lib.hid (fun w1 (b : Below w.heap.size w w1) => list_any (B (s : Int)) (D (.g s)) (G.terms.length + 1) (G.terms.length + 1) w1 ((hR.went b).fam.at_ (.g s) hs) (by have := hR.tn; omega))
      rw [show Fi.symB (top G + 1) (s : Int) = true from decide_eq_true hx] at IC
      cases hn : nonB G (s : Int) with
      | true =>
        rw [hn] at NC
        clear hR hT hx NI htp hn kg hb0
        generalize top G + 1 = n at *
        go_enter Tryz.func15, Tryz.ntmps15
        go_wp2_with (first
          | (go_at_call 30; refine IC.out.mono ?_; rintro e w1 ⟨rfl, rfl⟩)
          | (go_at_call 35; refine NC.out.mono ?_; rintro e w2 ⟨rfl, hb⟩; have B2 := Lib.hid hb; have R2 := HR.out _ hb; have z6 := R2.behind s hs; clear hb y0 y1 y2 y3 y4 y5 y6; obtain ⟨y0, y1, y2, y3, y4, y5, y6⟩ := seven R2.box; clear R2)
          | (go_at_call 33; refine (LC.out _ B2.out).mono ?_; rintro e w3 ⟨la, lc, rfl, hl1, hl2, hl3⟩; have LL := Lib.hid (And.intro hl1 (And.intro hl2 hl3)); clear hl1 hl2 hl3))
        go_ret
        exact ⟨la, lc, rfl, LL.out.1, fun x hx => Nat.le_trans B2.out.size (LL.out.2.1 x hx), Gr.step B2.out LL.out.2.2⟩
      | false =>
        have E := Lib.hid (lst_out (n := G.terms.length + 1) (brow_none T.out (x := (s : Int)) (fun h => by
          have : nonB G (s : Int) = true := NI.2 (by omega)
          rw [hn] at this
          cases this)))
        rw [hn] at NC
        clear hR hT hx NI htp hn kg hb0 LC HR
        generalize top G + 1 = n at *
        go_enter Tryz.func15, Tryz.ntmps15
        go_wp2_with (first
          | (go_at_call 30; refine IC.out.mono ?_; rintro e w1 ⟨rfl, rfl⟩)
          | (go_at_call 35; refine NC.out.mono ?_; rintro e w2 ⟨rfl, hb⟩; have B2 := Lib.hid hb; clear hb))
        go_ret
        rw [E.out]
        exact ⟨none, 0, rfl, .nil _ _, (fun x h => by cases h), B2.out⟩
    · have E := Lib.hid (lst_out (n := G.terms.length + 1) (brow_none T.out (x := x) (fun h => hx (by omega))))
      rw [show Fi.symB (top G + 1) x = false from decide_eq_false hx] at IC
      clear hR hT hx NI htp kg hb0 NC
      go_enter Tryz.func15, Tryz.ntmps15
      go_wp2_with (go_at_call 30; refine IC.out.mono ?_; rintro e w1 ⟨rfl, rfl⟩)
      go_ret
      rw [E.out]
      exact ⟨none, 0, rfl, .nil _ _, (fun x h => by cases h), .refl _ _⟩

set_option maxRecDepth 100000 in
set_option maxHeartbeats 4000000 in
theorem rline_any {nl : Bool} {v : Value} {h : Sh} {G : Gram} {C : Int → Bool} {F B : Int → Int → Bool} (w : World) (k : WS nl v h G C F B w) (hT : nl = false → TOk G.terms.length (top G + 1) C F B) (L : List Int) (a : Option Addr) (c : Nat) (hR : Sep.Reads a (ivs L) w) (hL : LOk L c) :
    Calls Tryz.prog 17 #[v, .slice a L.length c] w (Lined (lst (lineB C F L) (G.terms.length + 1)) (!nl && allC C L) w) := by
  rcases k with ⟨rfl, rfl, rfl, rfl, rfl⟩ | ⟨rfl, D, p, q1, q2, k1, k2, rfl, hRt⟩
  · have e : lst (lineB (fun _ => false) (fun _ _ => false) L) (G.terms.length + 1) = [] := lst_none fun i _ => lineB_false _ _
    rw [e]
    clear hT hR hL
    go_enter Tryz.func17, Tryz.ntmps17
    go_wp2
    go_ret2
    exact ⟨none, 0, rfl, .nil _ _, (fun x h => by cases h), .refl _ _⟩
  · have BC := Lib.hid (begins_at w hRt (hT rfl) L a c hR hL)
    have htn := hRt.tn
    have hn4 := hRt.n4
    have LC := Lib.hid (fun d w1 (b : BRow d (G.terms.length + 1) (rw' (lineB C F L)) w1) => list_any (lineB C F L) d (G.terms.length + 1) (G.terms.length + 1) w1 b (by omega))
    unfold BegEnd at BC
    clear hT hRt hR hL
    generalize allC C L = al at *
    rw [Bool.not_false, Bool.true_and]
    go_enter Tryz.func17, Tryz.ntmps17
    go_wp2_with (first
      | (go_at_call 26; refine BC.out.mono ?_; rintro e w1 ⟨d, rfl, hr1, _, hb⟩; have B1 := Lib.hid hb; have R1 := Lib.hid hr1; clear hb hr1)
      | (go_at_call 33; refine (LC.out _ _ R1.out).mono ?_; rintro e w3 ⟨la, lc, rfl, hl1, hl2, hl3⟩; have LL := Lib.hid (And.intro hl1 (And.intro hl2 hl3)); clear hl1 hl2 hl3))
    go_ret2
    exact ⟨la, lc, rfl, LL.out.1, fun x hx => Nat.le_trans B1.out.size (LL.out.2.1 x hx), Gr.step B1.out LL.out.2.2⟩

end Go.Proofs.YtoipinnfmjaaaaaGreatDoor.Fr
