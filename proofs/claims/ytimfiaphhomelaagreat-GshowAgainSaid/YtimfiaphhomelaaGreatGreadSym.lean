/-
  The maker: a symbol of a right side; a %start; a declaration. Condition: names fit a machine.
-/
import Derived.Test.YtimfiaphhomelaaGreatGreadPut
namespace Go.Proofs.YtimfiaphhomelaaGreat.Rd
open Go.RowKit Go.Maps
open Go.Proofs.YtimfiaphhomelaaGreat.Tk (Tok tcs cells cells_length cells_snoc Just info_tok cells_three_new)
set_option linter.unusedVariables false
set_option linter.unusedSimpArgs false

/-- A new list of terminals, in the state. -/
def inL1 (st : MSt) (x : Mo (List ByteArray)) : Mo MSt := x.bind fun L => .ok { st with L1 := L }

set_option maxRecDepth 100000 in
set_option maxHeartbeats 4000000 in
theorem symbol_any {m : Nat} {S : Nat → Prop} {lf : List ByteArray} {st : MSt} (w : World) (h : MAt m S lf st w) (t : Tok) (i : Nat) (hi : i ≤ 100000) (hs : t.s.size ≤ maxLen) :
    Calls Tryz.prog 113 #[.pointer (some ⟨m, 0, none⟩), tokV t, .int .i64 (i : Int)] w (MGave m S lf (inL1 st (symM lf st.L1 t i)) w) := by
  have UK := Lib.hid (fun w1 (hb : Below w.heap.size w w1) => unknown_any w1 (h.went hb) t hs)
  have RF := Lib.hid (fun (k : Int) w1 => refuse_any t k w1)
  have BX := Lib.hid (Gr.boxed w (.cells #[.int .i64 t.k, .string t.s, .int .i64 (t.at_ : Int)] 75))
  have N := Lib.hid (Bk.new w #[.int .i64 t.k, .string t.s, .int .i64 (t.at_ : Int)] 75 _ rfl)
  have H := Lib.hid h
  have IN := Lib.hid h.inn
  clear h
  unfold symM
  cases hu : unkB st.L1 lf t with
  | true =>
    rw [hu] at UK
    clear hu
    go_enter Tryz.func113, Tryz.ntmps113
    go_wp2_with (first
      | (go_at_call 112; refine (UK.out _ BX.out).mono ?_; rintro e w1 ⟨rfl, hb⟩; have HB := Lib.hid (Gr.step BX.out hb); obtain ⟨x0, x1, x2, xf⟩ := (N.out.went hb).three; clear hb)
      | (go_at_call 85; refine (RF.out 9 _).mono ?_; rintro e w2 ⟨rfl, hb⟩; have HG := Lib.hid (Gr.step HB.out hb); clear hb))
    exact ⟨rfl, rfl, Sep.Fr.of_below HG.out⟩
  | false =>
    rw [hu] at UK
    clear hu
    simp only [Bool.false_eq_true, if_false]
    by_cases h8 : i = 8
    · subst h8
      go_enter Tryz.func113, Tryz.ntmps113
      go_wp2_with (first
        | (go_at_call 112; refine (UK.out _ BX.out).mono ?_; rintro e w1 ⟨rfl, hb⟩; have HB := Lib.hid (Gr.step BX.out hb); obtain ⟨x0, x1, x2, xf⟩ := (N.out.went hb).three; clear hb)
        | (go_at_call 85; refine (RF.out 7 _).mono ?_; rintro e w2 ⟨rfl, hb⟩; have HG := Lib.hid (Gr.step HB.out hb); clear hb))
      exact ⟨rfl, rfl, Sep.Fr.of_below HG.out⟩
    · rw [if_neg h8]
      have h8b : ((i : Int) == 8) = false := by rw [beq_eq_false_iff_ne]; omega
      by_cases hk : t.k = 2
      · rw [if_pos hk]
        have hkb : (t.k == 2) = true := by simpa using hk
        obtain ⟨b1, n1, b2, p1, p2, S1, S2, D1, D2, hM⟩ := H.out
        have PA := Lib.hid (fun w1 (hb : Below w.heap.size w w1) => put_any w1 (hM.nm1.went hb) t hs)
        have MK := Lib.hid (fun w1 (hb : Below w.heap.size w w1) => hM.keep hb.size fun k hk _ => hb.block k hk)
        have hm := World.block_lt_of_cell? w ⟨m, 0, none⟩ hM.c0
        have S1S := Lib.hid hM.s1
        clear h8 hk hM
        cases hp : putM st.L1 t with
        | ok L =>
          rw [hp] at PA
          clear hp
          go_enter Tryz.func113, Tryz.ntmps113
          go_wp2_with (go_at_call 112; refine (UK.out _ BX.out).mono ?_; rintro e w1 ⟨rfl, hb⟩; have HB := Lib.hid (Gr.step BX.out hb); have HD := Lib.hid (Gr.step (Gr.step BX.out hb) (Gr.drawn _)); obtain ⟨x0, x1, x2, xf⟩ := (N.out.went hb).three; have c2 := (MK.out _ (Gr.step BX.out hb)).c2; clear hb)
          go_region_with (go_at_call 86; refine (PA.out _ HD.out).mono ?_; rintro e w2 ⟨rfl, T, hT, hF, hX⟩; have G := Lib.hid ((MK.out _ HD.out).put1 hT hF hX); clear hT hF hX)
          all_goals
            go_wp2
            go_end0
            obtain ⟨T, g1, g2, g3⟩ := G.out
            exact ⟨rfl, T, g1, fr_of HD.out g2, g3.at HD.out.size⟩
        | no e1 q =>
          rw [hp] at PA
          clear hp
          go_enter Tryz.func113, Tryz.ntmps113
          go_wp2_with (go_at_call 112; refine (UK.out _ BX.out).mono ?_; rintro e w1 ⟨rfl, hb⟩; have HB := Lib.hid (Gr.step BX.out hb); have HD := Lib.hid (Gr.step (Gr.step BX.out hb) (Gr.drawn _)); obtain ⟨x0, x1, x2, xf⟩ := (N.out.went hb).three; have c2 := (MK.out _ (Gr.step BX.out hb)).c2; clear hb)
          go_region_with (go_at_call 86; refine (PA.out _ HD.out).mono ?_; rintro e w2 ⟨rfl, hF⟩; refine dead (P := Tryz.prog) w ⟨rfl, rfl, ?_⟩ ?_; exact fr_of HD.out (hF.mono S1S.out))
          all_goals trivial
      · rw [if_neg hk]
        have hkb : (t.k == 2) = false := by simpa using hk
        clear h8 hk
        go_enter Tryz.func113, Tryz.ntmps113
        go_wp2_with (go_at_call 112; refine (UK.out _ BX.out).mono ?_; rintro e w1 ⟨rfl, hb⟩; have HB := Lib.hid (Gr.step BX.out hb); obtain ⟨x0, x1, x2, xf⟩ := (N.out.went hb).three; clear hb)
        go_end0
        exact ⟨rfl, S, H.out.went HB.out, Sep.Fr.of_below HB.out, .refl _ _⟩

end Go.Proofs.YtimfiaphhomelaaGreat.Rd
