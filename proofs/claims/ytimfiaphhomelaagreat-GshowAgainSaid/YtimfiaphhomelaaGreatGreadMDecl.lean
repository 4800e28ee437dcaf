/-
  The maker: a declaration. Condition: names fit a machine; a %start has a name.
-/
import Derived.Test.YtimfiaphhomelaaGreatGreadBegin
namespace Go.Proofs.YtimfiaphhomelaaGreat.Rd
open Go.RowKit Go.Maps
open Go.Proofs.YtimfiaphhomelaaGreat.Tk (Tok tcs cells cells_length cells_snoc Just info_tok cells_three_new)
set_option linter.unusedVariables false
set_option linter.unusedSimpArgs false

theorem namesM_cons (L : List ByteArray) (t : Tok) (r : List Tok) : namesM L (t :: r) = if It.isIn L t.s then .no 8 t.at_ else (putM L t).bind fun L' => namesM L' r := rfl

/-- The loop over names. -/
def NmLoop (m : Nat) (S : Nat → Prop) (lf : List ByteArray) (st : MSt) (names : List Tok) (x : Mo (List ByteArray)) (w : World) (g : Nat) (i : Value) (wr : World) : Prop :=
  ∃ j L T, j + g = names.length ∧ i = .int .i64 (j : Int) ∧ namesM L (names.drop j) = x ∧ MAt m T lf { st with L1 := L } wr ∧ Sep.Fr S w wr ∧ Sep.Ext T S w

set_option maxRecDepth 100000 in
set_option maxHeartbeats 8000000 in
theorem mdecl_any {m base : Nat} {S : Nat → Prop} {lf : List ByteArray} {st : MSt} (w : World) (h : MAt m S lf st w) (d : Decl) (nv : Value) (hd : ∀ w', Sep.Fr S w w' → Toks base d.names nv w') (hn : d.mark.k = 8 → d.names ≠ []) (hlen : d.names.length ≤ 10000) (hs : ∀ t ∈ d.names, t.s.size ≤ maxLen) :
    Calls Tryz.prog 53 #[.pointer (some ⟨m, 0, none⟩), declV d nv] w (MGave m S lf (declM lf st d) w) := by
  have hd0 := hd w (.refl _ _)
  obtain ⟨a, c, rfl⟩ := row_shape hd0
  have BX := Lib.hid (Gr.boxed w (.cells #[.int .i64 d.mark.k, .string d.mark.s, .int .i64 (d.mark.at_ : Int), .slice a d.names.length c] 90))
  unfold declM
  by_cases hk : d.mark.k = 8
  · rw [if_pos hk]
    have hne := hn hk
    have hk8 : (d.mark.k == 8) = true := by simpa using hk
    have BG := Lib.hid (begin_any _ (h.went BX.out) d _ (hd0.went BX.out) hne hlen (hs _ (by cases hq : d.names with | nil => exact absurd hq hne | cons t r => simp [headT])))
    have e : beginM lf st d = (if isEmp st.start = false then Mo.no 8 d.mark.at_ else if It.isIn lf (headT d.names).s = false then .no 9 (headT d.names).at_ else .ok { st with start := (headT d.names).s }) := rfl
    rw [← e]
    generalize beginM lf st d = x at BG
    clear e hd hd0 h hn hs hne hk
    generalize d.names.length = nn at *
    cases x with
    | ok st' =>
      go_enter Tryz.func53, Tryz.ntmps53
      go_wp2_with (go_at_call 83; refine BG.out.mono ?_; rintro e w1 ⟨rfl, T, g1, g2, g3⟩; have G := Lib.hid (And.intro g1 (And.intro g2 g3)); clear g1 g2 g3)
      go_end0
      exact ⟨rfl, T, G.out.1, fr_of BX.out G.out.2.1, G.out.2.2.at BX.out.size⟩
    | no e1 q =>
      go_enter Tryz.func53, Tryz.ntmps53
      go_wp2_with (go_at_call 83; refine BG.out.mono ?_; rintro e w1 ⟨rfl, g2⟩; have G := Lib.hid g2; clear g2)
      exact ⟨rfl, rfl, fr_of BX.out G.out⟩
  · rw [if_neg hk]
    have hk8 : (d.mark.k == 8) = false := by simpa using hk
    obtain ⟨x, hx⟩ : ∃ x, namesM st.L1 d.names = x := ⟨_, rfl⟩
    rw [hx]
    have HX := Lib.hid hx
    have H := Lib.hid h
    have HD := Lib.hid hd
    have HS := Lib.hid hs
    clear hx h hd hs hn hd0 hk
    have HNL := Lib.hid hlen
    generalize hnn : d.names.length = nn at *
    have HNN := Lib.hid hnn
    clear hnn
    go_enter Tryz.func53, Tryz.ntmps53
    go_wp2
    go_loopg [16] nn (fun g i wr => NmLoop m S lf st d.names x w g i wr)
    case atStart => exact ⟨0, st.L1, S, by rw [HNN.out]; omega, rfl, HX.out, H.out.went BX.out, Sep.Fr.of_below BX.out, .refl _ _⟩
    case round =>
      clear HX H
      obtain ⟨j, L, T, hj, rfl, hX, hA, hF, hE⟩ := hrel
      rw [HNN.out] at hj
      have F := Lib.hid hF
      have E := Lib.hid hE
      have A := Lib.hid hA
      have X := Lib.hid hX
      clear hA hF hE hX
      by_cases hlt : j < nn
      · have hj2 : j < d.names.length := by rw [HNN.out]; exact hlt
        obtain ⟨g, c', hv, k0, k1, k2⟩ := (HD.out _ F.out).get j hj2
        simp only [Value.slice.injEq] at hv
        have ha := hv.1
        clear hv
        subst ha
        have hst := HS.out _ (List.getElem_mem hj2)
        have hXX := X.out
        rw [List.drop_eq_getElem_cons hj2, namesM_cons] at hXX
        generalize d.names[j] = t at k0 k1 k2 hst hXX
        have DC := Lib.hid (fun w1 (hb : Below wr.heap.size wr w1) => declared_any w1 (A.out.went hb) t hst)
        have RF := Lib.hid (fun (k : Int) w1 => refuse_any t k w1)
        have b1 := Gr.boxed wr (.cells #[.int .i64 t.k, .string t.s, .int .i64 (t.at_ : Int)] 75)
        have B1 := Lib.hid b1
        have N := Lib.hid (Bk.new wr #[.int .i64 t.k, .string t.s, .int .i64 (t.at_ : Int)] 75 _ rfl)
        have hg : g < wr.heap.size := World.block_lt_of_cell? wr ⟨g, j * 3, none⟩ k0
        cases hi : It.isIn L t.s with
        | true =>
          simp only [hi, if_true] at DC hXX
          have X2 := Lib.hid hXX
          clear hi hXX b1 X
          go_wp2_with (first
            | (go_at_call 84; refine (DC.out _ B1.out).mono ?_; rintro e w1 ⟨rfl, hb⟩; have HB := Lib.hid (Gr.step B1.out hb); obtain ⟨x0, x1, x2, xf⟩ := (N.out.went hb).three; clear hb)
            | (go_at_call 85; refine (RF.out 8 _).mono ?_; rintro e w2 ⟨rfl, hb⟩; have HG := Lib.hid (Gr.step HB.out hb); clear hb))
          rw [← X2.out]
          exact ⟨rfl, rfl, fr_then F.out HG.out⟩
        | false =>
          simp only [hi] at DC
          rw [hi, if_neg (by decide)] at hXX
          obtain ⟨b1', n1, b2, p1, p2, S1, S2, D1, D2, hM⟩ := A.out
          have PA := Lib.hid (fun w1 (hb : Below wr.heap.size wr w1) => put_any w1 (hM.nm1.went hb) t hst)
          have MK := Lib.hid (fun w1 (hb : Below wr.heap.size wr w1) => hM.keep hb.size fun k hk _ => hb.block k hk)
          have hm := World.block_lt_of_cell? wr ⟨m, 0, none⟩ hM.c0
          have S1S := Lib.hid hM.s1
          clear hM hi b1 X
          dsimp only at PA
          cases hp : putM L t with
          | ok L2 =>
            rw [hp] at PA hXX
            have X2 := Lib.hid (show namesM L2 (d.names.drop (j + 1)) = x from hXX)
            clear hp hXX
            go_wp2_with (go_at_call 84; refine (DC.out _ B1.out).mono ?_; rintro e w1 ⟨rfl, hb⟩; have HB := Lib.hid (Gr.step B1.out hb); have HDD := Lib.hid (Gr.step (Gr.step B1.out hb) (Gr.drawn _)); obtain ⟨x0, x1, x2, xf⟩ := (N.out.went hb).three; have c2 := (MK.out _ (Gr.step B1.out hb)).c2; clear hb)
            go_region_with (go_at_call 86; refine (PA.out _ HDD.out).mono ?_; rintro e w2 ⟨rfl, T2, hT, hF2, hX2⟩; have G := Lib.hid ((MK.out _ HDD.out).put1 hT hF2 hX2); clear hT hF2 hX2)
            all_goals
              go_wp2
              obtain ⟨U, g1, g2, g3⟩ := G.out
              go_roundg (nn - (j + 1))
              case rel => exact ⟨j + 1, L2, U, by rw [HNN.out]; omega, by go_num, X2.out, g1, (fr_then F.out HDD.out).trans g2 E.out, E.out.trans (g3.at HDD.out.size) F.out.size⟩
              case measure => omega
          | no e1 q =>
            rw [hp] at PA hXX
            have X2 : Mo.no e1 q = x := hXX
            clear hp hXX
            subst X2
            go_wp2_with (go_at_call 84; refine (DC.out _ B1.out).mono ?_; rintro e w1 ⟨rfl, hb⟩; have HB := Lib.hid (Gr.step B1.out hb); have HDD := Lib.hid (Gr.step (Gr.step B1.out hb) (Gr.drawn _)); obtain ⟨x0, x1, x2, xf⟩ := (N.out.went hb).three; have c2 := (MK.out _ (Gr.step B1.out hb)).c2; clear hb)
            go_region_with (go_at_call 86; refine (PA.out _ HDD.out).mono ?_; rintro e w2 ⟨rfl, hF2⟩; refine dead (P := Tryz.prog) w ?_ ?_; go_wp2; exact ⟨rfl, rfl, (fr_then F.out HDD.out).trans (hF2.mono S1S.out) E.out⟩)
            all_goals trivial
      · have hend : d.names.drop j = [] := List.drop_eq_nil_of_le (by rw [HNN.out]; omega)
        have X2 := Lib.hid (show Mo.ok L = x by rw [← X.out, hend]; rfl)
        clear X hend
        go_wp2
        go_end0
        rw [← X2.out]
        exact ⟨rfl, T, A.out, F.out, E.out⟩

end Go.Proofs.YtimfiaphhomelaaGreat.Rd
