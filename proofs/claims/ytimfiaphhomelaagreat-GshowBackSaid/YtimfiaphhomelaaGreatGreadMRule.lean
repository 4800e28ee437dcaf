/-
  The maker: a rule. Condition: its names are of at most 10000 bytes, its right sides and their symbols at most 10000.
-/
import Derived.Test.YtimfiaphhomelaaGreatGreadSide
namespace Go.Proofs.YtimfiaphhomelaaGreat.Rd
open Go.RowKit Go.Maps
open Go.Proofs.YtimfiaphhomelaaGreat.Tk (Tok tcs cells cells_length cells_snoc Just info_tok cells_three_new)
set_option linter.unusedVariables false
set_option linter.unusedSimpArgs false

theorem four_at {α : Type} (f : α → List Value) (hf : ∀ x, (f x).length = 4) (L : List α) (j : Nat) (hj : j < L.length) (i : Nat) (hi : i < 4) : (L.flatMap f)[j * 4 + i]? = (f L[j])[i]? := by
  induction L generalizing j with
  | nil => simp at hj
  | cons t T ih =>
    rw [List.flatMap_cons]
    cases j with
    | zero => rw [List.getElem?_append_left (by rw [hf]; omega)]; simp
    | succ j =>
      rw [List.getElem?_append_right (by rw [hf]; omega), hf, show (j + 1) * 4 + i - 4 = j * 4 + i by omega, ih j (by simpa using hj)]
      simp

theorem sc_length (x : Side × Value) : (sc x).length = 4 := rfl
theorem rc_length (x : Rul × Value) : (rc x).length = 4 := rfl
theorem dc_length (x : Decl × Value) : (dc x).length = 4 := rfl

/-- A row of four cells an element: an element's cells. -/
theorem row4_at {α : Type} {base : Nat} {e : TypeId} (f : α → List Value) (hf : ∀ x, (f x).length = 4) {L : List α} {v : Value} {w : World} (h : w.ownsRow base e 4 v L.length (L.flatMap f)) (j : Nat) (hj : j < L.length) :
    ∃ g c, v = .slice (some ⟨g, 0, none⟩) L.length c ∧ base ≤ g ∧ g < w.heap.size ∧ ∀ i u, i < 4 → (f L[j])[i]? = some u → w.cell? ⟨g, j * 4 + i, none⟩ = some u := by
  have hlt := h.lt
  rcases h.2 with ⟨_, h0⟩ | ⟨g, cap, cur, rfl, _⟩
  · omega
  · have hc := World.ownsRow.cells h (g := g) rfl
    refine ⟨g, cap, rfl, (hlt g rfl).1, (hlt g rfl).2, fun i u hi hu => ?_⟩
    have := hc (j * 4 + i) u ((four_at f hf L j hj i hi).trans hu)
    rwa [WideShapes.add_plain, Nat.zero_add] at this

/-- A right side of a row, at its place; its symbols stay where its blocks do. -/
theorem SidesH.get {lo hi : Nat} {S : List Side} {v : Value} {w : World} (h : SidesH lo hi S v w) (j : Nat) (hj : j < S.length) : ∃ g c u, v = .slice (some ⟨g, 0, none⟩) S.length c ∧
    w.cell? ⟨g, j * 4, none⟩ = some (.int .i64 S[j].first.k) ∧ w.cell? ⟨g, j * 4 + 1, none⟩ = some (.string S[j].first.s) ∧ w.cell? ⟨g, j * 4 + 2, none⟩ = some (.int .i64 (S[j].first.at_ : Int)) ∧ w.cell? ⟨g, j * 4 + 3, none⟩ = some u ∧
    ∀ w', (∀ g, lo ≤ g → g < hi → g < w.heap.size → w'.heap[g]? = w.heap[g]?) → Toks lo S[j].syms u w' := by
  obtain ⟨L, rfl, h2, h3, h4, h5, h6⟩ := h
  have hj' : j < L.length := by simpa using hj
  obtain ⟨g, c, hv, _, _, hc⟩ := row4_at sc sc_length h2 j hj'
  refine ⟨g, c, L[j].2, by rw [hv, List.length_map], ?_, ?_, ?_, ?_, fun w' hw => ?_⟩
  · rw [List.getElem_map]; exact hc 0 _ (by omega) rfl
  · rw [List.getElem_map]; exact hc 1 _ (by omega) rfl
  · rw [List.getElem_map]; exact hc 2 _ (by omega) rfl
  · exact hc 3 _ (by omega) rfl
  · rw [List.getElem_map]
    have hm := List.getElem_mem hj'
    exact Sep.ownsRow_at (h3 _ hm) fun g hg => hw g ((h3 _ hm).lt g hg).1 (h6 _ hm g hg) ((h3 _ hm).lt g hg).2

/-- What a source's parts must not outgrow. -/
def SideOk (s : Side) : Prop := s.syms.length ≤ 10000 ∧ s.first.s.size ≤ 10000 ∧ ∀ t ∈ s.syms, t.s.size ≤ 10000
def RulOk (R : Rul) : Prop := R.left.s.size ≤ 10000 ∧ R.sides.length ≤ 10000 ∧ ∀ s ∈ R.sides, SideOk s

/-- A rule's value. -/
abbrev ruleV (R : Rul) (sv : Value) : Value := .agg #[.int .i64 R.left.k, .string R.left.s, .int .i64 (R.left.at_ : Int), sv]

theorem sidesM_cons (lf : List ByteArray) (left : Tok) (st : MSt) (s : Side) (r : List Side) : sidesM lf left st (s :: r) = (sideM lf left st s).bind fun st' => sidesM lf left st' r := rfl

/-- The loop over right sides, from the world behind the rule's box. -/
def SiLoop (m : Nat) (S : Nat → Prop) (lf : List ByteArray) (left : Tok) (sides : List Side) (x : Mo MSt) (W : World) (g : Nat) (i : Value) (wr : World) : Prop :=
  ∃ j st T, j + g = sides.length ∧ i = .int .i64 (j : Int) ∧ sidesM lf left st (sides.drop j) = x ∧ MAt m T lf st wr ∧ Sep.Fr S W wr ∧ Sep.Ext T S W

/-- Behind the rule's name. -/
def RMid (m : Nat) (S : Nat → Prop) (lf : List ByteArray) (st : MSt) (W wx : World) : Prop := ∃ T, MAt m T lf st wx ∧ Sep.Fr S W wx ∧ Sep.Ext T S W

set_option maxRecDepth 100000 in
set_option maxHeartbeats 8000000 in
theorem mrule_any {m lo hi : Nat} {S : Nat → Prop} {lf : List ByteArray} {st : MSt} (w : World) (h : MAt m S lf st w) (R : Rul) (sv : Value) (hd : SidesH lo hi R.sides sv w) (hS : ∀ k, S k → hi ≤ k) (hhi : hi ≤ w.heap.size) (hok : RulOk R) :
    Calls Tryz.prog 54 #[.pointer (some ⟨m, 0, none⟩), ruleV R sv] w (MGave m S lf (ruleM lf st R) w) := by
  obtain ⟨hl, hlen, hsides⟩ := hok
  obtain ⟨a, c, rfl⟩ := hd.sides.len
  have b1 := Gr.boxed w (.cells #[.int .i64 R.left.k, .string R.left.s, .int .i64 (R.left.at_ : Int), .slice a R.sides.length c] 94)
  have B1 := Lib.hid b1
  have hm := h.lt
  have BK := Lib.hid (Bk.new w #[.int .i64 R.left.k, .string R.left.s, .int .i64 (R.left.at_ : Int), .slice a R.sides.length c] 94 _ rfl)
  have DC := Lib.hid (fun w1 (hb : Below w.heap.size w w1) => declared_any w1 (h.went hb) R.left (by unfold maxLen; omega))
  have RF := Lib.hid (fun (k : Int) w1 => refuse_any R.left k w1)
  have IN := Lib.hid h.inn
  unfold ruleM
  cases hi1 : It.isIn st.L1 R.left.s with
  | true =>
    rw [hi1] at DC
    clear hi1 h hd hS hsides b1
    generalize R.sides.length = nn at *
    go_enter Tryz.func54, Tryz.ntmps54
    go_wp2_with (first
      | (go_at_call 84; refine (DC.out _ B1.out).mono ?_; rintro e w1 ⟨rfl, hb⟩; have HB := Lib.hid (Gr.step B1.out hb); obtain ⟨x0, x1, x2, x3, xf⟩ := (BK.out.went hb).four; have hs1 : w.heap.size < w1.heap.size := (BK.out.went hb).lt; clear hb)
      | (go_at_call 85; refine (RF.out 8 _).mono ?_; rintro e w2 ⟨rfl, hb⟩; have HG := Lib.hid (Gr.step HB.out hb); clear hb))
    exact ⟨rfl, rfl, Sep.Fr.of_below HG.out⟩
  | false =>
    rw [hi1] at DC
    clear hi1
    simp only [Bool.false_eq_true, if_false]
    obtain ⟨b1', n1, b2, p1, p2, S1, S2, D1, D2, hM⟩ := h
    have PA := Lib.hid (fun w1 (hb : Below w.heap.size w w1) => put_any w1 (hM.nm2.went hb) R.left (by unfold maxLen; omega))
    have MK := Lib.hid (fun w1 (hb : Below w.heap.size w w1) => hM.keep hb.size fun k hk _ => hb.block k hk)
    have S2S := Lib.hid hM.s2
    clear hM
    cases hp : putM st.L2 R.left with
    | no e1 q =>
      rw [hp] at PA
      clear hp hd hS hsides b1
      generalize R.sides.length = nn at *
      go_enter Tryz.func54, Tryz.ntmps54
      go_wp2_with (go_at_call 84; refine (DC.out _ B1.out).mono ?_; rintro e w1 ⟨rfl, hb⟩; have HB := Lib.hid (Gr.step B1.out hb); have HD := Lib.hid (Gr.step (Gr.step B1.out hb) (Gr.drawn _)); obtain ⟨x0, x1, x2, x3, xf⟩ := (BK.out.went hb).four; have c3 := (MK.out _ (Gr.step B1.out hb)).c3; have hs1 : w.heap.size < w1.heap.size := (BK.out.went hb).lt; clear hb)
      go_region_with (go_at_call 86; refine (PA.out _ HD.out).mono ?_; rintro e w2 ⟨rfl, hF⟩; refine dead (P := Tryz.prog) w ⟨rfl, rfl, ?_⟩ ?_; exact fr_of HD.out (hF.mono S2S.out))
      all_goals trivial
    | ok L2 =>
      rw [hp] at PA
      clear hp
      obtain ⟨x, hx⟩ : ∃ x, sidesM lf R.left { st with L2 := L2 } R.sides = x := ⟨_, rfl⟩
      have e0 : ((Mo.ok L2).bind fun L => sidesM lf R.left { st with L2 := L } R.sides) = x := hx
      rw [e0]
      clear e0
      have HX := Lib.hid hx
      have HSD := Lib.hid hsides
      have HH := Lib.hid hd
      have SS := Lib.hid hS
      have hlen' := hlen
      clear hx hsides hd hS
      generalize hnn : R.sides.length = nn at *
      have HNN := Lib.hid hnn
      clear hnn
      have FB := Lib.hid (show Sep.Fr S (w.alloc (.cells #[.int .i64 R.left.k, .string R.left.s, .int .i64 (R.left.at_ : Int), .slice a nn c] 94)) (w.alloc (.cells #[.int .i64 R.left.k, .string R.left.s, .int .i64 (R.left.at_ : Int), .slice a nn c] 94)) from .refl _ _)
      have INW := Lib.hid (show Sep.Inn S (w.alloc (.cells #[.int .i64 R.left.k, .string R.left.s, .int .i64 (R.left.at_ : Int), .slice a nn c] 94)) from IN.out.le b1.size)
      clear b1
      go_enter Tryz.func54, Tryz.ntmps54
      go_wp2_with (go_at_call 84; refine (DC.out _ B1.out).mono ?_; rintro e w1 ⟨rfl, hb⟩; have FD := Lib.hid (fr_then FB.out (Gr.step hb (Gr.drawn _))); have HD := Lib.hid (Gr.step (Gr.step B1.out hb) (Gr.drawn _)); obtain ⟨x0, x1, x2, x3, xf⟩ := (BK.out.went hb).four; have c3 := (MK.out _ (Gr.step B1.out hb)).c3; have hs1 : w.heap.size < w1.heap.size := (BK.out.went hb).lt; clear hb)
      go_cut [] (fun wx => RMid m S lf { st with L2 := L2 } (w.alloc (.cells #[.int .i64 R.left.k, .string R.left.s, .int .i64 (R.left.at_ : Int), .slice a nn c] 94)) wx)
      case first =>
        go_region_with (go_at_call 86; refine (PA.out _ HD.out).mono ?_; rintro e w2 ⟨rfl, T2, hT, hF2, hX2⟩; have G := Lib.hid ((MK.out _ HD.out).put2 hT hF2 hX2); clear hT hF2 hX2)
        all_goals
          go_wp2
          go_meet
          case rel =>
            obtain ⟨U, g1, g2, g3⟩ := G.out
            exact ⟨U, g1, FD.out.trans g2 fun k hk => .inl hk, g3.at FD.out.size⟩
      case rest =>
        clear x0 x1 x2 x3 xf c3 FB FD HD MK PA DC RF
        have HL0 := Lib.hid (show w.heap.size < (w.alloc (.cells #[.int .i64 R.left.k, .string R.left.s, .int .i64 (R.left.at_ : Int), .slice a nn c] 94)).heap.size from BK.out.lt)
        have NB := Lib.hid (show ¬ S w.heap.size from fun hk => by have := IN.out _ hk; omega)
        have HHW := Lib.hid (HH.out.at fun g _ hg _ => B1.out.block g (by omega))
        have HIW := Lib.hid (show hi ≤ (w.alloc (.cells #[.int .i64 R.left.k, .string R.left.s, .int .i64 (R.left.at_ : Int), .slice a nn c] 94)).heap.size from Nat.le_trans hhi B1.out.size)
        obtain ⟨T0, k1, k2, k3⟩ := hcut
        have K1 := Lib.hid k1
        have K2 := Lib.hid k2
        have K3 := Lib.hid k3
        generalize hW : (w.alloc (.cells #[.int .i64 R.left.k, .string R.left.s, .int .i64 (R.left.at_ : Int), .slice a nn c] 94)) = W at *
        clear k1 k2 k3 hW
        have FIN := Lib.hid (show ∀ w', Sep.Fr S W w' → Sep.Fr S w w' from fun w' hF => fr_of B1.out hF)
        have EIN := Lib.hid (show ∀ T, Sep.Ext T S W → Sep.Ext T S w from fun T hE => hE.at B1.out.size)
        obtain ⟨z0, z1, z2, z3, zf⟩ := (BK.out.fr K2.out NB.out).four
        have hwc := (BK.out.fr K2.out NB.out).lt
        clear B1 HH IN
        go_wp2
        go_loopg [23] nn (fun g i wr => SiLoop m S lf R.left R.sides x W g i wr)
        case atStart => exact ⟨0, _, T0, by rw [HNN.out]; omega, rfl, HX.out, K1.out, K2.out, K3.out⟩
        case round =>
          clear HX K1 K2 K3 z0 z1 z2 z3 zf hwc
          obtain ⟨j, st1, T, hj, rfl, hX, hA, hF, hE⟩ := hrel
          rw [HNN.out] at hj
          have F := Lib.hid hF
          have E := Lib.hid hE
          have A := Lib.hid hA
          have X := Lib.hid hX
          clear hA hF hE hX
          by_cases hlt : j < nn
          · have hj2 : j < R.sides.length := by rw [HNN.out]; exact hlt
            have HR := HHW.out.at (w' := wr) fun g _ hg hl => F.out.block g hl fun hk => by have := SS.out _ hk; omega
            obtain ⟨g, c', u, hv, k0, k1, k2, k3, kT⟩ := HR.get j hj2
            clear HR
            simp only [Value.slice.injEq] at hv
            have ha := hv.1
            clear hv
            subst ha
            obtain ⟨o1, o2, o3⟩ := HSD.out _ (List.getElem_mem hj2)
            have hXX := X.out
            rw [List.drop_eq_getElem_cons hj2, sidesM_cons] at hXX
            generalize R.sides[j] = s at k0 k1 k2 k3 kT o1 o2 o3 hXX
            obtain ⟨a3, c3, rfl⟩ := row_shape (kT wr fun _ _ _ _ => rfl)
            have b1 := Gr.boxed wr (.cells #[.int .i64 s.first.k, .string s.first.s, .int .i64 (s.first.at_ : Int), .slice a3 s.syms.length c3] 122)
            have hFb := fr_then F.out b1
            have B2 := Lib.hid b1
            have SC := Lib.hid (side_any (base := lo) _ (A.out.went b1) R.left s (.slice a3 s.syms.length c3) (fun w' hF' => kT w' fun g h1 h2 h3 => (hF'.block g (Nat.lt_of_lt_of_le h3 b1.size) (fun hk => by
              rcases E.out g hk with h4 | h4
              · have := SS.out _ h4; omega
              · have := HIW.out; omega)).trans (b1.block g h3)) o1 hl o2 o3)
            have N := Lib.hid (Bk.new wr #[.int .i64 s.first.k, .string s.first.s, .int .i64 (s.first.at_ : Int), .slice a3 s.syms.length c3] 122 _ rfl)
            have hg : g < wr.heap.size := World.block_lt_of_cell? wr ⟨g, j * 4, none⟩ k0
            obtain ⟨z0, z1, z2, z3, zf⟩ := (BK.out.fr F.out NB.out).four
            have hwl := (BK.out.fr F.out NB.out).lt
            clear b1 X kT o1 o2 o3 hFb
            generalize s.syms.length = n3 at *
            cases hp : sideM lf R.left st1 s with
            | ok st2 =>
              rw [hp] at SC hXX
              have X2 := Lib.hid (show sidesM lf R.left st2 (R.sides.drop (j + 1)) = x from hXX)
              clear hp hXX
              go_wp2_with (go_at_call 87; refine SC.out.mono ?_; rintro e w5 ⟨rfl, T2, g1, g2, g3⟩; have G1 := Lib.hid g1; have G2 := Lib.hid g2; have G3 := Lib.hid g3; clear g1 g2 g3)
              go_roundg (nn - (j + 1))
              case rel => exact ⟨j + 1, st2, T2, by rw [HNN.out]; omega, by go_num, X2.out, G1.out, (fr_then F.out B2.out).trans G2.out E.out, E.out.trans (G3.out.at B2.out.size) F.out.size⟩
              case measure => omega
            | no e1 q =>
              rw [hp] at SC hXX
              have X2 : Mo.no e1 q = x := hXX
              clear hp hXX
              subst X2
              go_wp2_with (go_at_call 87; refine SC.out.mono ?_; rintro e w5 ⟨rfl, g2⟩; have G2 := Lib.hid g2; clear g2)
              exact ⟨rfl, rfl, FIN.out _ ((fr_then F.out B2.out).trans G2.out E.out)⟩
          · have hend : R.sides.drop j = [] := List.drop_eq_nil_of_le (by rw [HNN.out]; omega)
            have X2 := Lib.hid (show Mo.ok st1 = x by rw [← X.out, hend]; rfl)
            clear X hend
            go_wp2
            go_end0
            rw [← X2.out]
            exact ⟨rfl, T, A.out, FIN.out _ F.out, EIN.out _ E.out⟩

end Go.Proofs.YtimfiaphhomelaaGreat.Rd
