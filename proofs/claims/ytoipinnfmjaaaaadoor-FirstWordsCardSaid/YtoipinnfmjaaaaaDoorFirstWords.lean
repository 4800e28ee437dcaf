/-
  The walk of the statement on least words: a symbol's least word begins with what the symbol begins with; it is empty just if the symbol can be empty. Condition: the library's table in math/bits holds its numbers.
-/
import Derived.Test.YtoipinnfmjaaaaaDoorFirstRules
import Derived.Test.YtoipinnfmjaaaaaDoorFirstWord
import Derived.Test.YtoipinnfmjaaaaaDoorLeastROf
namespace Go.Proofs.YtoipinnfmjaaaaaDoor.Fi
open Go.RowKit Go.Maps
open Go.Proofs.YtoipinnfmjaaaaaDoor.Gr
open Go.Proofs.YtoipinnfmjaaaaaDoor.Bt (Tab)
open Go.Proofs.YtoipinnfmjaaaaaDoor.Rw (Bk)
open Go.Proofs.YtoipinnfmjaaaaaDoor.Le (RVAt LinedC lineA isA wordA OkS Cls Ans isA_of nilB ansT)
set_option linter.unusedVariables false

theorem empty_draw {I : Ix → Prop} {P D : Ix → Nat} {v : Value} {t n : Nat} {C : Int → Bool} {F B : Int → Int → Bool} {O : Nat → Bool} (w : World) (h : VS false I P D v t n C F B O w) (hC : Rng C n) (x : Int) (hx : x ≤ 9223372036854775807) :
    Calls Tryd.prog 12 #[v, .int .i64 x] w (Bt.Draws (.bool (C x)) w) := by
  rcases h with ⟨h1, _⟩ | ⟨_, p, q1, q2, rfl, h⟩
  · cases h1
  · have H := Lib.hid (Bt.has_any w (.at_ (h.fam.at_ .e h.ie)) x hx)
    rw [show Bt.has (tv C F B O .e) x = C x from has_rw hC x] at H
    obtain ⟨x0, x1, x2, x3, x4⟩ := Bk.five h.box
    clear h
    go_enter Tryd.func12, Tryd.ntmps12
    go_wp2_with (go_at_call 36; refine H.out.mono ?_; rintro e w1 ⟨rfl, m, rfl⟩)
    go_ret
    exact ⟨rfl, m, rfl⟩

/-- The sets and the words of a grammar. -/
def Both (G : Gram) (W : World) (h : Sh) (s u : Value) (w : World) : Prop :=
  ∃ P D, Bx W h G w ∧ VS false (Iab G.terms.length (top G + 1) (top G + 1)) P D s G.terms.length (top G + 1) (canB G) (fstB G) (folB G) no0 w ∧ TOk G.terms.length (top G + 1) (canB G) (fstB G) (folB G) ∧ RVAt false u (ansT G) w ∧ OkS G 4096 (ansT G) ∧ Cls G 4096 (ansT G)

theorem word_no {G : Gram} (hk : knownB G = true) {T : Int → Ans} (ok : OkS G 4096 T) (c : Cls G 4096 T) {x : Int} (hx : x ≠ 0) (h : isA (T x) = false) : canB G x = false := by
  cases e : canB G x with
  | false => rfl
  | true =>
    have := ((word_empty hk ok c hx).2 (canB_iff.1 e)).1
    rw [h] at this
    cases this
theorem word_nil {G : Gram} (hk : knownB G = true) {T : Int → Ans} (ok : OkS G 4096 T) (c : Cls G 4096 T) {x : Int} (hx : x ≠ 0) (h : isA (T x) = true) (h2 : wordA (T x) = []) : canB G x = true := canB_iff.2 ((word_empty hk ok c hx).1 ⟨h, h2⟩)
theorem word_some {G : Gram} (hk : knownB G = true) {T : Int → Ans} (ok : OkS G 4096 T) (c : Cls G 4096 T) {x : Int} (hx : x ≠ 0) (h : isA (T x) = true) {a : Int} {l : List Int} (h2 : wordA (T x) = a :: l) : canB G x = false ∧ withinB [a] (lst (fstB G x) (G.terms.length + 1)) = true := by
  constructor
  · cases e : canB G x with
    | false => rfl
    | true =>
      have := ((word_empty hk ok c hx).2 (canB_iff.1 e)).2
      rw [h2] at this
      cases this
  · have e := isA_of h
    rw [h2] at e
    have hf := word_begins hk ok hx e
    have hr := fst_range hf
    exact withinB_one (by omega) (by omega) (fstB_iff.2 hf)
theorem bnd_of {u : Value} {T : Int → Ans} {w : World} (h : RVAt false u T w) (x : Int) : lineA false T [x] = T x := by
  rcases h with ⟨h1, _⟩ | ⟨_, p, q1, q2, q3, hi, n, f, rfl, h⟩
  · cases h1
  · rw [show lineA false T [x] = Le.J T [x] from if_neg (by decide)]
    exact Le.join_one' h.ok.bnd x
theorem reads_head {a : Int} {l : List Int} {ad : Option Addr} {w : World} (h : Sep.Reads ad (ivs (a :: l)) w) : Sep.Reads ad (ivs [a]) w := fun i hi => by
  have h2 : i < 1 := hi
  obtain rfl : i = 0 := by omega
  exact h 0 (by unfold ivs; simp)

set_option maxHeartbeats 16000000 in
set_option maxRecDepth 100000 in
theorem words_law (h : Sh) (G : Gram) (w : World) (k : GAt h G w) (htab : Tab w) :
    Calls Tryd.prog 4 #[gv h G] w (Is (.bool true) w) := by
  obtain ⟨a1, c1, a2, c2, a3, c3⟩ := h
  have X := Lib.hid (Bx.start ⟨a1, c1, a2, c2, a3, c3⟩ G w 25)
  have MU := Lib.hid (fun w1 (b : Below w.heap.size w w1) => much_any ⟨a1, c1, a2, c2, a3, c3⟩ G w1 (k.went b))
  have O1 := Lib.hid (fun w1 (b : Below w.heap.size w w1) => of_any ⟨a1, c1, a2, c2, a3, c3⟩ G w1 (k.went b))
  have O2 := Lib.hid (fun w1 (b : Below w.heap.size w w1) => Le.rof_any2 ⟨a1, c1, a2, c2, a3, c3⟩ G w1 (k.went b))
  have CK := Lib.hid (fun w1 (b : Below w.heap.size w w1) => rcheck_any ⟨a1, c1, a2, c2, a3, c3⟩ G w1 (k.went b))
  have TO := Lib.hid (fun w1 (b : Below w.heap.size w w1) => rtop_any ⟨a1, c1, a2, c2, a3, c3⟩ G w1 (k.went b))
  have TB := Lib.hid (fun w1 (b : Below w.heap.size w w1) => htab.below b htab.pos)
  have AW := Lib.hid (fun w1 (b : Below w.heap.size w w1) => awake_any w1 (TB.out w1 b))
  have WI := Lib.hid (fun A B a b c d w1 hA hB ha hb => within_any A B a b c d w1 hA hB ha hb)
  clear k htab
  obtain ⟨x0, x1, x2, x3⟩ := X.out.box
  try dsimp only at x0 x1 x2 x3
  unfold gv
  dsimp only
  go_enter Tryd.func4, Tryd.ntmps4
  go_wp2_with fail
  refine (MU.out _ X.out.below).mono ?_
  rintro e w1 ⟨n, rfl, hn, hb⟩
  have X1 := Lib.hid (X.out.went hb)
  clear hb MU x0 x1 x2 x3 X
  obtain ⟨x0, x1, x2, x3⟩ := X1.out.box
  try dsimp only at x0 x1 x2 x3
  by_cases hn9 : 200 < n
  · clear hn
    go_wp2_with (go_at_call 7; refine (AW.out _ X1.out.below).mono ?_; rintro e w2 ⟨rfl, hb⟩; have HB := Lib.hid (Gr.step X1.out.below hb); clear hb)
    go_ret
    exact ⟨rfl, HB.out⟩
  clear hn
  by_cases hc : checkN G = 0
  · have SM := Lib.hid (sml_of hc)
    have AN := Lib.hid (show nlB G = false ∧ ansC G = canB G ∧ ansF G = fstB G ∧ ansB G = folB G from ⟨by unfold nlB; rw [decide_eq_true hc]; rfl, by unfold ansC; rw [if_pos hc], by unfold ansF; rw [if_pos hc], by unfold ansB; rw [if_pos hc]⟩)
    have NB := Lib.hid (show nilB G = false from by unfold nilB; rw [decide_eq_true hc]; rfl)
    have ht := SM.out.t
    have hnn := SM.out.n
    have HT := Lib.hid (show top G = G.terms.length + G.nons.length from rfl)
    have htop : top G ≤ 240 := by have := HT.out; omega
    rw [hc] at CK
    clear hc
    go_wp2_with fail
    refine (CK.out _ X1.out.below).mono ?_
    rintro e w2 ⟨rfl, hb⟩
    have X2 := Lib.hid (X1.out.went hb)
    clear hb CK x0 x1 x2 x3 X1
    obtain ⟨x0, x1, x2, x3⟩ := X2.out.box
    try dsimp only at x0 x1 x2 x3
    go_upto_region 3 with fail
    go_cut [3, 4] (fun s u wx => Both G w ⟨a1, c1, a2, c2, a3, c3⟩ s u wx)
    case first =>
      have hbd := drawn w2
      have HQ := Lib.hid (show ∀ w', Below w2.heap.size w2 w' → w'.cell? ⟨w.heap.size, 0, none⟩ = some (.slice a1 G.terms.length c1) ∧ w'.cell? ⟨w.heap.size, 1, none⟩ = some (.slice a2 G.nons.length c2) ∧ w'.cell? ⟨w.heap.size, 2, none⟩ = some (.slice a3 G.rules.length c3) ∧ w'.cell? ⟨w.heap.size, 3, none⟩ = some (.int .i64 G.start) ∧ Below w2.heap.size w2 w' from
        fun w' hb => ⟨cell_later hb x0, cell_later hb x1, cell_later hb x2, cell_later hb x3, hb⟩)
      have O1' := Lib.hid (fun w1 (b : Below w2.heap.size w2 w1) => O1.out w1 (Gr.step X2.out.below b))
      have O2' := Lib.hid (fun w1 (b : Below w2.heap.size w2 w1) => O2.out w1 (Gr.step X2.out.below b))
      go_region_held3 (fun w' => w'.cell? ⟨w.heap.size, 0, none⟩ = some (.slice a1 G.terms.length c1) ∧ w'.cell? ⟨w.heap.size, 1, none⟩ = some (.slice a2 G.nons.length c2) ∧ w'.cell? ⟨w.heap.size, 2, none⟩ = some (.slice a3 G.rules.length c3) ∧ w'.cell? ⟨w.heap.size, 3, none⟩ = some (.int .i64 G.start) ∧ Below w2.heap.size w2 w')
        (exact HQ.out _ (by assumption))
        (first
          | (go_at_call 8; (with_reducible refine (O1'.out _ hbd).mono ?_); rintro e w3 ⟨v, P, D, rfl, hv, hok, hb⟩; have kA : Below w2.heap.size w2 w3 := Gr.step hbd hb; have V3 := Lib.hid hv; have T3 := Lib.hid hok; clear hv hok hb)
          | (go_at_call 15; (with_reducible refine (O2'.out _ kA).mono ?_); rintro e w4 ⟨u, rfl, hu, hb, hoc⟩; have kB : Below w2.heap.size w2 w4 := Gr.step kA hb; have V4 := Lib.hid (V3.out.went hb); have T4 := Lib.hid T3.out; have U4 := Lib.hid hu; have C4 := Lib.hid hoc; clear hu hb hoc)
          | (go_at_call 15; (with_reducible refine (O2'.out _ hbd).mono ?_); rintro e w3 ⟨u, rfl, hu, hb, hoc⟩; have kC : Below w2.heap.size w2 w3 := Gr.step hbd hb; have U3 := Lib.hid hu; have C4 := Lib.hid hoc; clear hu hb hoc)
          | (go_at_call 8; (with_reducible refine (O1'.out _ kC).mono ?_); rintro e w4 ⟨v, P, D, rfl, hv, hok, hb⟩; have kB : Below w2.heap.size w2 w4 := Gr.step kC hb; have U4 := Lib.hid (U3.out.went hb); have V4 := Lib.hid hv; have T4 := Lib.hid hok; clear hv hok hb)
          | fail)
      all_goals
        have BO := Lib.hid (show Both G w ⟨a1, c1, a2, c2, a3, c3⟩ v u w4 from by
          have hv := V4.out
          have hok := T4.out
          have hu := U4.out
          have hoc := C4.out
          rw [AN.out.1, AN.out.2.1, AN.out.2.2.1, AN.out.2.2.2] at hv hok
          rw [NB.out] at hu hoc
          exact ⟨P, D, X2.out.went kB, hv, hok rfl, hu, (hoc rfl).1, (hoc rfl).2⟩)
        go_wp2_with fail
        go_meet
        case rel => exact BO.out
    case rest =>
      obtain ⟨P, D, hX, hv, hok, hu, ok, cl⟩ := hcut
      have X3 := Lib.hid hX
      have OK := Lib.hid ok
      have CL := Lib.hid cl
      have TK := Lib.hid hok
      have TBW := Lib.hid (fun w4 (b : Below wc.heap.size wc w4) => TB.out w4 (Gr.step X3.out.below b))
      have LN := Lib.hid (fun x a c w4 (b : Below wc.heap.size wc w4) hR => show Calls Tryd.prog 17 #[u4, .slice a 1 c] w4 (LinedC (ansT G x) w4) from by
        have := Le.rline_any2 false u4 (ansT G) [x] a c w4 (hu.went b) hR (by simp)
        rwa [bnd_of hu x] at this)
      have FI := Lib.hid (fun x w4 (b : Below wc.heap.size wc w4) => first_any w4 (hv.went b) (fun _ => TK.out) (TBW.out w4 b) (by omega) x)
      have EM := Lib.hid (fun x w4 (b : Below wc.heap.size wc w4) hx => empty_any w4 (hv.went b) (fun _ => TK.out) x hx)
      have EQ := Lib.hid (fun x w4 (b : Below wc.heap.size wc w4) hx => empty_draw w4 (hv.went b) TK.out.c x hx)
      have KN := Lib.hid SM.out.known
      clear hX hv hok hu ok cl x0 x1 x2 x3 X2 O1 O2 AN NB
      generalize ansT G = T at *
      go_wp2
      go_loopw [5] (fun i wr => ∃ j : Nat, j ≤ top G ∧ i = .int .i64 ((j : Int) + 1) ∧ Bx w ⟨a1, c1, a2, c2, a3, c3⟩ G wr ∧ Below wc.heap.size wc wr) (fun i _ => ((top G : Int) + 1 - intOf i).toNat)
      case atStart => exact ⟨0, Nat.zero_le _, by simp, X3.out, .refl _ _⟩
      case round =>
        clear X3
        obtain ⟨j, hj, rfl, hX, hB⟩ := hrel
        have X := Lib.hid hX
        have B := Lib.hid hB
        clear hX hB
        obtain ⟨x0, x1, x2, x3⟩ := X.out.box
        try dsimp only at x0 x1 x2 x3
        have TC := Lib.hid (TO.out _ X.out.below)
        by_cases hlt : j < top G
        · have hd : decide ((j : Int) + 1 ≤ (top G : Int)) = true := decide_eq_true (by omega)
          obtain ⟨x, hx⟩ : ∃ x : Int, x = (j : Int) + 1 := ⟨_, rfl⟩
          have HX := Lib.hid hx
          have hx0 : x ≠ 0 := by omega
          have hx1 : x ≤ 1000 := by omega
          have hx2 : 1 ≤ x := by omega
          rw [← hx] at hd ⊢
          have P1 := Lib.hid (fun h => word_no KN.out OK.out CL.out hx0 h)
          have P2 := Lib.hid (fun h h2 => word_nil KN.out OK.out CL.out hx0 h h2)
          have P3 := Lib.hid (fun h a l h2 => word_some KN.out OK.out CL.out hx0 h (a := a) (l := l) h2)
          clear hx hx0
          go_wp2_with fail
          refine TC.out.mono ?_
          rintro e w5 ⟨rfl, hb⟩
          have X5 := Lib.hid (X.out.went hb)
          have B5 := Lib.hid (Gr.step B.out hb)
          clear hb x0 x1 x2 x3 X B TC
          have bx := boxed w5 (.cells #[.int .i64 x] 3)
          have LC := Lib.hid (LN.out x (some ⟨w5.heap.size, 0, none⟩) 1 _ (Gr.step B5.out bx) (Le.reads_one w5 x))
          have X6 := Lib.hid (X5.out.went bx)
          have B6 := Lib.hid (Gr.step B5.out bx)
          clear bx X5 B5
          go_wp2_with fail
          refine LC.out.mono ?_
          rintro e w7 ⟨ad, c, rfl, hR, hb, hcap⟩
          have X7 := Lib.hid (X6.out.went hb)
          have B7 := Lib.hid (Gr.step B6.out hb)
          have R7 := Lib.hid hR
          clear hb hR X6 B6 LC
          generalize hit : isA (T x) = it at *
          generalize hwd : wordA (T x) = wd at *
          have HQE := Lib.hid (fun m => EQ.out x (w7.drewN m) (Gr.step B7.out (drawnN' _ m)) (by omega))
          cases it with
          | false =>
            have E := P1.out rfl
            rw [E] at HQE
            clear E P1 P2 P3
            go_wp2_with fail
            go_quiet ((go_at_call 12; exact Calls.quiet_of (HQE.out _)))
            have X8 := Lib.hid (X7.out.went (drawnN' _ nq))
            have B8 := Lib.hid (Gr.step B7.out (drawnN' _ nq))
            go_wp2
            go_roundw
            case rel => exact ⟨j + 1, by omega, by rw [HX.out]; push_cast; rfl, X8.out, B8.out⟩
            case measure => have := HX.out; simp [intOf]; omega
          | true =>
            cases wd with
            | nil =>
              have E := P2.out rfl rfl
              rw [E] at HQE
              clear E P1 P2 P3
              go_wp2_with fail
              go_quiet ((go_at_call 12; exact Calls.quiet_of (HQE.out _)))
              have X8 := Lib.hid (X7.out.went (drawnN' _ nq))
              have B8 := Lib.hid (Gr.step B7.out (drawnN' _ nq))
              go_wp2
              go_roundw
              case rel => exact ⟨j + 1, by omega, by rw [HX.out]; push_cast; rfl, X8.out, B8.out⟩
              case measure => have := HX.out; simp [intOf]; omega
            | cons a l =>
              obtain ⟨E, E2⟩ := P3.out rfl a l rfl
              have W2 := Lib.hid E2
              rw [List.length_cons] at hcap ⊢
              have hll : 0 < l.length + 1 := by omega
              have hbd := drawn w7
              have EC := Lib.hid (fun w4 (b : Below w7.heap.size w7 w4) => EM.out x w4 (Gr.step B7.out b) (by omega))
              rw [E] at EC
              have FC := Lib.hid (fun w4 (b : Below w7.heap.size w7 w4) => FI.out x w4 (Gr.step B7.out b))
              have R8 := Lib.hid (fun w4 (b : Below w7.heap.size w7 w4) => Sep.Reads.below (reads_head R7.out) b (Nat.le_refl _))
              have WX := Lib.hid (fun c d b w1 (hA : Sep.Reads ad (ivs [a]) w1) (hB : Sep.Reads b (ivs (lst (fstB G x) (G.terms.length + 1))) w1) => show Calls Tryd.prog 10 #[.slice ad 1 c, .slice b (lst (fstB G x) (G.terms.length + 1)).length d] w1 (Is (.bool true) w1) from by
                have t := WI.out [a] _ ad b c d w1 hA hB (by simp) (lst_le _ (by omega))
                rwa [W2.out] at t)
              clear E E2 P1 P2 P3 HQE R7
              generalize l.length + 1 = len at *
              have hd0 : ((len : Int) == 0) = false := by rw [beq_eq_false_iff_ne]; omega
              have hd1 : decide ((0 : Int) < (len : Int)) = true := decide_eq_true (by omega)
              have hd2 : decide (0 < len) = true := decide_eq_true hll
              have hc1 : (1 : Int) ≤ (c : Int) := by omega
              go_wp2_with fail
              go_region_held3 (fun w' => Below w7.heap.size w7 w')
                (first | assumption)
                (first
                  | (go_at_call 12; (with_reducible refine (EC.out _ hbd).mono ?_); rintro e w8 ⟨rfl, hb⟩; have kB : Below w7.heap.size w7 w8 := Gr.step hbd hb; clear hb)
                  | (go_at_call 11; (with_reducible refine (FC.out _ kB).mono ?_); rintro e w9 ⟨fa, fc, rfl, hR9, _, hb⟩; have kC : Below w7.heap.size w7 w9 := Gr.step kB hb; have Q9 := Lib.hid hR9; have M9 := Lib.hid (R8.out _ kC); clear hR9 hb)
                  | (go_at_call 10; (with_reducible refine (WX.out _ _ _ _ M9.out Q9.out).mono ?_); rintro e w10 ⟨rfl, hb⟩; have kD : Below w7.heap.size w7 w10 := Gr.step kC hb; clear hb)
                  | fail)
              all_goals
                have X8 := Lib.hid (X7.out.went kD)
                have B8 := Lib.hid (Gr.step B7.out kD)
                go_wp2
                go_roundw
                case rel => exact ⟨j + 1, by omega, by rw [HX.out]; push_cast; rfl, X8.out, B8.out⟩
                case measure => have := HX.out; simp [intOf]; omega
        · have hd : decide ((j : Int) + 1 ≤ (top G : Int)) = false := decide_eq_false (by omega)
          go_wp2_with fail
          refine TC.out.mono ?_
          rintro e w5 ⟨rfl, hb⟩
          have X5 := Lib.hid (X.out.went hb)
          clear hb x0 x1 x2 x3 X B TC
          go_wp2_with (go_at_call 7; refine (AW.out _ X5.out.below).mono ?_; rintro e w6 ⟨rfl, hb⟩; have HB := Lib.hid (Gr.step X5.out.below hb); clear hb)
          go_ret
          exact ⟨rfl, HB.out⟩
  · have hb : (checkN G != 0) = true := by simpa using hc
    clear hc
    generalize checkN G = ck at *
    go_wp2_with fail
    refine (CK.out _ X1.out.below).mono ?_
    rintro e w2 ⟨rfl, hb2⟩
    have X2 := Lib.hid (X1.out.went hb2)
    clear hb2 x0 x1 x2 x3
    go_wp2_with (go_at_call 7; refine (AW.out _ X2.out.below).mono ?_; rintro e w3 ⟨rfl, hb⟩; have HB := Lib.hid (Gr.step X2.out.below hb); clear hb)
    go_ret
    exact ⟨rfl, HB.out⟩

end Go.Proofs.YtoipinnfmjaaaaaDoor.Fi
