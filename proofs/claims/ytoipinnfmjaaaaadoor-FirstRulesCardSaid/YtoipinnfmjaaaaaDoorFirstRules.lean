/-
  The walk of the statement on rules: a right side begins with what its left side begins with; what is behind a symbol there stands behind it. Condition: the library's table in math/bits holds its numbers.
-/
import Derived.Test.YtoipinnfmjaaaaaDoorFirstAwake
import Derived.Test.YtoipinnfmjaaaaaDoorFirstWithin
namespace Go.Proofs.YtoipinnfmjaaaaaDoor.Fi
open Go.RowKit Go.Maps
open Go.Proofs.YtoipinnfmjaaaaaDoor.Gr
open Go.Proofs.YtoipinnfmjaaaaaDoor.Bt (Tab)
open Go.Proofs.YtoipinnfmjaaaaaDoor.Rw (Bk)
set_option linter.unusedVariables false

theorem w_first {G : Gram} {r : Int × List Int} (hr : r ∈ G.rules) (n : Nat) : withinB (lst (lineB (canB G) (fstB G) r.2) n) (lst (fstB G r.1) n) = true :=
  withinB_lst fun t h => fstB_iff.2 (Fst.line hr (((just_b G).line _ _).1 h))
theorem w_can {G : Gram} {r : Int × List Int} (hr : r ∈ G.rules) (h : allC (canB G) r.2 = true) : canB G r.1 = true := canB_iff.2 (.mk r hr (((just_b G).all _).1 h))
theorem split_at {R : List Int} {k : Nat} (hk : k < R.length) : R = R.take k ++ R[k] :: R.drop (k + 1) := by rw [← List.drop_eq_getElem_cons hk, List.take_append_drop]
theorem w_next {G : Gram} {r : Int × List Int} (hr : r ∈ G.rules) {k : Nat} (hk : k < r.2.length) (hn : nonB G r.2[k] = true) (n : Nat) : withinB (lst (lineB (canB G) (fstB G) (r.2.drop (k + 1))) n) (lst (folB G r.2[k]) n) = true :=
  withinB_lst fun t h => folB_iff.2 (.next hr (split_at hk) hn (((just_b G).line _ _).1 h))
theorem w_last {G : Gram} {r : Int × List Int} (hr : r ∈ G.rules) {k : Nat} (hk : k < r.2.length) (hn : nonB G r.2[k] = true) (ha : allC (canB G) (r.2.drop (k + 1)) = true) (n : Nat) : withinB (lst (folB G r.1) n) (lst (folB G r.2[k]) n) = true :=
  withinB_lst fun t h => folB_iff.2 (.last hr (split_at hk) hn (((just_b G).all _).1 ha) (folB_iff.1 h))
theorem w_start (G : Gram) (n : Nat) (hn : 0 < n) : withinB [0] (lst (folB G G.start) n) = true := withinB_one (by omega) (by omega) (folB_iff.2 .start)
theorem lst_le (P : Int → Bool) {n : Nat} (h : n ≤ 100000) : (lst P n).length ≤ 100000 := Nat.le_trans (lst_len P n) h

/-- Behind the box of the grammar, that of the rule, and the sets. -/
structure RSt (W W3 : World) (h : Sh) (G : Gram) (q : Nat) (u0 u1 : Value) (w : World) : Prop where
  x : Bx W h G w
  b3 : Below W3.heap.size W3 w
  box : Bk q #[u0, u1] 34 w
theorem RSt.went {W W3 : World} {h : Sh} {G : Gram} {q : Nat} {u0 u1 : Value} {w w' : World} (k : RSt W W3 h G q u0 u1 w) (hb : Below w.heap.size w w') : RSt W W3 h G q u0 u1 w' := ⟨k.x.went hb, Gr.step k.b3 hb, k.box.went hb⟩

set_option maxHeartbeats 16000000 in
set_option maxRecDepth 100000 in
theorem rules_law (h : Sh) (G : Gram) (w : World) (k : GAt h G w) (htab : Tab w) :
    Calls Tryd.prog 3 #[gv h G] w (Is (.bool true) w) := by
  obtain ⟨a1, c1, a2, c2, a3, c3⟩ := h
  have X := Lib.hid (Bx.start ⟨a1, c1, a2, c2, a3, c3⟩ G w 25)
  have MU := Lib.hid (fun w1 (b : Below w.heap.size w w1) => much_any ⟨a1, c1, a2, c2, a3, c3⟩ G w1 (k.went b))
  have O1 := Lib.hid (fun w1 (b : Below w.heap.size w w1) => of_any ⟨a1, c1, a2, c2, a3, c3⟩ G w1 (k.went b))
  have CK := Lib.hid (fun w1 (b : Below w.heap.size w w1) => rcheck_any ⟨a1, c1, a2, c2, a3, c3⟩ G w1 (k.went b))
  have NO := Lib.hid (fun s w1 (b : Below w.heap.size w w1) => rnon_any ⟨a1, c1, a2, c2, a3, c3⟩ G s w1 (k.went b))
  have TB := Lib.hid (fun w1 (b : Below w.heap.size w w1) => htab.below b htab.pos)
  have AW := Lib.hid (fun w1 (b : Below w.heap.size w w1) => awake_any w1 (TB.out w1 b))
  have WI := Lib.hid (fun A B a b c d w1 hA hB ha hb => within_any A B a b c d w1 hA hB ha hb)
  have KG := Lib.hid k
  clear k htab
  obtain ⟨x0, x1, x2, x3⟩ := X.out.box
  try dsimp only at x0 x1 x2 x3
  unfold gv
  dsimp only
  go_enter Tryd.func3, Tryd.ntmps3
  go_wp2_with fail
  refine (MU.out _ X.out.below).mono ?_
  rintro e w1 ⟨n, rfl, hn, hb⟩
  have X1 := Lib.hid (X.out.went hb)
  clear hb MU x0 x1 x2 x3 X
  obtain ⟨x0, x1, x2, x3⟩ := X1.out.box
  try dsimp only at x0 x1 x2 x3
  by_cases hn9 : 200 < n
  · clear hn
    go_wp2_with (go_at_call 7; refine (AW.out _ X1.out.below).mono ?_; rintro e w2 ⟨rfl, hb⟩; have HB := Lib.hid (Gr.step X1.out.below hb); clear hb)
    go_ret
    exact ⟨rfl, HB.out⟩
  clear hn
  by_cases hc : checkN G = 0
  · have SM := Lib.hid (sml_of hc)
    have AN := Lib.hid (show nlB G = false ∧ ansC G = canB G ∧ ansF G = fstB G ∧ ansB G = folB G from ⟨by unfold nlB; rw [decide_eq_true hc]; rfl, by unfold ansC; rw [if_pos hc], by unfold ansF; rw [if_pos hc], by unfold ansB; rw [if_pos hc]⟩)
    have ht := SM.out.t
    rw [hc] at CK
    clear hc
    go_wp2_with fail
    refine (CK.out _ X1.out.below).mono ?_
    rintro e w2 ⟨rfl, hb⟩
    have X2 := Lib.hid (X1.out.went hb)
    clear hb CK x0 x1 x2 x3 X1
    obtain ⟨x0, x1, x2, x3⟩ := X2.out.box
    try dsimp only at x0 x1 x2 x3
    go_wp2_with fail
    refine (O1.out _ X2.out.below).mono ?_
    rintro e w3 ⟨v, P, D, rfl, hv, hok, hb⟩
    have X3 := Lib.hid (X2.out.went hb)
    rw [AN.out.1, AN.out.2.1, AN.out.2.2.1, AN.out.2.2.2] at hv hok
    have TBW := Lib.hid (fun w4 (b : Below w3.heap.size w3 w4) => TB.out w4 (Gr.step X3.out.below b))
    have LN := Lib.hid (fun l a c w4 (b : Below w3.heap.size w3 w4) hR hL => show Calls Tryd.prog 9 #[v, .slice a l.length c] w4 (Lined (lst (lineB (canB G) (fstB G) l) (G.terms.length + 1)) (allC (canB G) l) w4) from line_any w4 (hv.went b) hok (TBW.out w4 b) (by omega) l a c hR hL)
    have FI := Lib.hid (fun x w4 (b : Below w3.heap.size w3 w4) => first_any w4 (hv.went b) hok (TBW.out w4 b) (by omega) x)
    have FO := Lib.hid (fun x w4 (b : Below w3.heap.size w3 w4) => follow_any w4 (hv.went b) hok (TBW.out w4 b) (by omega) x)
    have EM := Lib.hid (fun x w4 (b : Below w3.heap.size w3 w4) hx => empty_any w4 (hv.went b) hok x hx)
    clear hb hv hok O1 x0 x1 x2 x3 X2 AN TBW
    go_wp2
    go_loopw [4] (fun i wr => ∃ j : Nat, j ≤ G.rules.length ∧ i = .int .i64 j ∧ Bx w ⟨a1, c1, a2, c2, a3, c3⟩ G wr ∧ Below w3.heap.size w3 wr) (fun i _ => G.rules.length - (intOf i).toNat)
    case atStart => exact ⟨0, Nat.zero_le _, rfl, X3.out, .refl _ _⟩
    case round =>
      clear X3
      obtain ⟨j, hj, rfl, hX, hB⟩ := hrel
      have X := Lib.hid hX
      have B := Lib.hid hB
      clear hX hB
      obtain ⟨x0, x1, x2, x3⟩ := X.out.box
      try dsimp only at x0 x1 x2 x3
      by_cases hlt : j < G.rules.length
      · have hrl := SM.out.r
        have hm := List.getElem_mem hlt
        have hl := nonB_iff.1 (left_non SM.out.known hm)
        have W1 := Lib.hid (w_first hm (G.terms.length + 1))
        have W2 := Lib.hid (fun h => w_can hm h)
        have W3 := Lib.hid (fun k hk hn => w_next hm (k := k) hk hn (G.terms.length + 1))
        have W4 := Lib.hid (fun k hk hn ha => w_last hm (k := k) hk hn ha (G.terms.length + 1))
        obtain ⟨b2, o2, ra, rc, e3, h1, h2, h3, h4, h5⟩ := KG.out.rules j hlt
        try dsimp only at e3
        subst e3
        have LOK := Lib.hid (lok_rule SM.out hlt h4)
        have g1 := cell_later X.out.below h1
        have g2 := cell_later X.out.below h2
        have hnn := SM.out.n
        have hr1 := KG.out.r1
        have RD := Lib.hid (fun w4 (b : Below w.heap.size w w4) => Sep.Reads.below h3 b (Nat.le_refl _))
        clear h1 h2 h3 h5 hm
        generalize G.rules[j] = r at *
        obtain ⟨left, R⟩ := r
        dsimp only at g1 g2 h4 hl W1 W2 W3 W4 LOK RD
        have hlf : left ≤ 1000 := by omega
        have hRl := LOK.out.len
        have bx := boxed wr (.cells #[.int .i64 left, .slice ra R.length rc] 34)
        have St0 := Lib.hid (RSt.mk (X.out.went bx) (Gr.step B.out bx) (Bk.new wr #[.int .i64 left, .slice ra R.length rc] 34 _ rfl))
        have LC := Lib.hid (LN.out R ra rc _ St0.out.b3 (RD.out _ St0.out.x.below) LOK.out)
        have hwl : w.heap.size < wr.heap.size := X.out.size
        clear bx hl
        generalize hq : wr.heap.size = q at *
        go_wp2_with fail
        refine LC.out.mono ?_
        rintro e w5 ⟨la, lc, rfl, hR5, _, hb⟩
        have St5 := Lib.hid (St0.out.went hb)
        have R5 := Lib.hid hR5
        clear hR5 hb LC x0 x1 x2 x3 g1 g2 X B St0 hq
        obtain ⟨y0, y1, yf⟩ := St5.out.box.two
        go_upto_region 9 with fail
        go_cut [57] (fun tt wx => tt = .bool false ∧ RSt w w3 ⟨a1, c1, a2, c2, some ⟨b2, o2, none⟩, c3⟩ G q (.int .i64 left) (.slice ra R.length rc) wx)
        case first =>
          go_wp2_with fail
          refine (FI.out left _ St5.out.b3).mono ?_
          rintro e w6 ⟨fa, fc, rfl, hR6, _, hb⟩
          have St6 := Lib.hid (St5.out.went hb)
          have Q6 := Lib.hid (R5.out.below hb (Nat.le_refl _))
          have R6 := Lib.hid hR6
          clear hR6 hb St5 R5 y0 y1 yf
          have WC := Lib.hid (WI.out _ _ la fa lc fc w6 Q6.out R6.out (lst_le _ (by omega)) (lst_le _ (by omega)))
          rw [W1.out] at WC
          go_wp2_with fail
          refine WC.out.mono ?_
          rintro e w7 ⟨rfl, hb⟩
          have St7 := Lib.hid (St6.out.went hb)
          clear hb St6 Q6 R6 WC W1
          obtain ⟨y0, y1, yf⟩ := St7.out.box.two
          have EC := Lib.hid (show allC (canB G) R = true → Calls Tryd.prog 12 #[v, .int .i64 left] w7 (Is (.bool true) w7) from fun h => by
            have := EM.out left _ St7.out.b3 (by omega)
            rwa [W2.out h] at this)
          clear W2
          generalize allC (canB G) R = al at *
          cases al
          · go_wp2_with fail
            go_meet
            case rel => exact ⟨rfl, St7.out⟩
          · have EC2 := Lib.hid (EC.out rfl)
            clear EC
            go_wp2_with (go_at_call 12; refine EC2.out.mono ?_; rintro e w8 ⟨rfl, hb⟩; have St8 := Lib.hid (St7.out.went hb); clear hb)
            go_meet
            case rel => exact ⟨rfl, St8.out⟩
        case rest =>
          obtain ⟨rfl, hcut⟩ := hcut
          have St8 := Lib.hid hcut
          clear hcut St5 R5 y0 y1 yf W1 W2
          obtain ⟨y0, y1, yf⟩ := St8.out.box.two
          go_wp2
          go_loopw [8] (fun i wr2 => ∃ k : Nat, k ≤ R.length ∧ i = .int .i64 k ∧ RSt w w3 ⟨a1, c1, a2, c2, some ⟨b2, o2, none⟩, c3⟩ G q (.int .i64 left) (.slice ra R.length rc) wr2) (fun i _ => R.length - (intOf i).toNat)
          case atStart => exact ⟨0, Nat.zero_le _, rfl, St8.out⟩
          case round =>
            clear St8
            obtain ⟨k, hk, rfl, hS⟩ := hrel
            have St := Lib.hid hS
            clear hS
            obtain ⟨y0, y1, yf⟩ := St.out.box.two
            by_cases hkl : k < R.length
            · obtain ⟨b4, o4, e4, hc4⟩ := int_at (RD.out _ St.out.x.below) hkl
              subst e4
              obtain ⟨x0, x1, x2, x3⟩ := St.out.x.box
              try dsimp only at x0 x1 x2 x3
              have HQ := Lib.hid (show ∀ w', Below wr.heap.size wr w' → w'.cell? ⟨w.heap.size, 0, none⟩ = some (.slice a1 G.terms.length c1) ∧ w'.cell? ⟨w.heap.size, 1, none⟩ = some (.slice a2 G.nons.length c2) ∧ w'.cell? ⟨w.heap.size, 2, none⟩ = some (.slice (some ⟨b2, o2, none⟩) G.rules.length c3) ∧ w'.cell? ⟨w.heap.size, 3, none⟩ = some (.int .i64 G.start) ∧ w'.cell? ⟨q, 1, none⟩ = some (.slice (some ⟨b4, o4, none⟩) R.length rc) ∧ w'.cell? ⟨b4, o4 + k, none⟩ = some (.int .i64 R[k]) ∧ Below wr.heap.size wr w' from
                fun w' hb => ⟨cell_later hb x0, cell_later hb x1, cell_later hb x2, cell_later hb x3, cell_later hb y1, cell_later hb hc4, hb⟩)
              have NC := Lib.hid (fun w1 (b : Below w.heap.size w w1) => NO.out R[k] w1 b)
              have V3 := Lib.hid (fun hn => W3.out k hkl hn)
              have V4 := Lib.hid (fun hn ha => W4.out k hkl hn ha)
              have hbd := drawn wr
              have i0 : (0 : Int) ≤ (k : Int) := by omega
              have i1 : (k : Int) < (R.length : Int) := by omega
              try dsimp only at V3 V4
              generalize R[k] = x at *
              cases hnn2 : nonB G x with
              | false =>
                rw [hnn2] at NC
                go_wp2
                clear hnn2 V3 V4 x0 x1 x2 x3 y0 y1 yf
                go_region_held3 (fun w' => w'.cell? ⟨w.heap.size, 0, none⟩ = some (.slice a1 G.terms.length c1) ∧ w'.cell? ⟨w.heap.size, 1, none⟩ = some (.slice a2 G.nons.length c2) ∧ w'.cell? ⟨w.heap.size, 2, none⟩ = some (.slice (some ⟨b2, o2, none⟩) G.rules.length c3) ∧ w'.cell? ⟨w.heap.size, 3, none⟩ = some (.int .i64 G.start) ∧ w'.cell? ⟨q, 1, none⟩ = some (.slice (some ⟨b4, o4, none⟩) R.length rc) ∧ w'.cell? ⟨b4, o4 + k, none⟩ = some (.int .i64 x) ∧ Below wr.heap.size wr w')
                  (exact HQ.out _ (by assumption))
                  (first
                    | (go_at_call 13; refine (NC.out _ (Gr.step St.out.x.below hbd)).mono ?_; rintro e wn ⟨rfl, hb⟩; have l1 : Below wr.heap.size wr wn := Gr.step hbd hb; clear hb)
                    | fail)
                have Sn := Lib.hid (St.out.went l1)
                go_wp2
                go_roundw
                case rel => exact ⟨k + 1, by omega, by go_num, Sn.out⟩
                case measure => simp [intOf]; omega
              | true =>
                rw [hnn2] at NC
                have U3 := Lib.hid (V3.out hnn2)
                have U4 := Lib.hid (fun ha => V4.out hnn2 ha)
                go_wp2
                clear hnn2 V3 V4 x0 x1 x2 x3 y0 y1 yf
                go_region_held3 (fun w' => w'.cell? ⟨w.heap.size, 0, none⟩ = some (.slice a1 G.terms.length c1) ∧ w'.cell? ⟨w.heap.size, 1, none⟩ = some (.slice a2 G.nons.length c2) ∧ w'.cell? ⟨w.heap.size, 2, none⟩ = some (.slice (some ⟨b2, o2, none⟩) G.rules.length c3) ∧ w'.cell? ⟨w.heap.size, 3, none⟩ = some (.int .i64 G.start) ∧ w'.cell? ⟨q, 1, none⟩ = some (.slice (some ⟨b4, o4, none⟩) R.length rc) ∧ w'.cell? ⟨b4, o4 + k, none⟩ = some (.int .i64 x) ∧ Below wr.heap.size wr w')
                  (exact HQ.out _ (by assumption))
                  (first
                    | (go_at_call 13; refine (NC.out _ (Gr.step St.out.x.below hbd)).mono ?_; rintro e wn ⟨rfl, hb⟩; have l1 : Below wr.heap.size wr wn := Gr.step hbd hb; clear hb)
                    | fail)
                have Sn := Lib.hid (St.out.went l1)
                have hcn := cell_later l1 hc4
                have HA := Lib.hid (fun A cc (hA : BehA A cc b4 o4 k R.length rc) w' (hb : Below w.heap.size w w') => reads_beh (RD.out w' hb) hA)
                have LC := Lib.hid (fun A cc (hA : BehA A cc b4 o4 k R.length rc) => LN.out (R.drop (k + 1)) A cc wn Sn.out.b3 (HA.out A cc hA wn Sn.out.x.below) (lok_beh LOK.out hA))
                rw [List.length_drop] at LC
                have A1 := Lib.hid (show BehA (some ⟨b4, o4 + (k + 1), none⟩) (rc - (k + 1)) b4 o4 k R.length rc from .inl ⟨rfl, rfl⟩)
                have A2 := Lib.hid (fun (h : rc = k + 1) => show BehA (some ⟨b4, o4, none⟩) 0 b4 o4 k R.length rc from .inr ⟨rfl, rfl, by omega⟩)
                obtain ⟨y0, y1, yf⟩ := Sn.out.box.two
                clear NC HQ St l1 hc4 hbd
                generalize allC (canB G) (R.drop (k + 1)) = al at *
                go_wp2_with (go_at_call 9; (first | (with_reducible refine (LC.out _ _ A1.out).mono ?_) | (with_reducible refine (LC.out _ _ (A2.out (by omega))).mono ?_)); rintro e w8 ⟨ma, mc, rfl, hR8, _, hb⟩; have St8 := Lib.hid (Sn.out.went hb); have M8 := Lib.hid hR8; have hc8 := cell_later hb hcn; clear hR8 hb y0 y1 yf)
                · have hcc : rc = k + 1 := (by assumption)
                  subst hcc
                  obtain ⟨y0, y1, yf⟩ := St8.out.box.two
                  have HQ := Lib.hid (show ∀ w', Below w8.heap.size w8 w' → w'.cell? ⟨q, 0, none⟩ = some (.int .i64 left) ∧ w'.cell? ⟨q, 1, none⟩ = some (.slice (some ⟨b4, o4, none⟩) R.length (k + 1)) ∧ w'.cell? ⟨b4, o4 + k, none⟩ = some (.int .i64 x) ∧ Below w8.heap.size w8 w' from
                    fun w' hb => ⟨cell_later hb y0, cell_later hb y1, cell_later hb hc8, hb⟩)
                  have hbd := drawn w8
                  have WX := Lib.hid (fun a b c d w1 (hA : Sep.Reads a (ivs (lst (lineB (canB G) (fstB G) (R.drop (k + 1))) (G.terms.length + 1))) w1) (hB : Sep.Reads b (ivs (lst (folB G x) (G.terms.length + 1))) w1) => show Calls Tryd.prog 10 #[.slice a (lst (lineB (canB G) (fstB G) (R.drop (k + 1))) (G.terms.length + 1)).length c, .slice b (lst (folB G x) (G.terms.length + 1)).length d] w1 (Is (.bool true) w1) from by
                    have t := WI.out _ _ a b c d w1 hA hB (lst_le _ (by omega)) (lst_le _ (by omega))
                    rwa [U3.out] at t)
                  clear LC A1 A2 HA y0 y1 yf hcn Sn U3
                  cases al
                  · go_wp2
                    refine wp_region_held_drew (S := fun w' => w'.cell? ⟨q, 0, none⟩ = some (.int .i64 left) ∧ w'.cell? ⟨q, 1, none⟩ = some (.slice (some ⟨b4, o4, none⟩) R.length (k + 1)) ∧ w'.cell? ⟨b4, o4 + k, none⟩ = some (.int .i64 x) ∧ Below w8.heap.size w8 w') (by kernel_rfl) (HQ.out _ hbd) (fun hHeld => ?_)
                    refine wpAnyH_take (i := 0) (oi := _) (v := .slice ma (lst (lineB (canB G) (fstB G) (R.drop (k + 1))) (G.terms.length + 1)).length mc) rfl (by kernel_rfl) (by kernel_rfl) (by kernel_rfl) (fun _ _ _ h => h) (Or.inl ⟨by rfl, fun w5 hs5 => by obtain ⟨s0, s1, s2, s3⟩ := hs5; go_simp⟩) (by assumption) ?_
                    change wpAnyH _ _ _ _ _ _ _ (Act.put _ (some 83) _) _
                    simp only [Act.put, List.setIfInBounds_toArray, List.set_cons_zero, List.set_cons_succ]
                    refine wpAnyH_take (i := 1) (oi := _) (v := v) rfl (by kernel_rfl) (by kernel_rfl) (by kernel_rfl) (fun _ _ _ h => h) (Or.inl ⟨by rfl, fun w5 hs5 => by obtain ⟨s0, s1, s2, s3⟩ := hs5; go_simp⟩) (by assumption) ?_
                    change wpAnyH _ _ _ _ _ _ _ (Act.put _ (some 84) _) _
                    simp only [Act.put, List.setIfInBounds_toArray, List.set_cons_zero, List.set_cons_succ]
                    refine wpAnyH_take (i := 2) (oi := _) (v := .pointer (some ⟨q, 1, none⟩)) rfl (by kernel_rfl) (by kernel_rfl) (by kernel_rfl) (fun _ _ _ h => h) (Or.inl ⟨by rfl, fun w5 hs5 => by obtain ⟨s0, s1, s2, s3⟩ := hs5; go_simp⟩) (by assumption) ?_
                    change wpAnyH _ _ _ _ _ _ _ (Act.put _ (some 85) _) _
                    simp only [Act.put, List.setIfInBounds_toArray, List.set_cons_zero, List.set_cons_succ]
                    refine wpAnyH_take (i := 3) (oi := _) (v := .slice (some ⟨b4, o4, none⟩) R.length (k + 1)) rfl (by kernel_rfl) (by kernel_rfl) (by kernel_rfl) (fun _ _ _ h => h) (Or.inl ⟨by rfl, fun w5 hs5 => by obtain ⟨s0, s1, s2, s3⟩ := hs5; go_simp⟩) (by assumption) ?_
                    change wpAnyH _ _ _ _ _ _ _ (Act.put _ (some 86) _) _
                    simp only [Act.put, List.setIfInBounds_toArray, List.set_cons_zero, List.set_cons_succ]
                    refine wpAnyH_take (i := 4) (oi := _) (v := .int .i64 k) rfl (by kernel_rfl) (by kernel_rfl) (by kernel_rfl) (fun _ _ _ h => h) (Or.inl ⟨by rfl, fun w5 hs5 => by obtain ⟨s0, s1, s2, s3⟩ := hs5; go_simp⟩) (by assumption) ?_
                    change wpAnyH _ _ _ _ _ _ _ (Act.put _ (some 87) _) _
                    simp only [Act.put, List.setIfInBounds_toArray, List.set_cons_zero, List.set_cons_succ]
                    refine wpAnyH_take (i := 5) (oi := _) (v := .pointer (some ⟨b4, o4 + k, none⟩)) rfl (by kernel_rfl) (by kernel_rfl) (by kernel_rfl) (fun _ _ _ h => h) (Or.inl ⟨by rfl, fun w5 hs5 => by obtain ⟨s0, s1, s2, s3⟩ := hs5; go_simp⟩) (by assumption) ?_
                    change wpAnyH _ _ _ _ _ _ _ (Act.put _ (some 88) _) _
                    simp only [Act.put, List.setIfInBounds_toArray, List.set_cons_zero, List.set_cons_succ]
                    refine wpAnyH_take (i := 6) (oi := _) (v := .int .i64 x) rfl (by kernel_rfl) (by kernel_rfl) (by kernel_rfl) (fun _ _ _ h => h) (Or.inl ⟨by rfl, fun w5 hs5 => by obtain ⟨s0, s1, s2, s3⟩ := hs5; go_simp⟩) (by assumption) ?_
                    change wpAnyH _ _ _ _ _ _ _ (Act.put _ (some 89) _) _
                    simp only [Act.put, List.setIfInBounds_toArray, List.set_cons_zero, List.set_cons_succ]
                    refine wpAnyH_ready (rs := [7]) (by kernel_rfl) (by simp) ?_
                    refine AllReadyH.cons (o := _) rfl (fun K' hK' => ?_) AllReadyH.nil
                    go_simp
                    refine (FO.out x _ (Gr.step St8.out.b3 hbd)).mono ?_
                    rintro e w9 ⟨fa, fc, rfl, hR9, _, hb⟩
                    have kB := Gr.step hbd hb
                    have Q9 := Lib.hid hR9; have M9 := Lib.hid (M8.out.below kB (Nat.le_refl _)); clear hR9
                    clear hb hHeld
                    refine hK'.out _ _ (HQ.out _ kB) (fun hHeld => ?_)
                    clear hK'
                    refine wpAnyH_ready (rs := [8]) (by kernel_rfl) (by simp) ?_
                    refine AllReadyH.cons (o := _) rfl (fun K' hK' => ?_) AllReadyH.nil
                    go_simp
                    refine (WX.out _ _ _ _ _ M9.out Q9.out).mono ?_
                    rintro e w10 ⟨rfl, hb⟩
                    have kC := Gr.step kB hb
                    clear hb hHeld
                    refine hK'.out _ _ (HQ.out _ kC) (fun hHeld => ?_)
                    clear hK'
                    refine wpAnyH_take (i := 9) (oi := _) (v := .bool false) rfl (by kernel_rfl) (by kernel_rfl) (by kernel_rfl) (fun _ _ _ h => h) (Or.inl ⟨by rfl, fun w5 hs5 => by obtain ⟨s0, s1, s2, s3⟩ := hs5; go_simp⟩) (by assumption) ?_
                    change wpAnyH _ _ _ _ _ _ _ (Act.put _ (some 92) _) _
                    simp only [Act.put, List.setIfInBounds_toArray, List.set_cons_zero, List.set_cons_succ]
                    refine wpAnyH_take (i := 10) (oi := _) (v := .bool false) rfl (by kernel_rfl) (by kernel_rfl) (by kernel_rfl) (fun _ _ _ h => h) (Or.inl ⟨by rfl, fun w5 hs5 => by obtain ⟨s0, s1, s2, s3⟩ := hs5; go_simp⟩) (by assumption) ?_
                    change wpAnyH _ _ _ _ _ _ _ (Act.put _ (some 93) _) _
                    simp only [Act.put, List.setIfInBounds_toArray, List.set_cons_zero, List.set_cons_succ]
                    refine wpAnyH_take (i := 11) (oi := _) (v := .bool false) rfl (by kernel_rfl) (by kernel_rfl) (by kernel_rfl) (fun _ _ _ h => h) (Or.inl ⟨by rfl, fun w5 hs5 => by obtain ⟨s0, s1, s2, s3⟩ := hs5; go_simp⟩) (by assumption) ?_
                    change wpAnyH _ _ _ _ _ _ _ (Act.put _ (some 94) _) _
                    simp only [Act.put, List.setIfInBounds_toArray, List.set_cons_zero, List.set_cons_succ]
                    refine wpAnyH_take (i := 12) (oi := _) (v := .bool false) rfl (by kernel_rfl) (by kernel_rfl) (by kernel_rfl) (fun _ _ _ h => h) (Or.inl ⟨by rfl, fun w5 hs5 => by obtain ⟨s0, s1, s2, s3⟩ := hs5; go_simp⟩) (by assumption) ?_
                    change wpAnyH _ _ _ _ _ _ _ (Act.put _ (some 95) _) _
                    simp only [Act.put, List.setIfInBounds_toArray, List.set_cons_zero, List.set_cons_succ]
                    refine wpAnyH_take (i := 13) (oi := _) (v := undef) rfl (by kernel_rfl) (by kernel_rfl) (by kernel_rfl) (fun _ _ _ h => h) (Or.inr ⟨by rfl, rfl⟩) (by assumption) ?_
                    change wpAnyH _ _ _ _ _ _ _ (Act.put _ (some 96) _) _
                    simp only [Act.put, List.setIfInBounds_toArray, List.set_cons_zero, List.set_cons_succ]
                    refine wpAnyH_take (i := 14) (oi := _) (v := undef) rfl (by kernel_rfl) (by kernel_rfl) (by kernel_rfl) (fun _ _ _ h => h) (Or.inr ⟨by rfl, rfl⟩) (by assumption) ?_
                    change wpAnyH _ _ _ _ _ _ _ (Act.put _ (some 97) _) _
                    simp only [Act.put, List.setIfInBounds_toArray, List.set_cons_zero, List.set_cons_succ]
                    refine wpAnyH_take (i := 15) (oi := _) (v := undef) rfl (by kernel_rfl) (by kernel_rfl) (by kernel_rfl) (fun _ _ _ h => h) (Or.inr ⟨by rfl, rfl⟩) (by assumption) ?_
                    change wpAnyH _ _ _ _ _ _ _ (Act.put _ (some 98) _) _
                    simp only [Act.put, List.setIfInBounds_toArray, List.set_cons_zero, List.set_cons_succ]
                    refine wpAnyH_take (i := 16) (oi := _) (v := undef) rfl (by kernel_rfl) (by kernel_rfl) (by kernel_rfl) (fun _ _ _ h => h) (Or.inr ⟨by rfl, rfl⟩) (by assumption) ?_
                    change wpAnyH _ _ _ _ _ _ _ (Act.put _ (some 99) _) _
                    simp only [Act.put, List.setIfInBounds_toArray, List.set_cons_zero, List.set_cons_succ]
                    refine wpAnyH_take (i := 17) (oi := _) (v := undef) rfl (by kernel_rfl) (by kernel_rfl) (by kernel_rfl) (fun _ _ _ h => h) (Or.inr ⟨by rfl, rfl⟩) (by assumption) ?_
                    change wpAnyH _ _ _ _ _ _ _ (Act.put _ (some 100) _) _
                    simp only [Act.put, List.setIfInBounds_toArray, List.set_cons_zero, List.set_cons_succ]
                    refine wpAnyH_take (i := 18) (oi := _) (v := undef) rfl (by kernel_rfl) (by kernel_rfl) (by kernel_rfl) (fun _ _ _ h => h) (Or.inr ⟨by rfl, rfl⟩) (by assumption) ?_
                    change wpAnyH _ _ _ _ _ _ _ (Act.put _ (some 101) _) _
                    simp only [Act.put, List.setIfInBounds_toArray, List.set_cons_zero, List.set_cons_succ]
                    refine wpAnyH_take (i := 19) (oi := _) (v := undef) rfl (by kernel_rfl) (by kernel_rfl) (by kernel_rfl) (fun _ _ _ h => h) (Or.inr ⟨by rfl, rfl⟩) (by assumption) ?_
                    change wpAnyH _ _ _ _ _ _ _ (Act.put _ (some 102) _) _
                    simp only [Act.put, List.setIfInBounds_toArray, List.set_cons_zero, List.set_cons_succ]
                    refine wpAnyH_take (i := 20) (oi := _) (v := undef) rfl (by kernel_rfl) (by kernel_rfl) (by kernel_rfl) (fun _ _ _ h => h) (Or.inr ⟨by rfl, rfl⟩) (by assumption) ?_
                    change wpAnyH _ _ _ _ _ _ _ (Act.put _ (some 103) _) _
                    simp only [Act.put, List.setIfInBounds_toArray, List.set_cons_zero, List.set_cons_succ]
                    refine wpAnyH_take (i := 21) (oi := _) (v := undef) rfl (by kernel_rfl) (by kernel_rfl) (by kernel_rfl) (fun _ _ _ h => h) (Or.inr ⟨by rfl, rfl⟩) (by assumption) ?_
                    change wpAnyH _ _ _ _ _ _ _ (Act.put _ (some 104) _) _
                    simp only [Act.put, List.setIfInBounds_toArray, List.set_cons_zero, List.set_cons_succ]
                    refine wpAnyH_take (i := 22) (oi := _) (v := undef) rfl (by kernel_rfl) (by kernel_rfl) (by kernel_rfl) (fun _ _ _ h => h) (Or.inr ⟨by rfl, rfl⟩) (by assumption) ?_
                    change wpAnyH _ _ _ _ _ _ _ (Act.put _ (some 105) _) _
                    simp only [Act.put, List.setIfInBounds_toArray, List.set_cons_zero, List.set_cons_succ]
                    refine wpAnyH_take (i := 23) (oi := _) (v := undef) rfl (by kernel_rfl) (by kernel_rfl) (by kernel_rfl) (fun _ _ _ h => h) (Or.inr ⟨by rfl, rfl⟩) (by assumption) ?_
                    change wpAnyH _ _ _ _ _ _ _ (Act.put _ (some 106) _) _
                    simp only [Act.put, List.setIfInBounds_toArray, List.set_cons_zero, List.set_cons_succ]
                    refine wpAnyH_take (i := 24) (oi := _) (v := undef) rfl (by kernel_rfl) (by kernel_rfl) (by kernel_rfl) (fun _ _ _ h => h) (Or.inr ⟨by rfl, rfl⟩) (by assumption) ?_
                    change wpAnyH _ _ _ _ _ _ _ (Act.put _ (some 107) _) _
                    simp only [Act.put, List.setIfInBounds_toArray, List.set_cons_zero, List.set_cons_succ]
                    refine wpAnyH_take (i := 25) (oi := _) (v := undef) rfl (by kernel_rfl) (by kernel_rfl) (by kernel_rfl) (fun _ _ _ h => h) (Or.inr ⟨by rfl, rfl⟩) (by assumption) ?_
                    change wpAnyH _ _ _ _ _ _ _ (Act.put _ (some 108) _) _
                    simp only [Act.put, List.setIfInBounds_toArray, List.set_cons_zero, List.set_cons_succ]
                    refine wpAnyH_take (i := 26) (oi := _) (v := .bool false) rfl (by kernel_rfl) (by kernel_rfl) (by kernel_rfl) (fun _ _ _ h => h) (Or.inl ⟨by rfl, fun w5 hs5 => by obtain ⟨s0, s1, s2, s3⟩ := hs5; go_simp⟩) (by assumption) ?_
                    change wpAnyH _ _ _ _ _ _ _ (Act.put _ (some 109) _) _
                    simp only [Act.put, List.setIfInBounds_toArray, List.set_cons_zero, List.set_cons_succ]
                    refine wpAnyH_take (i := 27) (oi := _) (v := .bool false) rfl (by kernel_rfl) (by kernel_rfl) (by kernel_rfl) (fun _ _ _ h => h) (Or.inl ⟨by rfl, fun w5 hs5 => by obtain ⟨s0, s1, s2, s3⟩ := hs5; go_simp⟩) (by assumption) ?_
                    change wpAnyH _ _ _ _ _ _ _ (Act.put _ (some 110) _) _
                    simp only [Act.put, List.setIfInBounds_toArray, List.set_cons_zero, List.set_cons_succ]
                    refine wpAnyH_done (by kernel_rfl) ?_ _
                    clear hHeld
                    have St9 := Lib.hid (St8.out.went kC)
                    go_wp2
                    go_roundw
                    case rel => exact ⟨k + 1, by omega, by go_num, St9.out⟩
                    case measure => simp [intOf]; omega
                  · have WY := Lib.hid (fun a b c d w1 (hA : Sep.Reads a (ivs (lst (folB G left) (G.terms.length + 1))) w1) (hB : Sep.Reads b (ivs (lst (folB G x) (G.terms.length + 1))) w1) => show Calls Tryd.prog 10 #[.slice a (lst (folB G left) (G.terms.length + 1)).length c, .slice b (lst (folB G x) (G.terms.length + 1)).length d] w1 (Is (.bool true) w1) from by
                      have t := WI.out _ _ a b c d w1 hA hB (lst_le _ (by omega)) (lst_le _ (by omega))
                      rwa [U4.out rfl] at t)
                    go_wp2
                    go_region_held3 (fun w' => w'.cell? ⟨q, 0, none⟩ = some (.int .i64 left) ∧ w'.cell? ⟨q, 1, none⟩ = some (.slice (some ⟨b4, o4, none⟩) R.length (k + 1)) ∧ w'.cell? ⟨b4, o4 + k, none⟩ = some (.int .i64 x) ∧ Below w8.heap.size w8 w')
                      (exact HQ.out _ (by assumption))
                      (first
                        | (go_at_call 14; (with_reducible refine (FO.out x _ (Gr.step St8.out.b3 hbd)).mono ?_); rintro e w9 ⟨fa, fc, rfl, hR9, _, hb⟩; have kB : Below w8.heap.size w8 w9 := Gr.step hbd hb; have Q9 := Lib.hid hR9; have M9 := Lib.hid (M8.out.below kB (Nat.le_refl _)); clear hR9 hb)
                        | (go_at_call 10; (with_reducible refine (WX.out _ _ _ _ _ M9.out Q9.out).mono ?_); rintro e w10 ⟨rfl, hb⟩; have kC : Below w8.heap.size w8 w10 := Gr.step kB hb; clear hb)
                        | (go_at_call 14; (with_reducible refine (FO.out left _ (Gr.step St8.out.b3 kC)).mono ?_); rintro e w11 ⟨ga, gc, rfl, hR11, _, hb⟩; have kD : Below w8.heap.size w8 w11 := Gr.step kC hb; have G11 := Lib.hid hR11; clear hR11 hb)
                        | (go_at_call 14; (with_reducible refine (FO.out x _ (Gr.step St8.out.b3 kD)).mono ?_); rintro e w12 ⟨ha, hc, rfl, hR12, _, hb⟩; have kE : Below w8.heap.size w8 w12 := Gr.step kD hb; have H12 := Lib.hid hR12; have G12 := Lib.hid (G11.out.below hb (Nat.le_refl _)); clear hR12 hb)
                        | (go_at_call 14; (with_reducible refine (FO.out x _ (Gr.step St8.out.b3 kC)).mono ?_); rintro e w11 ⟨ha, hc, rfl, hR11, _, hb⟩; have kD : Below w8.heap.size w8 w11 := Gr.step kC hb; have H11 := Lib.hid hR11; clear hR11 hb)
                        | (go_at_call 14; (with_reducible refine (FO.out left _ (Gr.step St8.out.b3 kD)).mono ?_); rintro e w12 ⟨ga, gc, rfl, hR12, _, hb⟩; have kE : Below w8.heap.size w8 w12 := Gr.step kD hb; have G12 := Lib.hid hR12; have H12 := Lib.hid (H11.out.below hb (Nat.le_refl _)); clear hR12 hb)
                        | (go_at_call 10; (with_reducible refine (WY.out _ _ _ _ _ G12.out H12.out).mono ?_); rintro e w13 ⟨rfl, hb⟩; have kF : Below w8.heap.size w8 w13 := Gr.step kE hb; clear hb)
                        | fail)
                    all_goals
                      have St9 := Lib.hid (St8.out.went kF)
                      go_wp2
                      go_roundw
                      case rel => exact ⟨k + 1, by omega, by go_num, St9.out⟩
                      case measure => simp [intOf]; omega
                · obtain ⟨y0, y1, yf⟩ := St8.out.box.two
                  have HQ := Lib.hid (show ∀ w', Below w8.heap.size w8 w' → w'.cell? ⟨q, 0, none⟩ = some (.int .i64 left) ∧ w'.cell? ⟨q, 1, none⟩ = some (.slice (some ⟨b4, o4, none⟩) R.length rc) ∧ w'.cell? ⟨b4, o4 + k, none⟩ = some (.int .i64 x) ∧ Below w8.heap.size w8 w' from
                    fun w' hb => ⟨cell_later hb y0, cell_later hb y1, cell_later hb hc8, hb⟩)
                  have hbd := drawn w8
                  have WX := Lib.hid (fun a b c d w1 (hA : Sep.Reads a (ivs (lst (lineB (canB G) (fstB G) (R.drop (k + 1))) (G.terms.length + 1))) w1) (hB : Sep.Reads b (ivs (lst (folB G x) (G.terms.length + 1))) w1) => show Calls Tryd.prog 10 #[.slice a (lst (lineB (canB G) (fstB G) (R.drop (k + 1))) (G.terms.length + 1)).length c, .slice b (lst (folB G x) (G.terms.length + 1)).length d] w1 (Is (.bool true) w1) from by
                    have t := WI.out _ _ a b c d w1 hA hB (lst_le _ (by omega)) (lst_le _ (by omega))
                    rwa [U3.out] at t)
                  clear LC A1 A2 HA y0 y1 yf hcn Sn U3
                  cases al
                  · go_wp2
                    refine wp_region_held_drew (S := fun w' => w'.cell? ⟨q, 0, none⟩ = some (.int .i64 left) ∧ w'.cell? ⟨q, 1, none⟩ = some (.slice (some ⟨b4, o4, none⟩) R.length rc) ∧ w'.cell? ⟨b4, o4 + k, none⟩ = some (.int .i64 x) ∧ Below w8.heap.size w8 w') (by kernel_rfl) (HQ.out _ hbd) (fun hHeld => ?_)
                    refine wpAnyH_take (i := 0) (oi := _) (v := .slice ma (lst (lineB (canB G) (fstB G) (R.drop (k + 1))) (G.terms.length + 1)).length mc) rfl (by kernel_rfl) (by kernel_rfl) (by kernel_rfl) (fun _ _ _ h => h) (Or.inl ⟨by rfl, fun w5 hs5 => by obtain ⟨s0, s1, s2, s3⟩ := hs5; go_simp⟩) (by assumption) ?_
                    change wpAnyH _ _ _ _ _ _ _ (Act.put _ (some 83) _) _
                    simp only [Act.put, List.setIfInBounds_toArray, List.set_cons_zero, List.set_cons_succ]
                    refine wpAnyH_take (i := 1) (oi := _) (v := v) rfl (by kernel_rfl) (by kernel_rfl) (by kernel_rfl) (fun _ _ _ h => h) (Or.inl ⟨by rfl, fun w5 hs5 => by obtain ⟨s0, s1, s2, s3⟩ := hs5; go_simp⟩) (by assumption) ?_
                    change wpAnyH _ _ _ _ _ _ _ (Act.put _ (some 84) _) _
                    simp only [Act.put, List.setIfInBounds_toArray, List.set_cons_zero, List.set_cons_succ]
                    refine wpAnyH_take (i := 2) (oi := _) (v := .pointer (some ⟨q, 1, none⟩)) rfl (by kernel_rfl) (by kernel_rfl) (by kernel_rfl) (fun _ _ _ h => h) (Or.inl ⟨by rfl, fun w5 hs5 => by obtain ⟨s0, s1, s2, s3⟩ := hs5; go_simp⟩) (by assumption) ?_
                    change wpAnyH _ _ _ _ _ _ _ (Act.put _ (some 85) _) _
                    simp only [Act.put, List.setIfInBounds_toArray, List.set_cons_zero, List.set_cons_succ]
                    refine wpAnyH_take (i := 3) (oi := _) (v := .slice (some ⟨b4, o4, none⟩) R.length rc) rfl (by kernel_rfl) (by kernel_rfl) (by kernel_rfl) (fun _ _ _ h => h) (Or.inl ⟨by rfl, fun w5 hs5 => by obtain ⟨s0, s1, s2, s3⟩ := hs5; go_simp⟩) (by assumption) ?_
                    change wpAnyH _ _ _ _ _ _ _ (Act.put _ (some 86) _) _
                    simp only [Act.put, List.setIfInBounds_toArray, List.set_cons_zero, List.set_cons_succ]
                    refine wpAnyH_take (i := 4) (oi := _) (v := .int .i64 k) rfl (by kernel_rfl) (by kernel_rfl) (by kernel_rfl) (fun _ _ _ h => h) (Or.inl ⟨by rfl, fun w5 hs5 => by obtain ⟨s0, s1, s2, s3⟩ := hs5; go_simp⟩) (by assumption) ?_
                    change wpAnyH _ _ _ _ _ _ _ (Act.put _ (some 87) _) _
                    simp only [Act.put, List.setIfInBounds_toArray, List.set_cons_zero, List.set_cons_succ]
                    refine wpAnyH_take (i := 5) (oi := _) (v := .pointer (some ⟨b4, o4 + k, none⟩)) rfl (by kernel_rfl) (by kernel_rfl) (by kernel_rfl) (fun _ _ _ h => h) (Or.inl ⟨by rfl, fun w5 hs5 => by obtain ⟨s0, s1, s2, s3⟩ := hs5; go_simp⟩) (by assumption) ?_
                    change wpAnyH _ _ _ _ _ _ _ (Act.put _ (some 88) _) _
                    simp only [Act.put, List.setIfInBounds_toArray, List.set_cons_zero, List.set_cons_succ]
                    refine wpAnyH_take (i := 6) (oi := _) (v := .int .i64 x) rfl (by kernel_rfl) (by kernel_rfl) (by kernel_rfl) (fun _ _ _ h => h) (Or.inl ⟨by rfl, fun w5 hs5 => by obtain ⟨s0, s1, s2, s3⟩ := hs5; go_simp⟩) (by assumption) ?_
                    change wpAnyH _ _ _ _ _ _ _ (Act.put _ (some 89) _) _
                    simp only [Act.put, List.setIfInBounds_toArray, List.set_cons_zero, List.set_cons_succ]
                    refine wpAnyH_ready (rs := [7]) (by kernel_rfl) (by simp) ?_
                    refine AllReadyH.cons (o := _) rfl (fun K' hK' => ?_) AllReadyH.nil
                    go_simp
                    refine (FO.out x _ (Gr.step St8.out.b3 hbd)).mono ?_
                    rintro e w9 ⟨fa, fc, rfl, hR9, _, hb⟩
                    have kB := Gr.step hbd hb
                    have Q9 := Lib.hid hR9; have M9 := Lib.hid (M8.out.below kB (Nat.le_refl _)); clear hR9
                    clear hb hHeld
                    refine hK'.out _ _ (HQ.out _ kB) (fun hHeld => ?_)
                    clear hK'
                    refine wpAnyH_ready (rs := [8]) (by kernel_rfl) (by simp) ?_
                    refine AllReadyH.cons (o := _) rfl (fun K' hK' => ?_) AllReadyH.nil
                    go_simp
                    refine (WX.out _ _ _ _ _ M9.out Q9.out).mono ?_
                    rintro e w10 ⟨rfl, hb⟩
                    have kC := Gr.step kB hb
                    clear hb hHeld
                    refine hK'.out _ _ (HQ.out _ kC) (fun hHeld => ?_)
                    clear hK'
                    refine wpAnyH_take (i := 9) (oi := _) (v := .bool false) rfl (by kernel_rfl) (by kernel_rfl) (by kernel_rfl) (fun _ _ _ h => h) (Or.inl ⟨by rfl, fun w5 hs5 => by obtain ⟨s0, s1, s2, s3⟩ := hs5; go_simp⟩) (by assumption) ?_
                    change wpAnyH _ _ _ _ _ _ _ (Act.put _ (some 92) _) _
                    simp only [Act.put, List.setIfInBounds_toArray, List.set_cons_zero, List.set_cons_succ]
                    refine wpAnyH_take (i := 10) (oi := _) (v := .bool false) rfl (by kernel_rfl) (by kernel_rfl) (by kernel_rfl) (fun _ _ _ h => h) (Or.inl ⟨by rfl, fun w5 hs5 => by obtain ⟨s0, s1, s2, s3⟩ := hs5; go_simp⟩) (by assumption) ?_
                    change wpAnyH _ _ _ _ _ _ _ (Act.put _ (some 93) _) _
                    simp only [Act.put, List.setIfInBounds_toArray, List.set_cons_zero, List.set_cons_succ]
                    refine wpAnyH_take (i := 11) (oi := _) (v := .bool false) rfl (by kernel_rfl) (by kernel_rfl) (by kernel_rfl) (fun _ _ _ h => h) (Or.inl ⟨by rfl, fun w5 hs5 => by obtain ⟨s0, s1, s2, s3⟩ := hs5; go_simp⟩) (by assumption) ?_
                    change wpAnyH _ _ _ _ _ _ _ (Act.put _ (some 94) _) _
                    simp only [Act.put, List.setIfInBounds_toArray, List.set_cons_zero, List.set_cons_succ]
                    refine wpAnyH_take (i := 12) (oi := _) (v := .bool false) rfl (by kernel_rfl) (by kernel_rfl) (by kernel_rfl) (fun _ _ _ h => h) (Or.inl ⟨by rfl, fun w5 hs5 => by obtain ⟨s0, s1, s2, s3⟩ := hs5; go_simp⟩) (by assumption) ?_
                    change wpAnyH _ _ _ _ _ _ _ (Act.put _ (some 95) _) _
                    simp only [Act.put, List.setIfInBounds_toArray, List.set_cons_zero, List.set_cons_succ]
                    refine wpAnyH_take (i := 13) (oi := _) (v := undef) rfl (by kernel_rfl) (by kernel_rfl) (by kernel_rfl) (fun _ _ _ h => h) (Or.inr ⟨by rfl, rfl⟩) (by assumption) ?_
                    change wpAnyH _ _ _ _ _ _ _ (Act.put _ (some 96) _) _
                    simp only [Act.put, List.setIfInBounds_toArray, List.set_cons_zero, List.set_cons_succ]
                    refine wpAnyH_take (i := 14) (oi := _) (v := undef) rfl (by kernel_rfl) (by kernel_rfl) (by kernel_rfl) (fun _ _ _ h => h) (Or.inr ⟨by rfl, rfl⟩) (by assumption) ?_
                    change wpAnyH _ _ _ _ _ _ _ (Act.put _ (some 97) _) _
                    simp only [Act.put, List.setIfInBounds_toArray, List.set_cons_zero, List.set_cons_succ]
                    refine wpAnyH_take (i := 15) (oi := _) (v := undef) rfl (by kernel_rfl) (by kernel_rfl) (by kernel_rfl) (fun _ _ _ h => h) (Or.inr ⟨by rfl, rfl⟩) (by assumption) ?_
                    change wpAnyH _ _ _ _ _ _ _ (Act.put _ (some 98) _) _
                    simp only [Act.put, List.setIfInBounds_toArray, List.set_cons_zero, List.set_cons_succ]
                    refine wpAnyH_take (i := 16) (oi := _) (v := undef) rfl (by kernel_rfl) (by kernel_rfl) (by kernel_rfl) (fun _ _ _ h => h) (Or.inr ⟨by rfl, rfl⟩) (by assumption) ?_
                    change wpAnyH _ _ _ _ _ _ _ (Act.put _ (some 99) _) _
                    simp only [Act.put, List.setIfInBounds_toArray, List.set_cons_zero, List.set_cons_succ]
                    refine wpAnyH_take (i := 17) (oi := _) (v := undef) rfl (by kernel_rfl) (by kernel_rfl) (by kernel_rfl) (fun _ _ _ h => h) (Or.inr ⟨by rfl, rfl⟩) (by assumption) ?_
                    change wpAnyH _ _ _ _ _ _ _ (Act.put _ (some 100) _) _
                    simp only [Act.put, List.setIfInBounds_toArray, List.set_cons_zero, List.set_cons_succ]
                    refine wpAnyH_take (i := 18) (oi := _) (v := undef) rfl (by kernel_rfl) (by kernel_rfl) (by kernel_rfl) (fun _ _ _ h => h) (Or.inr ⟨by rfl, rfl⟩) (by assumption) ?_
                    change wpAnyH _ _ _ _ _ _ _ (Act.put _ (some 101) _) _
                    simp only [Act.put, List.setIfInBounds_toArray, List.set_cons_zero, List.set_cons_succ]
                    refine wpAnyH_take (i := 19) (oi := _) (v := undef) rfl (by kernel_rfl) (by kernel_rfl) (by kernel_rfl) (fun _ _ _ h => h) (Or.inr ⟨by rfl, rfl⟩) (by assumption) ?_
                    change wpAnyH _ _ _ _ _ _ _ (Act.put _ (some 102) _) _
                    simp only [Act.put, List.setIfInBounds_toArray, List.set_cons_zero, List.set_cons_succ]
                    refine wpAnyH_take (i := 20) (oi := _) (v := undef) rfl (by kernel_rfl) (by kernel_rfl) (by kernel_rfl) (fun _ _ _ h => h) (Or.inr ⟨by rfl, rfl⟩) (by assumption) ?_
                    change wpAnyH _ _ _ _ _ _ _ (Act.put _ (some 103) _) _
                    simp only [Act.put, List.setIfInBounds_toArray, List.set_cons_zero, List.set_cons_succ]
                    refine wpAnyH_take (i := 21) (oi := _) (v := undef) rfl (by kernel_rfl) (by kernel_rfl) (by kernel_rfl) (fun _ _ _ h => h) (Or.inr ⟨by rfl, rfl⟩) (by assumption) ?_
                    change wpAnyH _ _ _ _ _ _ _ (Act.put _ (some 104) _) _
                    simp only [Act.put, List.setIfInBounds_toArray, List.set_cons_zero, List.set_cons_succ]
                    refine wpAnyH_take (i := 22) (oi := _) (v := undef) rfl (by kernel_rfl) (by kernel_rfl) (by kernel_rfl) (fun _ _ _ h => h) (Or.inr ⟨by rfl, rfl⟩) (by assumption) ?_
                    change wpAnyH _ _ _ _ _ _ _ (Act.put _ (some 105) _) _
                    simp only [Act.put, List.setIfInBounds_toArray, List.set_cons_zero, List.set_cons_succ]
                    refine wpAnyH_take (i := 23) (oi := _) (v := undef) rfl (by kernel_rfl) (by kernel_rfl) (by kernel_rfl) (fun _ _ _ h => h) (Or.inr ⟨by rfl, rfl⟩) (by assumption) ?_
                    change wpAnyH _ _ _ _ _ _ _ (Act.put _ (some 106) _) _
                    simp only [Act.put, List.setIfInBounds_toArray, List.set_cons_zero, List.set_cons_succ]
                    refine wpAnyH_take (i := 24) (oi := _) (v := undef) rfl (by kernel_rfl) (by kernel_rfl) (by kernel_rfl) (fun _ _ _ h => h) (Or.inr ⟨by rfl, rfl⟩) (by assumption) ?_
                    change wpAnyH _ _ _ _ _ _ _ (Act.put _ (some 107) _) _
                    simp only [Act.put, List.setIfInBounds_toArray, List.set_cons_zero, List.set_cons_succ]
                    refine wpAnyH_take (i := 25) (oi := _) (v := undef) rfl (by kernel_rfl) (by kernel_rfl) (by kernel_rfl) (fun _ _ _ h => h) (Or.inr ⟨by rfl, rfl⟩) (by assumption) ?_
                    change wpAnyH _ _ _ _ _ _ _ (Act.put _ (some 108) _) _
                    simp only [Act.put, List.setIfInBounds_toArray, List.set_cons_zero, List.set_cons_succ]
                    refine wpAnyH_take (i := 26) (oi := _) (v := .bool false) rfl (by kernel_rfl) (by kernel_rfl) (by kernel_rfl) (fun _ _ _ h => h) (Or.inl ⟨by rfl, fun w5 hs5 => by obtain ⟨s0, s1, s2, s3⟩ := hs5; go_simp⟩) (by assumption) ?_
                    change wpAnyH _ _ _ _ _ _ _ (Act.put _ (some 109) _) _
                    simp only [Act.put, List.setIfInBounds_toArray, List.set_cons_zero, List.set_cons_succ]
                    refine wpAnyH_take (i := 27) (oi := _) (v := .bool false) rfl (by kernel_rfl) (by kernel_rfl) (by kernel_rfl) (fun _ _ _ h => h) (Or.inl ⟨by rfl, fun w5 hs5 => by obtain ⟨s0, s1, s2, s3⟩ := hs5; go_simp⟩) (by assumption) ?_
                    change wpAnyH _ _ _ _ _ _ _ (Act.put _ (some 110) _) _
                    simp only [Act.put, List.setIfInBounds_toArray, List.set_cons_zero, List.set_cons_succ]
                    refine wpAnyH_done (by kernel_rfl) ?_ _
                    clear hHeld
                    have St9 := Lib.hid (St8.out.went kC)
                    go_wp2
                    go_roundw
                    case rel => exact ⟨k + 1, by omega, by go_num, St9.out⟩
                    case measure => simp [intOf]; omega
                  · have WY := Lib.hid (fun a b c d w1 (hA : Sep.Reads a (ivs (lst (folB G left) (G.terms.length + 1))) w1) (hB : Sep.Reads b (ivs (lst (folB G x) (G.terms.length + 1))) w1) => show Calls Tryd.prog 10 #[.slice a (lst (folB G left) (G.terms.length + 1)).length c, .slice b (lst (folB G x) (G.terms.length + 1)).length d] w1 (Is (.bool true) w1) from by
                      have t := WI.out _ _ a b c d w1 hA hB (lst_le _ (by omega)) (lst_le _ (by omega))
                      rwa [U4.out rfl] at t)
                    go_wp2
                    go_region_held3 (fun w' => w'.cell? ⟨q, 0, none⟩ = some (.int .i64 left) ∧ w'.cell? ⟨q, 1, none⟩ = some (.slice (some ⟨b4, o4, none⟩) R.length rc) ∧ w'.cell? ⟨b4, o4 + k, none⟩ = some (.int .i64 x) ∧ Below w8.heap.size w8 w')
                      (exact HQ.out _ (by assumption))
                      (first
                        | (go_at_call 14; (with_reducible refine (FO.out x _ (Gr.step St8.out.b3 hbd)).mono ?_); rintro e w9 ⟨fa, fc, rfl, hR9, _, hb⟩; have kB : Below w8.heap.size w8 w9 := Gr.step hbd hb; have Q9 := Lib.hid hR9; have M9 := Lib.hid (M8.out.below kB (Nat.le_refl _)); clear hR9 hb)
                        | (go_at_call 10; (with_reducible refine (WX.out _ _ _ _ _ M9.out Q9.out).mono ?_); rintro e w10 ⟨rfl, hb⟩; have kC : Below w8.heap.size w8 w10 := Gr.step kB hb; clear hb)
                        | (go_at_call 14; (with_reducible refine (FO.out left _ (Gr.step St8.out.b3 kC)).mono ?_); rintro e w11 ⟨ga, gc, rfl, hR11, _, hb⟩; have kD : Below w8.heap.size w8 w11 := Gr.step kC hb; have G11 := Lib.hid hR11; clear hR11 hb)
                        | (go_at_call 14; (with_reducible refine (FO.out x _ (Gr.step St8.out.b3 kD)).mono ?_); rintro e w12 ⟨ha, hc, rfl, hR12, _, hb⟩; have kE : Below w8.heap.size w8 w12 := Gr.step kD hb; have H12 := Lib.hid hR12; have G12 := Lib.hid (G11.out.below hb (Nat.le_refl _)); clear hR12 hb)
                        | (go_at_call 14; (with_reducible refine (FO.out x _ (Gr.step St8.out.b3 kC)).mono ?_); rintro e w11 ⟨ha, hc, rfl, hR11, _, hb⟩; have kD : Below w8.heap.size w8 w11 := Gr.step kC hb; have H11 := Lib.hid hR11; clear hR11 hb)
                        | (go_at_call 14; (with_reducible refine (FO.out left _ (Gr.step St8.out.b3 kD)).mono ?_); rintro e w12 ⟨ga, gc, rfl, hR12, _, hb⟩; have kE : Below w8.heap.size w8 w12 := Gr.step kD hb; have G12 := Lib.hid hR12; have H12 := Lib.hid (H11.out.below hb (Nat.le_refl _)); clear hR12 hb)
                        | (go_at_call 10; (with_reducible refine (WY.out _ _ _ _ _ G12.out H12.out).mono ?_); rintro e w13 ⟨rfl, hb⟩; have kF : Below w8.heap.size w8 w13 := Gr.step kE hb; clear hb)
                        | fail)
                    all_goals
                      have St9 := Lib.hid (St8.out.went kF)
                      go_wp2
                      go_roundw
                      case rel => exact ⟨k + 1, by omega, by go_num, St9.out⟩
                      case measure => simp [intOf]; omega
            · have St9 := Lib.hid St.out
              go_wp2
              go_roundw
              case rel => exact ⟨j + 1, by omega, by go_num, St9.out.x, St9.out.b3⟩
              case measure => simp [intOf]; omega
      · have hE : j = G.rules.length := by omega
        have WS := Lib.hid (w_start G (G.terms.length + 1) (by omega))
        have bx := boxed wr (.cells #[.int .i64 0] 3)
        have RZ : Sep.Reads (some ⟨wr.heap.size, 0, none⟩) (ivs [0]) (wr.alloc (.cells #[.int .i64 0] 3)) := fun i hi => by
          have h2 : i < 1 := hi
          obtain rfl : i = 0 := by omega
          exact ⟨wr.heap.size, 0, rfl, cell_new rfl rfl⟩
        have RZ0 := Lib.hid RZ
        have FC := Lib.hid (FO.out G.start _ (Gr.step B.out bx))
        have X4 := Lib.hid (X.out.went bx)
        have hwl : w.heap.size < wr.heap.size := X.out.size
        clear bx RZ X B
        go_wp2_with fail
        refine FC.out.mono ?_
        rintro e w9 ⟨fa, fc, rfl, hR9, _, hb⟩
        have X5 := Lib.hid (X4.out.went hb)
        have Q9 := Lib.hid (RZ0.out.below hb (Nat.le_refl _))
        have WC := Lib.hid (WI.out [0] _ _ fa 1 fc w9 Q9.out hR9 (by simp) (lst_le _ (by omega)))
        rw [WS.out] at WC
        clear hR9 hb x0 x1 x2 x3 X4 FC RZ0
        go_wp2_with fail
        refine WC.out.mono ?_
        rintro e w10 ⟨rfl, hb⟩
        have X6 := Lib.hid (X5.out.went hb)
        clear hb X5 WC Q9
        go_wp2_with (go_at_call 7; refine (AW.out _ X6.out.below).mono ?_; rintro e w11 ⟨rfl, hb⟩; have HB := Lib.hid (Gr.step X6.out.below hb); clear hb)
        go_ret
        exact ⟨rfl, HB.out⟩
  · have hb : (checkN G != 0) = true := by simpa using hc
    clear hc
    generalize checkN G = ck at *
    go_wp2_with fail
    refine (CK.out _ X1.out.below).mono ?_
    rintro e w2 ⟨rfl, hb2⟩
    have X2 := Lib.hid (X1.out.went hb2)
    clear hb2 x0 x1 x2 x3
    go_wp2_with (go_at_call 7; refine (AW.out _ X2.out.below).mono ?_; rintro e w3 ⟨rfl, hb⟩; have HB := Lib.hid (Gr.step X2.out.below hb); clear hb)
    go_ret
    exact ⟨rfl, HB.out⟩

end Go.Proofs.YtoipinnfmjaaaaaDoor.Fi
